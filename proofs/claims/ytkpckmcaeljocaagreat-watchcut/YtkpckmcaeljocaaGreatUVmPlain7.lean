/- Parts. -/
import Derived.Test.YtkpckmcaeljocaaGreatUVmPlain5
import Derived.Test.YtkpckmcaeljocaaGreatUM4
namespace Go.Proofs.YtkpckmcaeljocaaGreat
open Go.ChangeShapes Go.WideShapes Go.ChangeAt Go.RowKit
open Gr (Nd Res nd0 thereB deriveOf addOf gateOf cutOf rightsN wayOf gatesOf gatesW targetOf Wf NdOk GS IntsAt)
section
variable {C : Cx} {q : Vs} {s : Sg} {left : Nat} {w : World} {g nn sc mm nc : Nat} {ps qs : List Kd} {a b : V} {aa ba na : Option Addr} {ac bc : Nat}
set_option maxRecDepth 8000 in
set_option maxHeartbeats 4000000 in
theorem plain_ask_no (H : FrS C q s left ⟨some ⟨g, 0, none⟩, nn + 1 + 1, sc, (ps ++ [(a, aa, ac)]) ++ [(b, ba, bc)], na, mm, nc, qs⟩ w) (hn : nn ≤ 1999) (hk : a.kind ≠ 4) (k n : Int) : Calls Tryz.prog 149 #[.pointer (some ⟨C.fb, 0, none⟩), .agg #[.int .i64 19, .int .i64 k, .int .i64 n]] w fun e w' => PlainQ C ⟨some ⟨g, 0, none⟩, nn, sc, ps, na, mm, nc, qs⟩ (bad 2 left s) e w' := by
  obtain ⟨W, hW⟩ : ∃ W, W = plW w 19 k n := ⟨_, rfl⟩
  have H1 := pl_start H 19 k n
  rw [← hW] at H1
  obtain ⟨i0, i1, i2⟩ := pl_ins H1
  obtain ⟨s0, s1, s2, s3, s4⟩ := pl_cells H1
  have HH := hid (And.intro H H1)
  have HK := hid hk
  clear hk
  have HT := hid (xpop_any H1 (by omega))
  clear H H1
  unfold plW at hW
  go_enter Tryz.func149, Tryz.ntmps149
  rw [hW] at HT i0 i1 i2
  go_wp2_with (go_at_call 146; refine HT.out.mono ?_; rintro e w2 ⟨rfl, h2⟩; rw [← hW] at h2; have hq2 : Quiet w2 (w2.alloc (.cells #[.int .i64 b.kind, .int .i64 b.n, .slice ba b.l.length bc] 38)) := Kp.alloc _ _; have h3 := h2.fs.ext hq2 w2.heap.size (Nat.le_refl _) (heap_alloc_new w2 (.cells #[.int .i64 b.kind, .int .i64 b.n, .slice ba b.l.length bc] 38)) (.inl rfl); have hs3 := fsafe_ext (cs := #[.int .i64 b.kind, .int .i64 b.n, .slice ba b.l.length bc]) (t := 38) h2.safe hq2 (Nat.le_refl _); have H3 := hid (And.intro h3 (And.intro hs3 (And.intro h2.fs.xm h2.fs.bslt))); obtain ⟨y0, y1, y2⟩ := box_cells (heap_alloc_new w2 (.cells #[.int .i64 b.kind, .int .i64 b.n, .slice ba b.l.length bc] 38)); have d0 := cell_on (pl_cells h2.fs).1 (.cells #[.int .i64 b.kind, .int .i64 b.n, .slice ba b.l.length bc] 38); clear h2 h3 hs3 hq2)
  obtain ⟨W3, hW3⟩ : ∃ W3, W3 = w2.alloc (.cells #[.int .i64 b.kind, .int .i64 b.n, .slice ba b.l.length bc] 38) := ⟨_, rfl⟩
  rw [← hW3] at H3 y0 y1 y2 d0 ⊢
  clear hW3
  have HP := hid (fun (w' : World) (z : Quiet W3 w') => xtakeCap_no (H3.out.1.quiet z) (by omega) HK.out)
  go_region_dies
  all_goals (refine (HP.out _ (Kp.drew _)).mono ?_; rintro e w4 ⟨rfl, h4⟩; exact ⟨rfl, PlainQ.mk_bad rfl rfl (pl_bad HH.out.1 (BadF.less (C := C.pl w 19 k n) h4 H3.out.2.2.1))⟩)
set_option maxRecDepth 8000 in
set_option maxHeartbeats 8000000 in
theorem plain_ask (H : FrS C q s left ⟨some ⟨g, 0, none⟩, nn + 1 + 1, sc, (ps ++ [(a, aa, ac)]) ++ [(b, ba, bc)], na, mm, nc, qs⟩ w) (hn : nn ≤ 1999) (hk : a.kind = 4) (hfr : C.fr ≤ 20) (hC : C.fr < 20 → CallC C.m C.fr) (hb : b.check = 0) (hes : s.es.length + left ≤ 902000) (k n : Int) {v : V} (hg : (askR (CallF C.m.ms) C.m.ms C.fr (capV a.n) b left s).got = .ok v) : Calls Tryz.prog 149 #[.pointer (some ⟨C.fb, 0, none⟩), .agg #[.int .i64 19, .int .i64 k, .int .i64 n]] w fun e w' => PlainQ C ⟨some ⟨g, 0, none⟩, nn, sc, ps, na, mm, nc, qs⟩ (askR (CallF C.m.ms) C.m.ms C.fr (capV a.n) b left s) e w' := by
  obtain ⟨W, hW⟩ : ∃ W, W = plW w 19 k n := ⟨_, rfl⟩
  have H1 := pl_start H 19 k n
  rw [← hW] at H1
  obtain ⟨i0, i1, i2⟩ := pl_ins H1
  obtain ⟨s0, s1, s2, s3, s4⟩ := pl_cells H1
  have HH := hid (And.intro H H1)
  have HK := hid hk
  obtain ⟨o, ho⟩ : ∃ o, o = askR (CallF C.m.ms) C.m.ms C.fr (capV a.n) b left s := ⟨_, rfl⟩
  rw [← ho] at hg ⊢
  have HO := hid hg
  have HAK := hid (fun (Y : Nat → Prop) (w' : World) (m : MS C.m Y q s left C.fr w') (hs : SafeF (fun k => C.m.own q k ∨ Y k) (fun w => Is w b ba) w') => (show Calls Tryz.prog 167 #[.pointer (some ⟨C.m.mb, 0, none⟩), .int .i64 a.n, .agg #[.int .i64 b.kind, .int .i64 b.n, .slice ba b.l.length bc]] w' fun e w'' => MQ C.m Y q C.fr o w' e w'' by rw [ho]; exact xask_any m hfr hC hb hes hs))
  clear hk hg ho hfr hC hb hes
  have HT := hid (xpop_any H1 (by omega))
  clear H H1
  unfold plW at hW
  go_enter Tryz.func149, Tryz.ntmps149
  rw [hW] at HT i0 i1 i2
  go_wp2_with (go_at_call 146; refine HT.out.mono ?_; rintro e w2 ⟨rfl, h2⟩; rw [← hW] at h2; have hq2 : Quiet w2 (w2.alloc (.cells #[.int .i64 b.kind, .int .i64 b.n, .slice ba b.l.length bc] 38)) := Kp.alloc _ _; have h3 := h2.fs.ext hq2 w2.heap.size (Nat.le_refl _) (heap_alloc_new w2 (.cells #[.int .i64 b.kind, .int .i64 b.n, .slice ba b.l.length bc] 38)) (.inl rfl); have hs3 := fsafe_ext (cs := #[.int .i64 b.kind, .int .i64 b.n, .slice ba b.l.length bc]) (t := 38) h2.safe hq2 (Nat.le_refl _); have H3 := hid (And.intro h3 (And.intro hs3 (And.intro h2.fs.xm h2.fs.bslt))); obtain ⟨y0, y1, y2⟩ := box_cells (heap_alloc_new w2 (.cells #[.int .i64 b.kind, .int .i64 b.n, .slice ba b.l.length bc] 38)); have d0 := cell_on (pl_cells h2.fs).1 (.cells #[.int .i64 b.kind, .int .i64 b.n, .slice ba b.l.length bc] 38); clear h2 h3 hs3 hq2)
  obtain ⟨W3, hW3⟩ : ∃ W3, W3 = w2.alloc (.cells #[.int .i64 b.kind, .int .i64 b.n, .slice ba b.l.length bc] 38) := ⟨_, rfl⟩
  rw [← hW3] at H3 y0 y1 y2 d0 ⊢
  clear hW3
  have HP := hid (fun (w' : World) (z : Quiet W3 w') => And.intro (xtakeCap_yes (H3.out.1.quiet z) (by omega) HK.out) (safe_quiet H3.out.2.1 z))
  go_region_law ((first
    | (go_simp; go_at_call 167; refine (HAK.out _ _ H4.out.1.fs.m H4.out.2).mono ?_; rintro e w7 x7; obtain ⟨q7, a7, c7, rfl, g7, m7, s7⟩ := x7.ok HO.out; have h6 := H4.out.1.fs.mach g7 m7; have h5 := FrS.unread (C := C.pl w 19 k n) h6 H3.out.2.2.1 H3.out.2.2.2; have hb5 := pl_res h5; obtain ⟨m0, m1, m2⟩ := box_cells hb5; obtain ⟨f0, f1, f2⟩ := box_free3 hb5; have hz := lt_of_block hb5; clear hb5; have H5 := hid (And.intro h5 (fsafe_less (C := C.pl w 19 k n) (b := w2.heap.size) (cs := #[.int .i64 b.kind, .int .i64 b.n, .slice ba b.l.length bc]) (t := 38) s7)); clear h5 h6 g7 m7 s7 x7)
    | (go_simp; go_at_call 162; refine (HP.out _ (Kp.drew _)).1.mono ?_; rintro e w4 ⟨rfl, h4⟩; have sb4 := h4.on (HP.out _ (Kp.drew _)).2; obtain ⟨x0, x1, x2⟩ := box_cells (show w4.heap[w2.heap.size]? = some (.cells #[.int .i64 b.kind, .int .i64 b.n, .slice ba b.l.length bc] 38 (0, 0)) from (h4.fs.st (w2.heap.size, #[.int .i64 b.kind, .int .i64 b.n, .slice ba b.l.length bc], 38) (by simp [Cx.ext])).1); have x3 : w4.cell? ⟨C.fb, 0, none⟩ = some (.pointer (some ⟨C.m.mb, 0, none⟩)) := h4.fs.cells.1; have H4 := hid (And.intro h4 sb4); clear h4 sb4)))
  all_goals
    go_wp2
    refine bodyPost_ret (v := .agg #[.int .i64 v.kind, .int .i64 v.n, .slice a7 v.l.length c7]) (by simp [results, Tryz.results149, go_sem, m0, m1, m2]) rfl ?_
    exact pl_ok HH.out.1 HO.out H5.out.1 H5.out.2
set_option maxRecDepth 8000 in
set_option maxHeartbeats 8000000 in
theorem plain_ask_bad (H : FrS C q s left ⟨some ⟨g, 0, none⟩, nn + 1 + 1, sc, (ps ++ [(a, aa, ac)]) ++ [(b, ba, bc)], na, mm, nc, qs⟩ w) (hn : nn ≤ 1999) (hk : a.kind = 4) (hfr : C.fr ≤ 20) (hC : C.fr < 20 → CallC C.m C.fr) (hb : b.check = 0) (hes : s.es.length + left ≤ 902000) (k n : Int) {c : Int} (hg : (askR (CallF C.m.ms) C.m.ms C.fr (capV a.n) b left s).got = .error c) : Calls Tryz.prog 149 #[.pointer (some ⟨C.fb, 0, none⟩), .agg #[.int .i64 19, .int .i64 k, .int .i64 n]] w fun e w' => PlainQ C ⟨some ⟨g, 0, none⟩, nn, sc, ps, na, mm, nc, qs⟩ (askR (CallF C.m.ms) C.m.ms C.fr (capV a.n) b left s) e w' := by
  obtain ⟨W, hW⟩ : ∃ W, W = plW w 19 k n := ⟨_, rfl⟩
  have H1 := pl_start H 19 k n
  rw [← hW] at H1
  obtain ⟨i0, i1, i2⟩ := pl_ins H1
  obtain ⟨s0, s1, s2, s3, s4⟩ := pl_cells H1
  have HH := hid (And.intro H H1)
  have HK := hid hk
  obtain ⟨o, ho⟩ : ∃ o, o = askR (CallF C.m.ms) C.m.ms C.fr (capV a.n) b left s := ⟨_, rfl⟩
  rw [← ho] at hg ⊢
  have HO := hid hg
  have HAK := hid (fun (Y : Nat → Prop) (w' : World) (m : MS C.m Y q s left C.fr w') (hs : SafeF (fun k => C.m.own q k ∨ Y k) (fun w => Is w b ba) w') => (show Calls Tryz.prog 167 #[.pointer (some ⟨C.m.mb, 0, none⟩), .int .i64 a.n, .agg #[.int .i64 b.kind, .int .i64 b.n, .slice ba b.l.length bc]] w' fun e w'' => MQ C.m Y q C.fr o w' e w'' by rw [ho]; exact xask_any m hfr hC hb hes hs))
  clear hk hg ho hfr hC hb hes
  have HT := hid (xpop_any H1 (by omega))
  clear H H1
  unfold plW at hW
  go_enter Tryz.func149, Tryz.ntmps149
  rw [hW] at HT i0 i1 i2
  go_wp2_with (go_at_call 146; refine HT.out.mono ?_; rintro e w2 ⟨rfl, h2⟩; rw [← hW] at h2; have hq2 : Quiet w2 (w2.alloc (.cells #[.int .i64 b.kind, .int .i64 b.n, .slice ba b.l.length bc] 38)) := Kp.alloc _ _; have h3 := h2.fs.ext hq2 w2.heap.size (Nat.le_refl _) (heap_alloc_new w2 (.cells #[.int .i64 b.kind, .int .i64 b.n, .slice ba b.l.length bc] 38)) (.inl rfl); have hs3 := fsafe_ext (cs := #[.int .i64 b.kind, .int .i64 b.n, .slice ba b.l.length bc]) (t := 38) h2.safe hq2 (Nat.le_refl _); have H3 := hid (And.intro h3 (And.intro hs3 (And.intro h2.fs.xm h2.fs.bslt))); obtain ⟨y0, y1, y2⟩ := box_cells (heap_alloc_new w2 (.cells #[.int .i64 b.kind, .int .i64 b.n, .slice ba b.l.length bc] 38)); have d0 := cell_on (pl_cells h2.fs).1 (.cells #[.int .i64 b.kind, .int .i64 b.n, .slice ba b.l.length bc] 38); clear h2 h3 hs3 hq2)
  obtain ⟨W3, hW3⟩ : ∃ W3, W3 = w2.alloc (.cells #[.int .i64 b.kind, .int .i64 b.n, .slice ba b.l.length bc] 38) := ⟨_, rfl⟩
  rw [← hW3] at H3 y0 y1 y2 d0 ⊢
  clear hW3
  have HP := hid (fun (w' : World) (z : Quiet W3 w') => And.intro (xtakeCap_yes (H3.out.1.quiet z) (by omega) HK.out) (safe_quiet H3.out.2.1 z))
  go_region_law ((first
    | (go_simp; go_at_call 167; refine calls_dies (.agg #[.int .i64 0, .int .i64 0, .slice none 0 0]) ((HAK.out _ _ H4.out.1.fs.m H4.out.2).mono fun _ _ x => x.bad HO.out) ?_; intro w7 x7; obtain ⟨q7, c7, g7, m7⟩ := x7; have hb5 := (g7.block (show w4.heap[w.heap.size + 1]? = some (.cells #[.int .i64 0, .int .i64 0, .slice none 0 0] 38 (0, 0)) from pl_res (FrS.unread (C := C.pl w 19 k n) H4.out.1.fs H3.out.2.2.1 H3.out.2.2.2)) (H4.out.1.fs.m.apart (pl_res (FrS.unread (C := C.pl w 19 k n) H4.out.1.fs H3.out.2.2.1 H3.out.2.2.2))).2 (H4.out.1.fs.m.apart (pl_res (FrS.unread (C := C.pl w 19 k n) H4.out.1.fs H3.out.2.2.1 H3.out.2.2.2))).1).1; obtain ⟨m0, m1, m2⟩ := box_cells hb5; obtain ⟨f0, f1, f2⟩ := box_free3 hb5; have hz := lt_of_block hb5; refine ⟨?_, fun hF => ?_⟩; exact ⟨rfl, PlainQ.mk_bad HO.out rfl (pl_bad HH.out.1 (BadF.less (C := C.pl w 19 k n) (H4.out.1.fs.badm g7 m7) H3.out.2.2.1))⟩; have HF := hid hF; clear hF hb5)
    | (go_simp; go_at_call 162; refine (HP.out _ (Kp.drew _)).1.mono ?_; rintro e w4 ⟨rfl, h4⟩; have sb4 := h4.on (HP.out _ (Kp.drew _)).2; obtain ⟨x0, x1, x2⟩ := box_cells (show w4.heap[w2.heap.size]? = some (.cells #[.int .i64 b.kind, .int .i64 b.n, .slice ba b.l.length bc] 38 (0, 0)) from (h4.fs.st (w2.heap.size, #[.int .i64 b.kind, .int .i64 b.n, .slice ba b.l.length bc], 38) (by simp [Cx.ext])).1); have x3 : w4.cell? ⟨C.fb, 0, none⟩ = some (.pointer (some ⟨C.m.mb, 0, none⟩)) := h4.fs.cells.1; have H4 := hid (And.intro h4 sb4); clear h4 sb4)))
  all_goals exact HF.out.elim
end
end Go.Proofs.YtkpckmcaeljocaaGreat
