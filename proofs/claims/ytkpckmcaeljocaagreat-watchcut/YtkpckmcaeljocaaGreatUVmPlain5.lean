/- Parts. -/
import Derived.Test.YtkpckmcaeljocaaGreatUM2
namespace Go.Proofs.YtkpckmcaeljocaaGreat
open Go.ChangeShapes Go.WideShapes Go.ChangeAt Go.RowKit
open Gr (Nd Res nd0 thereB deriveOf addOf gateOf cutOf rightsN wayOf gatesOf gatesW targetOf Wf NdOk GS IntsAt)
section
variable {C : Cx} {q : Vs} {s : Sg} {left : Nat} {w : World} {g nn sc mm nc : Nat} {ps qs : List Kd} {a b : V} {aa ba na : Option Addr} {ac bc : Nat}
theorem fsafe_ext {R : Rw} {w' : World} {b : Nat} {cs : Array Value} {t : TypeId} {P : World → Prop} (h : SafeF (fun k => C.m.own q k ∨ C.x R k) P w) (k : Quiet w w') (hb : w.heap.size ≤ b) : SafeF (fun k => C.m.own q k ∨ (C.ext b cs t).x R k) P w' :=
  h.step (k.mono fun _ _ e => e.elim) fun i hi e => by
    rcases e with e | (e | e) | e
    · exact .inl e
    · exact .inr (.inl e)
    · omega
    · exact .inr (.inr e)
theorem fsafe_less {R : Rw} {b : Nat} {cs : Array Value} {t : TypeId} {P : World → Prop} (h : SafeF (fun k => C.m.own q k ∨ (C.ext b cs t).x R k) P w) : SafeF (fun k => C.m.own q k ∨ C.x R k) P w :=
  h.mono fun i _ e => by
    rcases e with e | e | e
    · exact .inl e
    · exact .inr (.inl (.inl e))
    · exact .inr (.inr e)
theorem PopK.on {w' : World} {P : World → Prop} (h : PopK C q s left ⟨some ⟨g, 0, none⟩, nn, sc, ps, na, mm, nc, qs⟩ a aa w w') (hs : SafeF (fun k => C.m.own q k ∨ C.x ⟨some ⟨g, 0, none⟩, nn + 1, sc, ps ++ [(a, aa, ac)], na, mm, nc, qs⟩ k) P w) : SafeF (fun k => C.m.own q k ∨ C.x ⟨some ⟨g, 0, none⟩, nn, sc, ps, na, mm, nc, qs⟩ k) P w' :=
  hs.step (h.kp.mono fun _ _ e => .inr (.inr (.inl e))) fun _ _ e => e
theorem whole_code {v : V} (hk : ∀ x ∈ v.l, x.check = 0) (h1 : v.fault1 = 0) : v.check = 0 ∨ v.check = 3 := by
  unfold V.check
  by_cases hs : 40 < v.size
  · right; rw [if_pos hs]
  · left
    rw [if_neg hs]
    rw [fault_eq, if_pos h1]
    have : ∀ l : List V, (∀ x ∈ l, x.check = 0) → first (pres l) = 0 := by
      intro l
      induction l with
      | nil => intro _; rw [pres_nil]; rfl
      | cons x l ih =>
        intro hx
        rw [pres_cons, first_append]
        have hf : first x.pre = 0 := check_fault (hx x (by simp))
        rw [if_pos hf]
        exact ih fun y hy => hx y (by simp [hy])
    exact this v.l hk
theorem pair_code {a b : V} (ha : a.check = 0) (hb : b.check = 0) : (⟨2, 0, [a, b]⟩ : V).check = 0 ∨ (⟨2, 0, [a, b]⟩ : V).check = 3 := whole_code (fun x hx => by
  simp at hx
  rcases hx with rfl | rfl
  · exact ha
  · exact hb) (by unfold V.fault1; rfl)
theorem seal_code {a : V} {j : Nat} (hj : j < 4) (ha : a.check = 0) : (⟨3, j, [a]⟩ : V).check = 0 ∨ (⟨3, j, [a]⟩ : V).check = 3 := whole_code (fun x hx => by
  simp at hx
  rw [hx]; exact ha) (by
  unfold V.fault1
  rw [show partsB (⟨3, (j : Int), [a]⟩ : V).kind = some 1 from rfl]
  simp only
  rw [if_neg (by simp), if_neg (by simp), if_neg (by omega)])
set_option maxRecDepth 8000 in
set_option maxHeartbeats 4000000 in
theorem plain_pair (H : FrS C q s left ⟨some ⟨g, 0, none⟩, nn + 1 + 1, sc, (ps ++ [(a, aa, ac)]) ++ [(b, ba, bc)], na, mm, nc, qs⟩ w) (hn : nn ≤ 1999) (ha : a.size ≤ 40) (hb : b.size ≤ 40) (hc : (⟨2, 0, [a, b]⟩ : V).check = 0) (k n : Int) : Calls Tryz.prog 149 #[.pointer (some ⟨C.fb, 0, none⟩), .agg #[.int .i64 8, .int .i64 k, .int .i64 n]] w fun e w' => PlainQ C ⟨some ⟨g, 0, none⟩, nn, sc, ps, na, mm, nc, qs⟩ (okV ⟨2, 0, [a, b]⟩ left s) e w' := by
  obtain ⟨W, hW⟩ : ∃ W, W = plW w 8 k n := ⟨_, rfl⟩
  have H1 := pl_start H 8 k n
  rw [← hW] at H1
  obtain ⟨i0, i1, i2⟩ := pl_ins H1
  obtain ⟨s0, s1, s2, s3, s4⟩ := pl_cells H1
  have HH := hid (And.intro H H1)
  have HT := hid (xpop_any H1 (by omega))
  have hS : (⟨2, 0, [a, b]⟩ : V).size ≤ 500 := by
    rw [size_eq]
    simp only [sizes_cons, sizes_nil]
    omega
  have HC := hid (And.intro hS hc)
  clear H H1 hc hS ha hb
  unfold plW at hW
  go_enter Tryz.func149, Tryz.ntmps149
  rw [hW] at HT i0 i1 i2
  go_wp2_with (go_at_call 146; refine HT.out.mono ?_; rintro e w2 ⟨rfl, h2⟩; rw [← hW] at h2; have hq2 : Quiet w2 (w2.alloc (.cells #[.int .i64 b.kind, .int .i64 b.n, .slice ba b.l.length bc] 38)) := Kp.alloc _ _; have h3 := h2.fs.ext hq2 w2.heap.size (Nat.le_refl _) (heap_alloc_new w2 (.cells #[.int .i64 b.kind, .int .i64 b.n, .slice ba b.l.length bc] 38)) (.inl rfl); have hs3 := fsafe_ext (cs := #[.int .i64 b.kind, .int .i64 b.n, .slice ba b.l.length bc]) (t := 38) h2.safe hq2 (Nat.le_refl _); have H3 := hid (And.intro h3 (And.intro hs3 (And.intro h2.fs.xm h2.fs.bslt))); obtain ⟨y0, y1, y2⟩ := box_cells (heap_alloc_new w2 (.cells #[.int .i64 b.kind, .int .i64 b.n, .slice ba b.l.length bc] 38)); clear h2 h3 hs3 hq2)
  obtain ⟨W3, hW3⟩ : ∃ W3, W3 = w2.alloc (.cells #[.int .i64 b.kind, .int .i64 b.n, .slice ba b.l.length bc] 38) := ⟨_, rfl⟩
  rw [← hW3] at H3 y0 y1 y2 ⊢
  clear hW3
  have HP := hid (fun (w' : World) (z : Quiet W3 w') => And.intro (xpop_any (H3.out.1.quiet z) (by omega)) (safe_quiet H3.out.2.1 z))
  go_region_with (first
    | (go_at_call 158; refine (xwhole_yes ⟨2, 0, [a, b]⟩ pa 2 _ H6.out.2.now HC.out.1 HC.out.2).mono ?_; rintro e w7 ⟨rfl, q7⟩; have h5 := (H6.out.1.quiet q7).unread H3.out.2.2.1 H3.out.2.2.2; have hb5 := pl_res h5; obtain ⟨m0, m1, m2⟩ := box_cells hb5; obtain ⟨f0, f1, f2⟩ := box_free3 hb5; have hz := lt_of_block hb5; clear hb5; have H5 := hid (And.intro h5 (fsafe_less (C := C.pl w 8 k n) (b := w2.heap.size) (cs := #[.int .i64 b.kind, .int .i64 b.n, .slice ba b.l.length bc]) (t := 38) (safe_quiet H6.out.2 q7))); clear h5 q7)
    | (go_at_call 159; refine (xpair_any _ a b aa ba ac bc _ H4.out.1.fs.m.ownlt H4.out.1.safe H4.out.2).mono ?_; rintro e w6 ⟨pa, rfl, s6, q6⟩; have H6 := hid (And.intro (H4.out.1.fs.quiet q6) s6); clear s6 q6)
    | (go_at_call 146; refine (HP.out _ (Kp.drew _)).1.mono ?_; rintro e w4 ⟨rfl, h4⟩; have sb4 := h4.on (HP.out _ (Kp.drew _)).2; obtain ⟨x0, x1, x2⟩ := box_cells (show w4.heap[w2.heap.size]? = some (.cells #[.int .i64 b.kind, .int .i64 b.n, .slice ba b.l.length bc] 38 (0, 0)) from (h4.fs.st (w2.heap.size, #[.int .i64 b.kind, .int .i64 b.n, .slice ba b.l.length bc], 38) (by simp [Cx.ext])).1); have H4 := hid (And.intro h4 sb4); clear h4 sb4))
  all_goals
    go_wp2
    refine bodyPost_ret (v := .agg #[.int .i64 2, .int .i64 0, .slice pa 2 2]) (by simp [results, Tryz.results149, go_sem, m0, m1, m2]) rfl ?_
    exact pl_ok (o := okV ⟨2, 0, [a, b]⟩ left s) (v := ⟨2, 0, [a, b]⟩) (ao := pa) (cap := 2) HH.out.1 rfl H5.out.1 H5.out.2
set_option maxRecDepth 8000 in
set_option maxHeartbeats 4000000 in
theorem plain_pair_bad (H : FrS C q s left ⟨some ⟨g, 0, none⟩, nn + 1 + 1, sc, (ps ++ [(a, aa, ac)]) ++ [(b, ba, bc)], na, mm, nc, qs⟩ w) (hn : nn ≤ 1999) (ha : a.size ≤ 40) (hb : b.size ≤ 40) (hc : (⟨2, 0, [a, b]⟩ : V).check = 3) (k n : Int) : Calls Tryz.prog 149 #[.pointer (some ⟨C.fb, 0, none⟩), .agg #[.int .i64 8, .int .i64 k, .int .i64 n]] w fun e w' => PlainQ C ⟨some ⟨g, 0, none⟩, nn, sc, ps, na, mm, nc, qs⟩ (bad 3 left s) e w' := by
  obtain ⟨W, hW⟩ : ∃ W, W = plW w 8 k n := ⟨_, rfl⟩
  have H1 := pl_start H 8 k n
  rw [← hW] at H1
  obtain ⟨i0, i1, i2⟩ := pl_ins H1
  obtain ⟨s0, s1, s2, s3, s4⟩ := pl_cells H1
  have HH := hid (And.intro H H1)
  have HT := hid (xpop_any H1 (by omega))
  have hS : (⟨2, 0, [a, b]⟩ : V).size ≤ 500 := by
    rw [size_eq]
    simp only [sizes_cons, sizes_nil]
    omega
  have HC := hid (And.intro hS hc)
  clear H H1 hc hS ha hb
  unfold plW at hW
  go_enter Tryz.func149, Tryz.ntmps149
  rw [hW] at HT i0 i1 i2
  go_wp2_with (go_at_call 146; refine HT.out.mono ?_; rintro e w2 ⟨rfl, h2⟩; rw [← hW] at h2; have hq2 : Quiet w2 (w2.alloc (.cells #[.int .i64 b.kind, .int .i64 b.n, .slice ba b.l.length bc] 38)) := Kp.alloc _ _; have h3 := h2.fs.ext hq2 w2.heap.size (Nat.le_refl _) (heap_alloc_new w2 (.cells #[.int .i64 b.kind, .int .i64 b.n, .slice ba b.l.length bc] 38)) (.inl rfl); have hs3 := fsafe_ext (cs := #[.int .i64 b.kind, .int .i64 b.n, .slice ba b.l.length bc]) (t := 38) h2.safe hq2 (Nat.le_refl _); have H3 := hid (And.intro h3 (And.intro hs3 (And.intro h2.fs.xm h2.fs.bslt))); obtain ⟨y0, y1, y2⟩ := box_cells (heap_alloc_new w2 (.cells #[.int .i64 b.kind, .int .i64 b.n, .slice ba b.l.length bc] 38)); clear h2 h3 hs3 hq2)
  obtain ⟨W3, hW3⟩ : ∃ W3, W3 = w2.alloc (.cells #[.int .i64 b.kind, .int .i64 b.n, .slice ba b.l.length bc] 38) := ⟨_, rfl⟩
  rw [← hW3] at H3 y0 y1 y2 ⊢
  clear hW3
  have HP := hid (fun (w' : World) (z : Quiet W3 w') => And.intro (xpop_any (H3.out.1.quiet z) (by omega)) (safe_quiet H3.out.2.1 z))
  go_region_law ((first
    | (go_simp; go_at_call 158; refine calls_dies (.agg #[.int .i64 0, .int .i64 0, .slice none 0 0]) (xwhole_no ⟨2, 0, [a, b]⟩ pa 2 _ H6.out.2.now HC.out.1 (by rw [HC.out.2]; decide)) ?_; intro w7 q7; have h5 := (H6.out.1.quiet q7).unread H3.out.2.2.1 H3.out.2.2.2; have hb5 := pl_res h5; obtain ⟨m0, m1, m2⟩ := box_cells hb5; obtain ⟨f0, f1, f2⟩ := box_free3 hb5; have hz := lt_of_block hb5; clear hb5; refine ⟨?_, fun hF => ?_⟩; exact ⟨rfl, PlainQ.mk_bad rfl (by rw [HC.out.2]) (pl_bad HH.out.1 h5.bad)⟩; have HF := hid hF; clear hF h5 q7)
    | (go_simp; go_at_call 159; refine (xpair_any _ a b aa ba ac bc _ H4.out.1.fs.m.ownlt H4.out.1.safe H4.out.2).mono ?_; rintro e w6 ⟨pa, rfl, s6, q6⟩; have H6 := hid (And.intro (H4.out.1.fs.quiet q6) s6); clear s6 q6)
    | (go_simp; go_at_call 146; refine (HP.out _ (Kp.drew _)).1.mono ?_; rintro e w4 ⟨rfl, h4⟩; have sb4 := h4.on (HP.out _ (Kp.drew _)).2; obtain ⟨x0, x1, x2⟩ := box_cells (show w4.heap[w2.heap.size]? = some (.cells #[.int .i64 b.kind, .int .i64 b.n, .slice ba b.l.length bc] 38 (0, 0)) from (h4.fs.st (w2.heap.size, #[.int .i64 b.kind, .int .i64 b.n, .slice ba b.l.length bc], 38) (by simp [Cx.ext])).1); have H4 := hid (And.intro h4 sb4); clear h4 sb4)))
  all_goals exact HF.out.elim
theorem seal_safe {R : Rw} (H : FrS C q s left R w) (hs : SafeF (fun k => C.m.own q k ∨ C.x R k) (fun w => Is w a aa) w) (hj : C.j < 4) (ac : Nat) : SafeF (fun k => C.m.own q k ∨ C.x R k) (fun u => Is u ⟨3, C.j, [a]⟩ (some ⟨w.heap.size, 0, none⟩)) (w.alloc (.cells #[.int .i64 a.kind, .int .i64 a.n, .slice aa a.l.length ac] 38)) := by
  intro w' k
  have hb := heap_alloc_new w (.cells #[.int .i64 a.kind, .int .i64 a.n, .slice aa a.l.length ac] 38)
  refine is_one 3 C.j (small_in 3 (by decide)) (small_in _ (by omega)) ((k.block _ (lt_of_block hb) fun e => ?_).trans hb) (safe_quiet hs (Kp.alloc _ _) w' k)
  have := H.m.ownlt _ e
  omega
set_option maxRecDepth 8000 in
set_option maxHeartbeats 4000000 in
theorem plain_seal (H : FrS C q s left ⟨some ⟨g, 0, none⟩, nn + 1, sc, ps ++ [(a, aa, ac)], na, mm, nc, qs⟩ w) (hn : nn ≤ 1999) (ha : a.size ≤ 40) (hj : C.j < 4) (hc : (⟨3, C.j, [a]⟩ : V).check = 0) (k n : Int) : Calls Tryz.prog 149 #[.pointer (some ⟨C.fb, 0, none⟩), .agg #[.int .i64 11, .int .i64 k, .int .i64 n]] w fun e w' => PlainQ C ⟨some ⟨g, 0, none⟩, nn, sc, ps, na, mm, nc, qs⟩ (okV ⟨3, C.j, [a]⟩ left s) e w' := by
  obtain ⟨W, hW⟩ : ∃ W, W = plW w 11 k n := ⟨_, rfl⟩
  have H1 := pl_start H 11 k n
  rw [← hW] at H1
  obtain ⟨i0, i1, i2⟩ := pl_ins H1
  obtain ⟨s0, s1, s2, s3, s4⟩ := pl_cells H1
  have HH := hid (And.intro H H1)
  have HT := hid (fun (w' : World) (z : Quiet W w') => xpop_any (H1.quiet z) (by omega))
  have hS : (⟨3, C.j, [a]⟩ : V).size ≤ 500 := by
    rw [size_eq]
    simp only [sizes_cons, sizes_nil]
    omega
  have HC := hid (And.intro hS (And.intro hc hj))
  clear H H1 hc hS ha hj
  unfold plW at hW
  go_enter Tryz.func149, Tryz.ntmps149
  go_wp2
  rw [← hW]
  clear hW
  go_region_with (first
    | (go_at_call 158; refine (xwhole_yes ⟨3, C.j, [a]⟩ (some ⟨w2.heap.size, 0, none⟩) 1 _ H2.out.2.now HC.out.1 HC.out.2.1).mono ?_; rintro e w7 ⟨rfl, q7⟩; have h5 := H2.out.1.quiet q7; have hb5 := pl_res h5; obtain ⟨m0, m1, m2⟩ := box_cells hb5; obtain ⟨f0, f1, f2⟩ := box_free3 hb5; have hz := lt_of_block hb5; clear hb5; have H5 := hid (And.intro h5 (safe_quiet H2.out.2 q7)); clear h5 q7)
    | (go_at_call 146; refine (HT.out _ (Kp.drew _)).mono ?_; rintro e w2 ⟨rfl, h2⟩; have d1 := (pl_cells h2.fs).2.1; have hq2 : Quiet w2 (w2.alloc (.cells #[.int .i64 a.kind, .int .i64 a.n, .slice aa a.l.length ac] 38)) := Kp.alloc _ _; have d2 := cell_on d1 (.cells #[.int .i64 a.kind, .int .i64 a.n, .slice aa a.l.length ac] 38); have H2 := hid (And.intro (h2.fs.quiet hq2) (seal_safe (C := C.pl w 11 k n) h2.fs h2.safe HC.out.2.2 ac)); clear h2 hq2))
  all_goals
    go_wp2
    refine bodyPost_ret (v := .agg #[.int .i64 3, .int .i64 C.j, .slice (some ⟨w2.heap.size, 0, none⟩) 1 1]) (by simp [results, Tryz.results149, go_sem, m0, m1, m2]) rfl ?_
    exact pl_ok (o := okV ⟨3, C.j, [a]⟩ left s) (v := ⟨3, C.j, [a]⟩) (ao := some ⟨w2.heap.size, 0, none⟩) (cap := 1) HH.out.1 rfl H5.out.1 H5.out.2
set_option maxRecDepth 8000 in
set_option maxHeartbeats 4000000 in
theorem plain_seal_bad (H : FrS C q s left ⟨some ⟨g, 0, none⟩, nn + 1, sc, ps ++ [(a, aa, ac)], na, mm, nc, qs⟩ w) (hn : nn ≤ 1999) (ha : a.size ≤ 40) (hj : C.j < 4) (hc : (⟨3, C.j, [a]⟩ : V).check = 3) (k n : Int) : Calls Tryz.prog 149 #[.pointer (some ⟨C.fb, 0, none⟩), .agg #[.int .i64 11, .int .i64 k, .int .i64 n]] w fun e w' => PlainQ C ⟨some ⟨g, 0, none⟩, nn, sc, ps, na, mm, nc, qs⟩ (bad 3 left s) e w' := by
  obtain ⟨W, hW⟩ : ∃ W, W = plW w 11 k n := ⟨_, rfl⟩
  have H1 := pl_start H 11 k n
  rw [← hW] at H1
  obtain ⟨i0, i1, i2⟩ := pl_ins H1
  obtain ⟨s0, s1, s2, s3, s4⟩ := pl_cells H1
  have HH := hid (And.intro H H1)
  have HT := hid (fun (w' : World) (z : Quiet W w') => xpop_any (H1.quiet z) (by omega))
  have hS : (⟨3, C.j, [a]⟩ : V).size ≤ 500 := by
    rw [size_eq]
    simp only [sizes_cons, sizes_nil]
    omega
  have HC := hid (And.intro hS (And.intro hc hj))
  clear H H1 hc hS ha hj
  unfold plW at hW
  go_enter Tryz.func149, Tryz.ntmps149
  go_wp2
  rw [← hW]
  clear hW
  go_region_law ((first
    | (go_simp; go_at_call 158; refine calls_dies (.agg #[.int .i64 0, .int .i64 0, .slice none 0 0]) (xwhole_no ⟨3, C.j, [a]⟩ (some ⟨w2.heap.size, 0, none⟩) 1 _ H2.out.2.now HC.out.1 (by rw [HC.out.2.1]; decide)) ?_; intro w7 q7; have h5 := H2.out.1.quiet q7; have hb5 := pl_res h5; obtain ⟨m0, m1, m2⟩ := box_cells hb5; obtain ⟨f0, f1, f2⟩ := box_free3 hb5; have hz := lt_of_block hb5; clear hb5; refine ⟨?_, fun hF => ?_⟩; exact ⟨rfl, PlainQ.mk_bad rfl (by rw [HC.out.2.1]) (pl_bad HH.out.1 h5.bad)⟩; have HF := hid hF; clear hF h5 q7)
    | (go_simp; go_at_call 146; refine (HT.out _ (Kp.drew _)).mono ?_; rintro e w2 ⟨rfl, h2⟩; have d1 := (pl_cells h2.fs).2.1; have hq2 : Quiet w2 (w2.alloc (.cells #[.int .i64 a.kind, .int .i64 a.n, .slice aa a.l.length ac] 38)) := Kp.alloc _ _; have d2 := cell_on d1 (.cells #[.int .i64 a.kind, .int .i64 a.n, .slice aa a.l.length ac] 38); have H2 := hid (And.intro (h2.fs.quiet hq2) (seal_safe (C := C.pl w 11 k n) h2.fs h2.safe HC.out.2.2 ac)); clear h2 hq2)))
  all_goals exact HF.out.elim
end
end Go.Proofs.YtkpckmcaeljocaaGreat
