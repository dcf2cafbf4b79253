/- Parts. -/
import Derived.Test.YtkpckmcaeljocaaGreatUM2
namespace Go.Proofs.YtkpckmcaeljocaaGreat
open Go.ChangeShapes Go.WideShapes Go.ChangeAt Go.RowKit
open Gr (Nd Res nd0 thereB deriveOf addOf gateOf cutOf rightsN wayOf gatesOf gatesW targetOf Wf NdOk GS IntsAt)
section
variable {C : Cx} {q : Vs} {s : Sg} {left : Nat} {w : World} {g nn sc mm nc : Nat} {ps qs : List Kd} {a b : V} {aa ba na : Option Addr} {ac bc : Nat}
set_option maxRecDepth 8000 in
set_option maxHeartbeats 4000000 in
theorem plain_narrow_no (H : FrS C q s left ⟨some ⟨g, 0, none⟩, nn + 1, sc, ps ++ [(a, aa, ac)], na, mm, nc, qs⟩ w) (hn : nn ≤ 1999) (hk : a.kind ≠ 4) (k n : Int) : Calls Tryz.prog 149 #[.pointer (some ⟨C.fb, 0, none⟩), .agg #[.int .i64 15, .int .i64 k, .int .i64 n]] w fun e w' => PlainQ C ⟨some ⟨g, 0, none⟩, nn, sc, ps, na, mm, nc, qs⟩ (bad 2 left s) e w' := by
  obtain ⟨W, hW⟩ : ∃ W, W = plW w 15 k n := ⟨_, rfl⟩
  have H1 := pl_start H 15 k n
  rw [← hW] at H1
  obtain ⟨i0, i1, i2⟩ := pl_ins H1
  obtain ⟨s0, s1, s2, s3, s4⟩ := pl_cells H1
  have HH := hid (And.intro H H1)
  have HT := hid (fun (w' : World) (z : Quiet W w') => xtakeCap_no (H1.quiet z) (by omega) hk)
  clear H H1 hk
  unfold plW at hW
  go_enter Tryz.func149, Tryz.ntmps149
  go_wp2
  rw [← hW]
  clear hW
  go_region_dies
  all_goals (refine (HT.out _ (Kp.drew _)).mono ?_; rintro e w2 ⟨rfl, h2⟩; exact ⟨rfl, PlainQ.mk_bad rfl rfl (pl_bad HH.out.1 h2)⟩)
set_option maxRecDepth 8000 in
set_option maxHeartbeats 4000000 in
theorem plain_wrap_no (H : FrS C q s left ⟨some ⟨g, 0, none⟩, nn + 1, sc, ps ++ [(a, aa, ac)], na, mm, nc, qs⟩ w) (hn : nn ≤ 1999) (hk : a.kind ≠ 4) (k n : Int) : Calls Tryz.prog 149 #[.pointer (some ⟨C.fb, 0, none⟩), .agg #[.int .i64 16, .int .i64 k, .int .i64 n]] w fun e w' => PlainQ C ⟨some ⟨g, 0, none⟩, nn, sc, ps, na, mm, nc, qs⟩ (bad 2 left s) e w' := by
  obtain ⟨W, hW⟩ : ∃ W, W = plW w 16 k n := ⟨_, rfl⟩
  have H1 := pl_start H 16 k n
  rw [← hW] at H1
  obtain ⟨i0, i1, i2⟩ := pl_ins H1
  obtain ⟨s0, s1, s2, s3, s4⟩ := pl_cells H1
  have HH := hid (And.intro H H1)
  have HT := hid (fun (w' : World) (z : Quiet W w') => xtakeCap_no (H1.quiet z) (by omega) hk)
  clear H H1 hk
  unfold plW at hW
  go_enter Tryz.func149, Tryz.ntmps149
  go_wp2
  rw [← hW]
  clear hW
  go_region_dies
  all_goals (refine (HT.out _ (Kp.drew _)).mono ?_; rintro e w2 ⟨rfl, h2⟩; exact ⟨rfl, PlainQ.mk_bad rfl rfl (pl_bad HH.out.1 h2)⟩)
set_option maxRecDepth 8000 in
set_option maxHeartbeats 4000000 in
theorem plain_cut_no (H : FrS C q s left ⟨some ⟨g, 0, none⟩, nn + 1, sc, ps ++ [(a, aa, ac)], na, mm, nc, qs⟩ w) (hn : nn ≤ 1999) (hk : a.kind ≠ 5) (k n : Int) : Calls Tryz.prog 149 #[.pointer (some ⟨C.fb, 0, none⟩), .agg #[.int .i64 17, .int .i64 k, .int .i64 n]] w fun e w' => PlainQ C ⟨some ⟨g, 0, none⟩, nn, sc, ps, na, mm, nc, qs⟩ (bad 2 left s) e w' := by
  obtain ⟨W, hW⟩ : ∃ W, W = plW w 17 k n := ⟨_, rfl⟩
  have H1 := pl_start H 17 k n
  rw [← hW] at H1
  obtain ⟨i0, i1, i2⟩ := pl_ins H1
  obtain ⟨s0, s1, s2, s3, s4⟩ := pl_cells H1
  have HH := hid (And.intro H H1)
  have HT := hid (fun (w' : World) (z : Quiet W w') => xtake_no 5 (H1.quiet z) (by omega) hk)
  clear H H1 hk
  unfold plW at hW
  go_enter Tryz.func149, Tryz.ntmps149
  go_wp2
  rw [← hW]
  clear hW
  go_region_dies
  all_goals (refine (HT.out _ (Kp.drew _)).mono ?_; rintro e w2 ⟨rfl, h2⟩; exact ⟨rfl, PlainQ.mk_bad rfl rfl (pl_bad HH.out.1 h2)⟩)
set_option maxRecDepth 8000 in
set_option maxHeartbeats 4000000 in
theorem plain_narrow_bad (H : FrS C q s left ⟨some ⟨g, 0, none⟩, nn + 1, sc, ps ++ [(a, aa, ac)], na, mm, nc, qs⟩ w) (hn : nn ≤ 1999) (hk : a.kind = 4) (k n : Int) {c : Int} (hg : (madeR (deriveOf s.ns s.os a.n k (-1)) left s).got = .error c) : Calls Tryz.prog 149 #[.pointer (some ⟨C.fb, 0, none⟩), .agg #[.int .i64 15, .int .i64 k, .int .i64 n]] w fun e w' => PlainQ C ⟨some ⟨g, 0, none⟩, nn, sc, ps, na, mm, nc, qs⟩ (madeR (deriveOf s.ns s.os a.n k (-1)) left s) e w' := by
  obtain ⟨W, hW⟩ : ∃ W, W = plW w 15 k n := ⟨_, rfl⟩
  have H1 := pl_start H 15 k n
  rw [← hW] at H1
  obtain ⟨i0, i1, i2⟩ := pl_ins H1
  obtain ⟨s0, s1, s2, s3, s4⟩ := pl_cells H1
  have HH := hid (And.intro H H1)
  have HT := hid (fun (w' : World) (z : Quiet W w') => xtakeCap_yes (H1.quiet z) (by omega) hk)
  obtain ⟨o, ho⟩ : ∃ o, o = madeR (deriveOf s.ns s.os a.n k (-1)) left s := ⟨_, rfl⟩
  rw [← ho] at hg ⊢
  have HD := hid (fun (w2 : World) (h : MS C.m ((C.pl w 15 k n).x ⟨some ⟨g, 0, none⟩, nn, sc, ps, na, mm, nc, qs⟩) q s left C.fr w2) => (show Calls Tryz.prog 164 #[.pointer (some ⟨C.m.mb, 0, none⟩), .int .i64 a.n, .int .i64 k, .int .i64 (-1)] w2 fun e w' => MQ C.m ((C.pl w 15 k n).x ⟨some ⟨g, 0, none⟩, nn, sc, ps, na, mm, nc, qs⟩) q C.fr o w2 e w' by rw [ho]; exact xderive_any h a.n k (-1)))
  have HO := hid hg
  clear H H1 hk ho hg
  unfold plW at hW
  go_enter Tryz.func149, Tryz.ntmps149
  go_wp2
  rw [← hW]
  clear hW
  go_region_law ((first
    | (go_simp; go_at_call 164; refine calls_dies (.agg #[.int .i64 0, .int .i64 0, .slice none 0 0]) ((HD.out _ H2.out.fs.m).mono fun _ _ x => x.bad HO.out) ?_; intro w5 x5; obtain ⟨q5, c5, g5, m5⟩ := x5; have hb5 := (g5.block (pl_res H2.out.fs) (H2.out.fs.m.apart (pl_res H2.out.fs)).2 (H2.out.fs.m.apart (pl_res H2.out.fs)).1).1; obtain ⟨m0, m1, m2⟩ := box_cells hb5; obtain ⟨f0, f1, f2⟩ := box_free3 hb5; have hz := lt_of_block hb5; clear hb5; refine ⟨?_, fun hF => ?_⟩; exact ⟨rfl, PlainQ.mk_bad HO.out rfl (pl_bad HH.out.1 (H2.out.fs.badm g5 m5))⟩; have HF := hid hF; clear hF)
    | (go_simp; go_at_call 162; refine (HT.out _ (Kp.drew _)).mono ?_; rintro e w2 ⟨rfl, h2⟩; have d0 := (pl_cells h2.fs).1; obtain ⟨j0, j1, j2⟩ := pl_ins h2.fs; have H2 := hid h2; clear h2)))
  all_goals exact HF.out.elim
set_option maxRecDepth 8000 in
set_option maxHeartbeats 4000000 in
theorem plain_narrow_ok (H : FrS C q s left ⟨some ⟨g, 0, none⟩, nn + 1, sc, ps ++ [(a, aa, ac)], na, mm, nc, qs⟩ w) (hn : nn ≤ 1999) (hk : a.kind = 4) (k n : Int) {v : V} (hg : (madeR (deriveOf s.ns s.os a.n k (-1)) left s).got = .ok v) : Calls Tryz.prog 149 #[.pointer (some ⟨C.fb, 0, none⟩), .agg #[.int .i64 15, .int .i64 k, .int .i64 n]] w fun e w' => PlainQ C ⟨some ⟨g, 0, none⟩, nn, sc, ps, na, mm, nc, qs⟩ (madeR (deriveOf s.ns s.os a.n k (-1)) left s) e w' := by
  obtain ⟨W, hW⟩ : ∃ W, W = plW w 15 k n := ⟨_, rfl⟩
  have H1 := pl_start H 15 k n
  rw [← hW] at H1
  obtain ⟨i0, i1, i2⟩ := pl_ins H1
  obtain ⟨s0, s1, s2, s3, s4⟩ := pl_cells H1
  have HH := hid (And.intro H H1)
  have HT := hid (fun (w' : World) (z : Quiet W w') => xtakeCap_yes (H1.quiet z) (by omega) hk)
  obtain ⟨o, ho⟩ : ∃ o, o = madeR (deriveOf s.ns s.os a.n k (-1)) left s := ⟨_, rfl⟩
  rw [← ho] at hg ⊢
  have HD := hid (fun (w2 : World) (h : MS C.m ((C.pl w 15 k n).x ⟨some ⟨g, 0, none⟩, nn, sc, ps, na, mm, nc, qs⟩) q s left C.fr w2) => (show Calls Tryz.prog 164 #[.pointer (some ⟨C.m.mb, 0, none⟩), .int .i64 a.n, .int .i64 k, .int .i64 (-1)] w2 fun e w' => MQ C.m ((C.pl w 15 k n).x ⟨some ⟨g, 0, none⟩, nn, sc, ps, na, mm, nc, qs⟩) q C.fr o w2 e w' by rw [ho]; exact xderive_any h a.n k (-1)))
  have HO := hid hg
  clear H H1 hk ho hg
  unfold plW at hW
  go_enter Tryz.func149, Tryz.ntmps149
  go_wp2
  rw [← hW]
  clear hW
  go_region_with (first
    | (go_at_call 164; refine (HD.out _ H2.out.fs.m).mono ?_; rintro e w5 x5; obtain ⟨q5, a5, c5, rfl, g5, m5, s5⟩ := x5.ok HO.out; have h5 := H2.out.fs.mach g5 m5; have hb5 := pl_res h5; obtain ⟨m0, m1, m2⟩ := box_cells hb5; obtain ⟨f0, f1, f2⟩ := box_free3 hb5; have hz := lt_of_block hb5; clear hb5; have H5 := hid (And.intro h5 s5); clear h5 g5 m5 s5 x5)
    | (go_at_call 162; refine (HT.out _ (Kp.drew _)).mono ?_; rintro e w2 ⟨rfl, h2⟩; have d0 := (pl_cells h2.fs).1; obtain ⟨j0, j1, j2⟩ := pl_ins h2.fs; have H2 := hid h2; clear h2))
  all_goals
    go_wp2
    refine bodyPost_ret (v := .agg #[.int .i64 v.kind, .int .i64 v.n, .slice a5 v.l.length c5]) (by simp [results, Tryz.results149, go_sem, m0, m1, m2]) rfl ?_
    exact pl_ok HH.out.1 HO.out H5.out.1 H5.out.2
set_option maxRecDepth 8000 in
set_option maxHeartbeats 4000000 in
theorem plain_wrap_bad (H : FrS C q s left ⟨some ⟨g, 0, none⟩, nn + 1, sc, ps ++ [(a, aa, ac)], na, mm, nc, qs⟩ w) (hn : nn ≤ 1999) (hk : a.kind = 4) (k n : Int) {c : Int} (hg : (wrapR a.n left s).got = .error c) : Calls Tryz.prog 149 #[.pointer (some ⟨C.fb, 0, none⟩), .agg #[.int .i64 16, .int .i64 k, .int .i64 n]] w fun e w' => PlainQ C ⟨some ⟨g, 0, none⟩, nn, sc, ps, na, mm, nc, qs⟩ (wrapR a.n left s) e w' := by
  obtain ⟨W, hW⟩ : ∃ W, W = plW w 16 k n := ⟨_, rfl⟩
  have H1 := pl_start H 16 k n
  rw [← hW] at H1
  obtain ⟨i0, i1, i2⟩ := pl_ins H1
  obtain ⟨s0, s1, s2, s3, s4⟩ := pl_cells H1
  have HH := hid (And.intro H H1)
  have HT := hid (fun (w' : World) (z : Quiet W w') => xtakeCap_yes (H1.quiet z) (by omega) hk)
  obtain ⟨o, ho⟩ : ∃ o, o = wrapR a.n left s := ⟨_, rfl⟩
  rw [← ho] at hg ⊢
  have HD := hid (fun (w2 : World) (h : MS C.m ((C.pl w 16 k n).x ⟨some ⟨g, 0, none⟩, nn, sc, ps, na, mm, nc, qs⟩) q s left C.fr w2) => (show Calls Tryz.prog 165 #[.pointer (some ⟨C.m.mb, 0, none⟩), .int .i64 a.n] w2 fun e w' => MQ C.m ((C.pl w 16 k n).x ⟨some ⟨g, 0, none⟩, nn, sc, ps, na, mm, nc, qs⟩) q C.fr o w2 e w' by rw [ho]; exact xwrap_any h a.n))
  have HO := hid hg
  clear H H1 hk ho hg
  unfold plW at hW
  go_enter Tryz.func149, Tryz.ntmps149
  go_wp2
  rw [← hW]
  clear hW
  go_region_law ((first
    | (go_simp; go_at_call 165; refine calls_dies (.agg #[.int .i64 0, .int .i64 0, .slice none 0 0]) ((HD.out _ H2.out.fs.m).mono fun _ _ x => x.bad HO.out) ?_; intro w5 x5; obtain ⟨q5, c5, g5, m5⟩ := x5; have hb5 := (g5.block (pl_res H2.out.fs) (H2.out.fs.m.apart (pl_res H2.out.fs)).2 (H2.out.fs.m.apart (pl_res H2.out.fs)).1).1; obtain ⟨m0, m1, m2⟩ := box_cells hb5; obtain ⟨f0, f1, f2⟩ := box_free3 hb5; have hz := lt_of_block hb5; clear hb5; refine ⟨?_, fun hF => ?_⟩; exact ⟨rfl, PlainQ.mk_bad HO.out rfl (pl_bad HH.out.1 (H2.out.fs.badm g5 m5))⟩; have HF := hid hF; clear hF)
    | (go_simp; go_at_call 162; refine (HT.out _ (Kp.drew _)).mono ?_; rintro e w2 ⟨rfl, h2⟩; have d0 := (pl_cells h2.fs).1; obtain ⟨j0, j1, j2⟩ := pl_ins h2.fs; have H2 := hid h2; clear h2)))
  all_goals exact HF.out.elim
set_option maxRecDepth 8000 in
set_option maxHeartbeats 4000000 in
theorem plain_wrap_ok (H : FrS C q s left ⟨some ⟨g, 0, none⟩, nn + 1, sc, ps ++ [(a, aa, ac)], na, mm, nc, qs⟩ w) (hn : nn ≤ 1999) (hk : a.kind = 4) (k n : Int) {v : V} (hg : (wrapR a.n left s).got = .ok v) : Calls Tryz.prog 149 #[.pointer (some ⟨C.fb, 0, none⟩), .agg #[.int .i64 16, .int .i64 k, .int .i64 n]] w fun e w' => PlainQ C ⟨some ⟨g, 0, none⟩, nn, sc, ps, na, mm, nc, qs⟩ (wrapR a.n left s) e w' := by
  obtain ⟨W, hW⟩ : ∃ W, W = plW w 16 k n := ⟨_, rfl⟩
  have H1 := pl_start H 16 k n
  rw [← hW] at H1
  obtain ⟨i0, i1, i2⟩ := pl_ins H1
  obtain ⟨s0, s1, s2, s3, s4⟩ := pl_cells H1
  have HH := hid (And.intro H H1)
  have HT := hid (fun (w' : World) (z : Quiet W w') => xtakeCap_yes (H1.quiet z) (by omega) hk)
  obtain ⟨o, ho⟩ : ∃ o, o = wrapR a.n left s := ⟨_, rfl⟩
  rw [← ho] at hg ⊢
  have HD := hid (fun (w2 : World) (h : MS C.m ((C.pl w 16 k n).x ⟨some ⟨g, 0, none⟩, nn, sc, ps, na, mm, nc, qs⟩) q s left C.fr w2) => (show Calls Tryz.prog 165 #[.pointer (some ⟨C.m.mb, 0, none⟩), .int .i64 a.n] w2 fun e w' => MQ C.m ((C.pl w 16 k n).x ⟨some ⟨g, 0, none⟩, nn, sc, ps, na, mm, nc, qs⟩) q C.fr o w2 e w' by rw [ho]; exact xwrap_any h a.n))
  have HO := hid hg
  clear H H1 hk ho hg
  unfold plW at hW
  go_enter Tryz.func149, Tryz.ntmps149
  go_wp2
  rw [← hW]
  clear hW
  go_region_with (first
    | (go_at_call 165; refine (HD.out _ H2.out.fs.m).mono ?_; rintro e w5 x5; obtain ⟨q5, a5, c5, rfl, g5, m5, s5⟩ := x5.ok HO.out; have h5 := H2.out.fs.mach g5 m5; have hb5 := pl_res h5; obtain ⟨m0, m1, m2⟩ := box_cells hb5; obtain ⟨f0, f1, f2⟩ := box_free3 hb5; have hz := lt_of_block hb5; clear hb5; have H5 := hid (And.intro h5 s5); clear h5 g5 m5 s5 x5)
    | (go_at_call 162; refine (HT.out _ (Kp.drew _)).mono ?_; rintro e w2 ⟨rfl, h2⟩; have d0 := (pl_cells h2.fs).1; obtain ⟨j0, j1, j2⟩ := pl_ins h2.fs; have H2 := hid h2; clear h2))
  all_goals
    go_wp2
    refine bodyPost_ret (v := .agg #[.int .i64 v.kind, .int .i64 v.n, .slice a5 v.l.length c5]) (by simp [results, Tryz.results149, go_sem, m0, m1, m2]) rfl ?_
    exact pl_ok HH.out.1 HO.out H5.out.1 H5.out.2
set_option maxRecDepth 8000 in
set_option maxHeartbeats 4000000 in
theorem plain_cut (H : FrS C q s left ⟨some ⟨g, 0, none⟩, nn + 1, sc, ps ++ [(a, aa, ac)], na, mm, nc, qs⟩ w) (hn : nn ≤ 1999) (hk : a.kind = 5) (k n : Int) : Calls Tryz.prog 149 #[.pointer (some ⟨C.fb, 0, none⟩), .agg #[.int .i64 17, .int .i64 k, .int .i64 n]] w fun e w' => PlainQ C ⟨some ⟨g, 0, none⟩, nn, sc, ps, na, mm, nc, qs⟩ (okV v0 left { s with os := (cutOf s.ns s.os a.n).os }) e w' := by
  obtain ⟨W, hW⟩ : ∃ W, W = plW w 17 k n := ⟨_, rfl⟩
  have H1 := pl_start H 17 k n
  rw [← hW] at H1
  obtain ⟨i0, i1, i2⟩ := pl_ins H1
  obtain ⟨s0, s1, s2, s3, s4⟩ := pl_cells H1
  have HH := hid (And.intro H H1)
  have HT := hid (fun (w' : World) (z : Quiet W w') => xtake_yes 5 (H1.quiet z) (by omega) hk)
  have hfd := fieldN
  have hcn : (cutOf s.ns s.os a.n).ns = s.ns := by unfold cutOf; split <;> rfl
  have hcl : (cutOf s.ns s.os a.n).os.length = s.os.length := by unfold cutOf; split <;> simp
  have HC := hid (fun (w2 : World) (h : FrS (C.pl w 17 k n) q s left ⟨some ⟨g, 0, none⟩, nn, sc, ps, na, mm, nc, qs⟩ w2) => Gr.cut_any h.m.gs.1 a.n)
  have HN := hid (And.intro hcn hcl)
  clear H H1 hk
  unfold plW at hW
  go_enter Tryz.func149, Tryz.ntmps149
  go_wp2
  rw [← hW]
  clear hW
  go_region_with (first
    | (go_at_call 48; refine (HC.out _ H2.out.fs).mono ?_; rintro e w5 ⟨rfl, gs5, go5⟩; have x5 := H2.out.fs.m.graph go5 gs5 (by rw [HN.out.1, HN.out.2]; exact H2.out.fs.m.gs.2); have h5 := H2.out.fs.mach x5.2 x5.1; have hb5 := pl_res h5; obtain ⟨m0, m1, m2⟩ := box_cells hb5; obtain ⟨f0, f1, f2⟩ := box_free3 hb5; have hz := lt_of_block hb5; clear hb5; have H5 := hid h5; clear h5 gs5 go5 x5)
    | (go_at_call 155; refine (HT.out _ (Kp.drew _)).mono ?_; rintro e w2 ⟨rfl, h2⟩; obtain ⟨d0, d1, d2, d3, d4⟩ := pl_cells h2.fs; have H2 := hid h2; clear h2))
  all_goals
    go_wp2
    refine bodyPost_ret (v := .agg #[.int .i64 0, .int .i64 0, .slice none 0 0]) (by simp [results, Tryz.results149, go_sem, m0, m1, m2]) rfl ?_
    have h5 := H5.out
    rw [HN.out.1] at h5
    exact pl_ok (o := okV v0 left { s with os := (cutOf s.ns s.os a.n).os }) (v := v0) (ao := none) (cap := 0) HH.out.1 rfl h5 (safe_leaf v0 v0_fits rfl none)
end
end Go.Proofs.YtkpckmcaeljocaaGreat
