/- Parts. -/
import Derived.Test.YtkpckmcaeljocaaGreatUM2
namespace Go.Proofs.YtkpckmcaeljocaaGreat
open Go.ChangeShapes Go.WideShapes Go.ChangeAt Go.RowKit
open Gr (Nd Res nd0 thereB deriveOf addOf gateOf cutOf rightsN wayOf gatesOf gatesW targetOf Wf NdOk GS IntsAt)
section
variable {C : Cx} {q : Vs} {s : Sg} {left : Nat} {w : World} {g nn sc mm nc : Nat} {ps qs : List Kd} {a b : V} {aa ba na : Option Addr} {ac bc : Nat}
set_option maxRecDepth 8000 in
set_option maxHeartbeats 4000000 in
theorem plain_bin_no2 (H : FrS C q s left ⟨some ⟨g, 0, none⟩, nn + 1 + 1, sc, (ps ++ [(a, aa, ac)]) ++ [(b, ba, bc)], na, mm, nc, qs⟩ w) (hn : nn ≤ 1999) (hk : b.kind ≠ 1) (k n : Int) : Calls Tryz.prog 149 #[.pointer (some ⟨C.fb, 0, none⟩), .agg #[.int .i64 6, .int .i64 k, .int .i64 n]] w fun e w' => PlainQ C ⟨some ⟨g, 0, none⟩, nn, sc, ps, na, mm, nc, qs⟩ (bad 2 left s) e w' := by
  obtain ⟨W, hW⟩ : ∃ W, W = plW w 6 k n := ⟨_, rfl⟩
  have H1 := pl_start H 6 k n
  rw [← hW] at H1
  obtain ⟨i0, i1, i2⟩ := pl_ins H1
  obtain ⟨s0, s1, s2, s3, s4⟩ := pl_cells H1
  have HH := hid (And.intro H H1)
  have HT := hid (xtakeInt_no H1 (by omega) hk)
  clear H H1 hk
  unfold plW at hW
  go_enter Tryz.func149, Tryz.ntmps149
  rw [hW] at HT i0 i1 i2
  go_wp2_with (go_at_call 147; refine HT.out.mono ?_; rintro e w2 ⟨rfl, h2⟩)
  exact ⟨rfl, PlainQ.mk_bad rfl rfl (pl_bad HH.out.1 h2)⟩
set_option maxRecDepth 8000 in
set_option maxHeartbeats 4000000 in
theorem plain_bin_no1 (H : FrS C q s left ⟨some ⟨g, 0, none⟩, nn + 1 + 1, sc, (ps ++ [(a, aa, ac)]) ++ [(b, ba, bc)], na, mm, nc, qs⟩ w) (hn : nn ≤ 1999) (hk : b.kind = 1) (hk1 : a.kind ≠ 1) (k n : Int) : Calls Tryz.prog 149 #[.pointer (some ⟨C.fb, 0, none⟩), .agg #[.int .i64 6, .int .i64 k, .int .i64 n]] w fun e w' => PlainQ C ⟨some ⟨g, 0, none⟩, nn, sc, ps, na, mm, nc, qs⟩ (bad 2 left s) e w' := by
  obtain ⟨W, hW⟩ : ∃ W, W = plW w 6 k n := ⟨_, rfl⟩
  have H1 := pl_start H 6 k n
  rw [← hW] at H1
  obtain ⟨i0, i1, i2⟩ := pl_ins H1
  obtain ⟨s0, s1, s2, s3, s4⟩ := pl_cells H1
  have HH := hid (And.intro H H1)
  have HT := hid (xtakeInt_yes H1 (by omega) hk)
  have HT2 := hid (fun (w' : World) (h : FrS (C.pl w 6 k n) q s left ⟨some ⟨g, 0, none⟩, nn + 1, sc, ps ++ [(a, aa, ac)], na, mm, nc, qs⟩ w') => xtakeInt_no h (by omega) hk1)
  clear H H1 hk hk1
  unfold plW at hW
  go_enter Tryz.func149, Tryz.ntmps149
  rw [hW] at HT i0 i1 i2
  go_wp2_with (go_at_call 147; refine HT.out.mono ?_; rintro e w2 ⟨rfl, h2⟩; obtain ⟨j0, j1, j2⟩ := pl_ins h2.fs; have H2 := hid h2; clear h2)
  go_region_dies
  all_goals (refine (HT2.out _ (H2.out.fs.quiet (Kp.drew _))).mono ?_; rintro e w3 ⟨rfl, h3⟩; exact ⟨rfl, PlainQ.mk_bad rfl rfl (pl_bad HH.out.1 h3)⟩)
theorem arith_in (k a b : Int) : In64 (arith k a b) := by
  have hw : ∀ z, In64 (wrap64 z) := fun z => by unfold In64 wrap64; omega
  unfold arith
  repeat' split
  all_goals first
    | exact hw _
    | exact small_in _ (by decide)
set_option maxRecDepth 8000 in
set_option maxHeartbeats 4000000 in
theorem plain_bin (H : FrS C q s left ⟨some ⟨g, 0, none⟩, nn + 1 + 1, sc, (ps ++ [(a, aa, ac)]) ++ [(b, ba, bc)], na, mm, nc, qs⟩ w) (hn : nn ≤ 1999) (hk : b.kind = 1) (hk1 : a.kind = 1) (ha : In64 a.n) (hb : In64 b.n) (k n : Int) : Calls Tryz.prog 149 #[.pointer (some ⟨C.fb, 0, none⟩), .agg #[.int .i64 6, .int .i64 k, .int .i64 n]] w fun e w' => PlainQ C ⟨some ⟨g, 0, none⟩, nn, sc, ps, na, mm, nc, qs⟩ (okV (intV (arith k a.n b.n)) left s) e w' := by
  obtain ⟨W, hW⟩ : ∃ W, W = plW w 6 k n := ⟨_, rfl⟩
  have H1 := pl_start H 6 k n
  rw [← hW] at H1
  obtain ⟨i0, i1, i2⟩ := pl_ins H1
  obtain ⟨s0, s1, s2, s3, s4⟩ := pl_cells H1
  have HH := hid (And.intro H H1)
  have HT := hid (xtakeInt_yes H1 (by omega) hk)
  have HT2 := hid (fun (w' : World) (h : FrS (C.pl w 6 k n) q s left ⟨some ⟨g, 0, none⟩, nn + 1, sc, ps ++ [(a, aa, ac)], na, mm, nc, qs⟩ w') => xtakeInt_yes h (by omega) hk1)
  have HA := hid (fun w => arith_c k a.n b.n w ha hb)
  have hr := arith_in k a.n b.n
  generalize arith k a.n b.n = r at *
  have HR := hid hr
  clear H H1 hk hk1 ha hb hr
  unfold plW at hW
  go_enter Tryz.func149, Tryz.ntmps149
  rw [hW] at HT i0 i1 i2
  go_wp2_with (go_at_call 147; refine HT.out.mono ?_; rintro e w2 ⟨rfl, h2⟩; obtain ⟨j0, j1, j2⟩ := pl_ins h2.fs; have H2 := hid h2; clear h2)
  go_region_with (first
    | (go_at_call 156; refine (xnumber_any _ _).mono ?_; rintro e w5 ⟨rfl, q5⟩; have h5 := (H3.out.fs.quiet q4).quiet q5; have hb5 := pl_res h5; obtain ⟨m0, m1, m2⟩ := box_cells hb5; obtain ⟨f0, f1, f2⟩ := box_free3 hb5; have hz := lt_of_block hb5; clear hb5; have H5 := hid h5; clear h5 q5 q4)
    | (go_at_call 157; refine (HA.out _).mono ?_; rintro e w4 ⟨rfl, q4⟩)
    | (go_at_call 147; refine (HT2.out _ (H2.out.fs.quiet (Kp.drew _))).mono ?_; rintro e w3 ⟨rfl, h3⟩; obtain ⟨l0, l1, l2⟩ := pl_ins h3.fs; have H3 := hid h3; clear h3))
  all_goals
    go_wp2
    refine bodyPost_ret (v := .agg #[.int .i64 (intV r).kind, .int .i64 (intV r).n, .slice none (intV r).l.length 0]) (by simp [results, Tryz.results149, go_sem, m0, m1, m2, intV]) rfl ?_
    exact pl_ok (o := okV (intV r) left s) HH.out.1 rfl H5.out (safe_leaf _ ⟨small_in 1 (by decide), HR.out⟩ rfl none)
end
end Go.Proofs.YtkpckmcaeljocaaGreat
