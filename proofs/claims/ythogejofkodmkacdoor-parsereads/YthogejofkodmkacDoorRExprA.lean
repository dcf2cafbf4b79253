/- An expression, as the document reads it, where there is a fault already. -/
import Derived.Test.YthogejofkodmkacDoorRExpr
namespace Go.Proofs.YthogejofkodmkacDoor
open Go.ChangeShapes Go.WideShapes Go.ChangeAt Go.RowKit
set_option maxRecDepth 8000 in
set_option maxHeartbeats 2000000 in
theorem rexpr_not {w : World} {rb : Nat} {e : Int} {all : List Tk} {ao : Option Addr} {cap : Nat} {z c a : Int} (h : QB w rb e all ao cap z c a) (hc' : c ≠ 0) : Calls Tryd.prog 30 #[.pointer (some ⟨rb, 0, none⟩), .int .i64 0] w (OutQ rb e all ao cap w (.error (c, a))) := by
  have hc := hid hc'
  have HB := hid (XS.begin h)
  clear h hc'
  go_enter Tryd.func30, Tryd.ntmps30
  go_wp2_with (go_at_call 29; refine (rmust_not HB.out.qb hc.out _).mono ?_; rintro e' w1 ⟨rfl, q1⟩; have HX1 := hid (HB.out.quiet q1); clear q1)
  clear HB
  go_loopw [6] (fun n wr => ∃ k : Nat, n = .int .i64 k ∧ 1 ≤ k ∧ k ≤ 22 ∧ Hid (XS w rb e all ao cap 0 0 0 z c a wr)) (fun n _ => 23 - (intOf n).toNat)
  case atStart => exact ⟨1, rfl, Nat.le_refl _, by omega, HX1⟩
  case round =>
    obtain ⟨k, rfl, hk1, hk2, HX⟩ := hrel
    clear HX1
    obtain ⟨⟨x0, x1, x2, x3⟩, xf⟩ := HX.out.cells
    obtain ⟨⟨r0, r1, r2, r3⟩, rf⟩ := HX.out.res
    have hlx := lt_of_block HX.out.x0
    by_cases hk : k = 22
    · subst hk
      go_wp2_with (go_at_call 45; refine (rwrong_not HX.out.qb hc.out 5).mono ?_; rintro e' w3 ⟨rfl, h3⟩; replace h3 := h3.symm; subst h3)
      refine bodyPost_ret (v := .agg #[.int .i64 0, .int .i64 0, .int .i64 0, .slice none 0 0]) (by simp [results, Tryd.results30, go_sem, r0, r1, r2, r3]) rfl ?_
      exact ⟨zeroV, none, 0, z, rfl, HX.out.told _ _ _ _⟩
    · have hk' : (k : Int) ≤ 21 := by omega
      go_wp2_with (first
        | (go_at_call 44; refine (ris_not (HX.out.qb.quiet q3) hc.out _).mono ?_; rintro e' w4 ⟨rfl, q4⟩)
        | (go_at_call 15; refine (wordOf_any (k : Int) _).mono ?_; rintro e' w3 ⟨rfl, q3⟩))
      exact ⟨⟨k + 1, by go_num, by omega, by omega, HX.out.quiet (q3.trans q4)⟩, by simp [intOf]; omega⟩
set_option maxRecDepth 8000 in
set_option maxHeartbeats 2000000 in
theorem rexpr_deep {w : World} {rb : Nat} {e : Int} {all : List Tk} {ao : Option Addr} {cap : Nat} {j : Nat} (h : QB w rb e all ao cap j 0 0) (hl : all.length ≤ 9000) (hj : j ≤ all.length) : Calls Tryd.prog 30 #[.pointer (some ⟨rb, 0, none⟩), .int .i64 31] w (OutQ rb e all ao cap w (exprT e 0 (all.drop j))) := by
  obtain ⟨z, hz⟩ : ∃ z : Int, z = (j : Int) := ⟨_, rfl⟩
  obtain ⟨c, hc1⟩ : ∃ c, c = (wrongT 4 e (all.drop j)).1 := ⟨_, rfl⟩
  obtain ⟨a, ha1⟩ : ∃ a, a = (wrongT 4 e (all.drop j)).2 := ⟨_, rfl⟩
  have hG : exprT e 0 (all.drop j) = .error (c, a) := by
    rw [hc1, ha1]
    cases all.drop j <;> rfl
  have hc := hid (show c ≠ 0 by rw [hc1]; cases all.drop j <;> (simp [wrongT]))
  rw [hG]
  have HB := hid (XS.begin h)
  have HW := hid (rwrong_any (XS.begin h).qb hl hj 4)
  rw [← hc1, ← ha1, ← hz] at HW
  clear h hc1 ha1 hG hz hj hl
  go_enter Tryd.func30, Tryd.ntmps30
  go_wp2_with (first
    | (go_at_call 29; refine (rmust_not HB2.out.qb hc.out _).mono ?_; rintro e' w1 ⟨rfl, q1⟩; have HX1 := hid (HB2.out.quiet q1); clear q1)
    | (go_at_call 45; refine HW.out.mono ?_; rintro e' w2 ⟨rfl, h2, q2⟩; have HB2 := hid (HB.out.step q2 h2); clear h2 q2))
  clear HB HB2 HW
  go_loopw [6] (fun n wr => ∃ k : Nat, n = .int .i64 k ∧ 1 ≤ k ∧ k ≤ 22 ∧ Hid (XS w rb e all ao cap 0 0 0 z c a wr)) (fun n _ => 23 - (intOf n).toNat)
  case atStart => exact ⟨1, rfl, Nat.le_refl _, by omega, HX1⟩
  case round =>
    obtain ⟨k, rfl, hk1, hk2, HX⟩ := hrel
    clear HX1
    obtain ⟨⟨x0, x1, x2, x3⟩, xf⟩ := HX.out.cells
    obtain ⟨⟨r0, r1, r2, r3⟩, rf⟩ := HX.out.res
    have hlx := lt_of_block HX.out.x0
    by_cases hk : k = 22
    · subst hk
      go_wp2_with (go_at_call 45; refine (rwrong_not HX.out.qb hc.out 5).mono ?_; rintro e' w3 ⟨rfl, h3⟩; replace h3 := h3.symm; subst h3)
      refine bodyPost_ret (v := .agg #[.int .i64 0, .int .i64 0, .int .i64 0, .slice none 0 0]) (by simp [results, Tryd.results30, go_sem, r0, r1, r2, r3]) rfl ?_
      exact ⟨zeroV, none, 0, z, rfl, HX.out.told _ _ _ _⟩
    · have hk' : (k : Int) ≤ 21 := by omega
      go_wp2_with (first
        | (go_at_call 44; refine (ris_not (HX.out.qb.quiet q3) hc.out _).mono ?_; rintro e' w4 ⟨rfl, q4⟩)
        | (go_at_call 15; refine (wordOf_any (k : Int) _).mono ?_; rintro e' w3 ⟨rfl, q3⟩))
      exact ⟨⟨k + 1, by go_num, by omega, by omega, HX.out.quiet (q3.trans q4)⟩, by simp [intOf]; omega⟩
set_option maxRecDepth 8000 in
set_option maxHeartbeats 2000000 in
theorem rexpr_open {w : World} {rb : Nat} {e : Int} {all : List Tk} {ao : Option Addr} {cap : Nat} {j f : Nat} {o : Int} {x : Int × Int} (h : QB w rb e all ao cap j 0 0) (hl : all.length ≤ 9000) (hj : j ≤ all.length) (hF : Fine all) (ho : ¬ 30 < o) (hm : mustT e lpar (all.drop j) = .error x) : Calls Tryd.prog 30 #[.pointer (some ⟨rb, 0, none⟩), .int .i64 o] w (OutQ rb e all ao cap w (exprT e (f + 1) (all.drop j))) := by
  have hG : exprT e (f + 1) (all.drop j) = .error x := by rw [exprT, hm]; rfl
  rw [hG]
  obtain ⟨z, hz⟩ : ∃ z : Int, z = (j : Int) := ⟨_, rfl⟩
  obtain ⟨c, a⟩ := x
  have hc := hid (show c ≠ 0 by have := must_told e lpar (all.drop j) _ hm; simp only at this; omega)
  have HB := hid (XS.begin h)
  have HW := hid (rmust_bad (XS.begin h).qb hl hj lpar (fine_mark hF).1 hm)
  rw [← hz] at HW
  clear h hG hz hj hl hm hF
  go_enter Tryd.func30, Tryd.ntmps30
  go_wp2_with (go_at_call 29; refine HW.out.mono ?_; rintro e' w1 ⟨rfl, h2, q2⟩; have HX1 := hid (HB.out.step q2 h2); clear h2 q2)
  clear HB HW
  go_loopw [6] (fun n wr => ∃ k : Nat, n = .int .i64 k ∧ 1 ≤ k ∧ k ≤ 22 ∧ Hid (XS w rb e all ao cap 0 0 0 z c a wr)) (fun n _ => 23 - (intOf n).toNat)
  case atStart => exact ⟨1, rfl, Nat.le_refl _, by omega, HX1⟩
  case round =>
    obtain ⟨k, rfl, hk1, hk2, HX⟩ := hrel
    clear HX1
    obtain ⟨⟨x0, x1, x2, x3⟩, xf⟩ := HX.out.cells
    obtain ⟨⟨r0, r1, r2, r3⟩, rf⟩ := HX.out.res
    have hlx := lt_of_block HX.out.x0
    by_cases hk : k = 22
    · subst hk
      go_wp2_with (go_at_call 45; refine (rwrong_not HX.out.qb hc.out 5).mono ?_; rintro e' w3 ⟨rfl, h3⟩; replace h3 := h3.symm; subst h3)
      refine bodyPost_ret (v := .agg #[.int .i64 0, .int .i64 0, .int .i64 0, .slice none 0 0]) (by simp [results, Tryd.results30, go_sem, r0, r1, r2, r3]) rfl ?_
      exact ⟨zeroV, none, 0, z, rfl, HX.out.told _ _ _ _⟩
    · have hk' : (k : Int) ≤ 21 := by omega
      go_wp2_with (first
        | (go_at_call 44; refine (ris_not (HX.out.qb.quiet q3) hc.out _).mono ?_; rintro e' w4 ⟨rfl, q4⟩)
        | (go_at_call 15; refine (wordOf_any (k : Int) _).mono ?_; rintro e' w3 ⟨rfl, q3⟩))
      exact ⟨⟨k + 1, by go_num, by omega, by omega, HX.out.quiet (q3.trans q4)⟩, by simp [intOf]; omega⟩
end Go.Proofs.YthogejofkodmkacDoor
