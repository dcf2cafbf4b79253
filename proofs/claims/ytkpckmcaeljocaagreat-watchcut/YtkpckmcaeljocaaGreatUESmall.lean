/- Parts. -/
import Derived.Test.YtkpckmcaeljocaaGreatUE0
namespace Go.Proofs.YtkpckmcaeljocaaGreat.Ex
open Go.ChangeShapes Go.WideShapes Go.ChangeAt Go.RowKit
theorem kinds (k : Int) : (k = 1 ∨ k = 2 ∨ k = 3 ∨ k = 4 ∨ k = 5 ∨ k = 6 ∨ k = 7 ∨ k = 8 ∨ k = 9 ∨ k = 10 ∨ k = 11 ∨ k = 12 ∨ k = 13 ∨ k = 14 ∨ k = 15 ∨ k = 16 ∨ k = 17 ∨ k = 18 ∨ k = 19 ∨ k = 20 ∨ k = 21) ∨
    (k ≠ 1 ∧ k ≠ 2 ∧ k ≠ 3 ∧ k ≠ 4 ∧ k ≠ 5 ∧ k ≠ 6 ∧ k ≠ 7 ∧ k ≠ 8 ∧ k ≠ 9 ∧ k ≠ 10 ∧ k ≠ 11 ∧ k ≠ 12 ∧ k ≠ 13 ∧ k ≠ 14 ∧ k ≠ 15 ∧ k ≠ 16 ∧ k ≠ 17 ∧ k ≠ 18 ∧ k ≠ 19 ∧ k ≠ 20 ∧ k ≠ 21) := by omega
theorem parts_any (k : Int) (w : World) : Calls Tryz.prog 140 #[.int .i64 k] w fun e w' => e = .returned (.int .i64 (partsI k)) ∧ w' = w := by
  rcases kinds k with h | ⟨h1, h2, h3, h4, h5, h6, h7, h8, h9, h10, h11, h12, h13, h14, h15, h16, h17, h18, h19, h20, h21⟩
  · rcases h with rfl | rfl | rfl | rfl | rfl | rfl | rfl | rfl | rfl | rfl | rfl | rfl | rfl | rfl | rfl | rfl | rfl | rfl | rfl | rfl | rfl
    all_goals
      go_enter Tryz.func140, Tryz.ntmps140
      go_wp2
      go_ret
      exact ⟨rfl, rfl⟩
  · have hE := hid (show partsI k = -1 by simp [partsI, *])
    go_enter Tryz.func140, Tryz.ntmps140
    go_wp2
    go_ret
    exact ⟨by rw [hE.out]; rfl, rfl⟩
theorem rcheck_any (k : Int) (w : World) : Calls Tryz.prog 124 #[.int .i64 k] w fun e w' => e = .returned (.bool (decide (0 ≤ k ∧ k ≤ 15))) ∧ w' = w := by
  by_cases h : 0 ≤ k
  · go_enter Tryz.func124, Tryz.ntmps124
    go_wp2
    go_ret
    exact ⟨by simp [h], rfl⟩
  · have hd : decide (0 ≤ k) = false := by simpa using h
    go_enter Tryz.func124, Tryz.ntmps124
    go_wp2
    go_ret
    exact ⟨by simp, rfl⟩
theorem faultK_any (v : V) (ao : Option Addr) (cap : Nat) (o F : Int) (w : World) : Calls Tryz.prog 141 #[.agg #[.int .i64 v.kind, .int .i64 v.k, .int .i64 v.n, .slice ao v.l.length cap, .int .i64 o, .int .i64 F]] w fun e w' => e = .returned (.int .i64 (faultK F v.kind v.k o)) ∧ Quiet w w' := by
  obtain ⟨kind, k, n, l⟩ := v
  by_cases h4 : kind = 4
  · subst h4
    by_cases ha : 0 ≤ k
    · by_cases hb : k < o
      · have hE := hid (show faultK F 4 k o = 0 by simp [faultK, ha, hb])
        go_enter Tryz.func141, Tryz.ntmps141
        go_wp2
        go_ret
        exact ⟨by rw [hE.out]; rfl, Kp.alloc _ _⟩
      · have hd : decide (k < o) = false := by simpa using hb
        have hE := hid (show faultK F 4 k o = 1 by simp [faultK, hb])
        go_enter Tryz.func141, Tryz.ntmps141
        go_wp2
        go_ret
        exact ⟨by rw [hE.out]; rfl, Kp.alloc _ _⟩
    · have hd : decide (0 ≤ k) = false := by simpa using ha
      have hE := hid (show faultK F 4 k o = 1 by simp [faultK, ha])
      go_enter Tryz.func141, Tryz.ntmps141
      go_wp2
      go_ret
      exact ⟨by rw [hE.out]; rfl, Kp.alloc _ _⟩
  by_cases h6 : kind = 6
  · subst h6
    by_cases ha : 1 ≤ k
    · by_cases hb : k ≤ 5
      · have hE := hid (show faultK F 6 k o = 0 by simp [faultK, ha, hb])
        go_enter Tryz.func141, Tryz.ntmps141
        go_wp2
        go_ret
        exact ⟨by rw [hE.out]; rfl, Kp.alloc _ _⟩
      · have hd : decide (k ≤ 5) = false := by simpa using hb
        have hE := hid (show faultK F 6 k o = 1 by simp [faultK, hb])
        go_enter Tryz.func141, Tryz.ntmps141
        go_wp2
        go_ret
        exact ⟨by rw [hE.out]; rfl, Kp.alloc _ _⟩
    · have hd : decide (1 ≤ k) = false := by simpa using ha
      have hE := hid (show faultK F 6 k o = 1 by simp [faultK, ha])
      go_enter Tryz.func141, Tryz.ntmps141
      go_wp2
      go_ret
      exact ⟨by rw [hE.out]; rfl, Kp.alloc _ _⟩
  by_cases h15 : kind = 15
  · subst h15
    cases hr : decide (0 ≤ k ∧ k ≤ 15) with
    | true =>
      have hE := hid (show faultK F 15 k o = 0 by simp [faultK]; simpa using hr)
      go_enter Tryz.func141, Tryz.ntmps141
      go_wp2_with (go_at_call 124; refine (rcheck_any k _).mono ?_; rintro e w2 ⟨rfl, rfl⟩; rw [hr])
      go_ret
      exact ⟨by rw [hE.out]; rfl, Kp.alloc _ _⟩
    | false =>
      have hE := hid (show faultK F 15 k o = 1 by have : ¬ (0 ≤ k ∧ k ≤ 15) := (by simpa using hr); simp only [faultK]; rw [if_neg (by decide), if_neg (by decide), if_pos trivial, if_neg this])
      go_enter Tryz.func141, Tryz.ntmps141
      go_wp2_with (go_at_call 124; refine (rcheck_any k _).mono ?_; rintro e w2 ⟨rfl, rfl⟩; rw [hr])
      go_ret
      exact ⟨by rw [hE.out]; rfl, Kp.alloc _ _⟩
  by_cases h18 : kind = 18
  · subst h18
    by_cases ha : 0 ≤ k
    · by_cases hb : k < F
      · have hE := hid (show faultK F 18 k o = 0 by simp [faultK, ha, hb])
        go_enter Tryz.func141, Tryz.ntmps141
        go_wp2
        go_ret
        exact ⟨by rw [hE.out]; rfl, Kp.alloc _ _⟩
      · have hd : decide (k < F) = false := by simpa using hb
        have hE := hid (show faultK F 18 k o = 1 by simp [faultK, hb])
        go_enter Tryz.func141, Tryz.ntmps141
        go_wp2
        go_ret
        exact ⟨by rw [hE.out]; rfl, Kp.alloc _ _⟩
    · have hd : decide (0 ≤ k) = false := by simpa using ha
      have hE := hid (show faultK F 18 k o = 1 by simp [faultK, ha])
      go_enter Tryz.func141, Tryz.ntmps141
      go_wp2
      go_ret
      exact ⟨by rw [hE.out]; rfl, Kp.alloc _ _⟩
  by_cases ha : k = 0
  · subst ha
    have hE := hid (show faultK F kind 0 o = 0 by simp [faultK, *])
    go_enter Tryz.func141, Tryz.ntmps141
    go_wp2
    go_ret
    exact ⟨by rw [hE.out]; rfl, Kp.alloc _ _⟩
  · have hE := hid (show faultK F kind k o = 5 by simp [faultK, *])
    have hd : decide (k = 0) = false := by simpa using ha
    have hd2 : (k == 0) = false := by simpa using ha
    go_enter Tryz.func141, Tryz.ntmps141
    go_wp2
    go_ret
    exact ⟨by rw [hE.out]; rfl, Kp.alloc _ _⟩
end Go.Proofs.YtkpckmcaeljocaaGreat.Ex
