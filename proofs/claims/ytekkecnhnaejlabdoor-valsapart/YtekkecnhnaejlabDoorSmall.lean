/- The contracts of package vals that look at a part by itself: partsOf, fault. -/
import Derived.Test.YtekkecnhnaejlabDoorKit
namespace Go.Proofs.YtekkecnhnaejlabDoor
open Go.ChangeShapes Go.WideShapes Go.ChangeAt Go.RowKit
theorem parts_cases {k : Int} {p : Nat} (h : partsB k = some p) : (k = 2 ∧ p = 2) ∨ (k = 3 ∧ p = 1) ∨ (k = 0 ∧ p = 0) ∨ (k = 1 ∧ p = 0) ∨ (k = 4 ∧ p = 0) ∨ (k = 5 ∧ p = 0) := by
  unfold partsB at h
  by_cases h2 : k = 2
  · rw [if_pos h2] at h; simp at h; omega
  · rw [if_neg h2] at h
    by_cases h3 : k = 3
    · rw [if_pos h3] at h; simp at h; omega
    · rw [if_neg h3] at h
      by_cases h4 : k = 0 ∨ k = 1 ∨ k = 4 ∨ k = 5
      · rw [if_pos h4] at h; simp at h; omega
      · rw [if_neg h4] at h; simp at h
theorem parts_none {k : Int} (h : partsB k = none) : k ≠ 2 ∧ k ≠ 3 ∧ k ≠ 0 ∧ k ≠ 1 ∧ k ≠ 4 ∧ k ≠ 5 := by
  unfold partsB at h
  refine ⟨?_, ?_, ?_, ?_, ?_, ?_⟩ <;> rintro rfl <;> simp at h
theorem partsOf_some {k : Int} {p : Nat} (h : partsB k = some p) (w : World) : Calls Tryd.prog 38 #[.int .i64 k] w fun e w' => e = .returned (.tuple #[.int .i64 p, .bool true]) ∧ w' = w := by
  rcases parts_cases h with ⟨rfl, rfl⟩ | ⟨rfl, rfl⟩ | ⟨rfl, rfl⟩ | ⟨rfl, rfl⟩ | ⟨rfl, rfl⟩ | ⟨rfl, rfl⟩ <;> clear h
  all_goals
    go_enter Tryd.func38, Tryd.ntmps38
    go_wp2
    go_ret2
    exact ⟨rfl, rfl⟩
theorem partsOf_none {k : Int} (h : partsB k = none) (w : World) : Calls Tryd.prog 38 #[.int .i64 k] w fun e w' => e = .returned (.tuple #[.int .i64 0, .bool false]) ∧ w' = w := by
  obtain ⟨h2, h3, h0, h1, h4, h5⟩ := parts_none h
  clear h
  go_enter Tryd.func38, Tryd.ntmps38
  go_wp2
  go_ret2
  exact ⟨rfl, rfl⟩
theorem fault_any (v : V) (ao : Option Addr) (cap : Nat) (w : World) : Calls Tryd.prog 26 #[.agg #[.int .i64 v.kind, .int .i64 v.n, .slice ao v.l.length cap]] w fun e w' => e = .returned (.int .i64 v.fault1) ∧ Quiet w w' := by
  obtain ⟨k, n, l⟩ := v
  cases hp : partsB k with
  | none =>
    have hE := hid (show (V.mk k n l).fault1 = 2 by simp [V.fault1, hp])
    go_enter Tryd.func26, Tryd.ntmps26
    go_wp2_with (go_at_call 38; refine (partsOf_none hp _).mono ?_; rintro e w' ⟨rfl, rfl⟩)
    go_ret
    exact ⟨by rw [hE.out]; rfl, Kp.alloc _ _⟩
  | some p =>
    by_cases hl : l.length = p
    · have hE := hid (show (V.mk k n l).fault1 = if (k = 0 ∨ k = 2) ∧ n ≠ 0 then 5 else if (k = 3 ∨ k = 4 ∨ k = 5) ∧ n < 0 then 1 else 0 by simp [V.fault1, hp, hl])
      generalize l.length = ll at *
      subst hl
      rcases parts_cases hp with ⟨rfl, rfl⟩ | ⟨rfl, rfl⟩ | ⟨rfl, rfl⟩ | ⟨rfl, rfl⟩ | ⟨rfl, rfl⟩ | ⟨rfl, rfl⟩
      all_goals
        go_enter Tryd.func26, Tryd.ntmps26
        go_wp2_with (go_at_call 38; refine (partsOf_some hp _).mono ?_; rintro e w' ⟨rfl, rfl⟩)
        all_goals go_ret
        all_goals exact ⟨by rw [hE.out]; first | rfl | (simp [*]; done) | simp_all, Kp.alloc _ _⟩
    · have hE := hid (show (V.mk k n l).fault1 = 5 by simp [V.fault1, hp, hl])
      have hl' : (l.length : Int) ≠ (p : Int) := by omega
      go_enter Tryd.func26, Tryd.ntmps26
      go_wp2_with (go_at_call 38; refine (partsOf_some hp _).mono ?_; rintro e w' ⟨rfl, rfl⟩)
      go_ret
      exact ⟨by rw [hE.out]; rfl, Kp.alloc _ _⟩
end Go.Proofs.YtekkecnhnaejlabDoor
