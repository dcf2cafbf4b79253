/- The document's words. -/
import Derived.Test.YtbcfbelfeaakoadDoorSmall
import Derived.Test.YtbcfbelfeaakoadDoorGPlain
namespace Go.Proofs.YtbcfbelfeaakoadDoor
open Go.ChangeShapes Go.WideShapes Go.ChangeAt Go.RowKit
def strV (s : List UInt8) : Value := .string ⟨s.toArray⟩
theorem name_next (L : List (List UInt8)) (m : Nat) (hm : m < L.length) : nameIn L ((m : Int) + 1) = L[m] := by
  have h := name_at L (m + 1) (by omega) (by omega)
  rw [show ((m + 1 : Nat) : Int) = (m : Int) + 1 by omega] at h
  exact h
theorem words_at (L : List (List UInt8)) (m : Nat) (hm : m < L.length) (h : m < (L.map strV).length) : (L.map strV)[m]'h = .string ⟨(nameIn L ((m : Int) + 1)).toArray⟩ := by
  rw [name_next L m hm, List.getElem_map]; rfl
set_option maxRecDepth 8000 in
set_option maxHeartbeats 2000000 in
theorem wordOf_any (k : Int) (w : World) : Calls Tryd.prog 46 #[.int .i64 k] w fun e' w' => e' = .returned (.string ⟨(nameIn wordL k).toArray⟩) ∧ Quiet w w' := by
  have hk : k < 1 ∨ (¬ k < 1 ∧ 21 < k) ∨ ∃ m : Nat, k = (m : Int) + 1 ∧ m < 21 := by
    rcases (show k < 1 ∨ 21 < k ∨ (1 ≤ k ∧ k ≤ 21) by omega) with h | h | h
    · exact .inl h
    · exact .inr (.inl (by omega))
    · exact .inr (.inr ⟨(k - 1).toNat, by omega, by omega⟩)
  rcases hk with hk | ⟨hk, hk2⟩ | ⟨m, rfl, hm⟩
  · have hE := hid (name_past wordL k (by rw [wordL_len]; omega))
    go_enter Tryd.func46, Tryd.ntmps46
    go_wp2
    go_ret
    exact ⟨by rw [hE.out]; rfl, Kp.alloc _ _⟩
  · have hE := hid (name_past wordL k (by rw [wordL_len]; omega))
    go_enter Tryd.func46, Tryd.ntmps46
    go_wp2
    go_ret
    exact ⟨by rw [hE.out]; rfl, Kp.alloc _ _⟩
  · have HC := hid (words_at wordL m hm)
    have h1 : ¬ (m : Int) + 1 < 1 := by omega
    have h2 : ¬ (21 : Int) < (m : Int) + 1 := by omega
    have h3 : (m : Int) < 21 := by omega
    go_enter Tryd.func46, Tryd.ntmps46
    go_wp2
    go_ret
    exact ⟨congrArg Ending.returned (HC.out (by rw [List.length_map]; exact hm)), Kp.alloc _ _⟩
theorem binOf_any (k : Int) (w : World) : Calls Tryd.prog 48 #[.int .i64 k] w fun e' w' => e' = .returned (.string ⟨(nameIn binL k).toArray⟩) ∧ Quiet w w' := by
  have h : (k = 1 ∨ k = 2 ∨ k = 3 ∨ k = 4 ∨ k = 5) ∨ k < 1 ∨ (¬ k < 1 ∧ 5 < k) := by omega
  rcases h with h | h
  · rcases h with rfl | rfl | rfl | rfl | rfl
    all_goals
      go_enter Tryd.func48, Tryd.ntmps48
      go_wp2
      go_ret
      exact ⟨rfl, Kp.alloc _ _⟩
  · have hE := hid (name_past binL k (by rw [binL_len]; omega))
    rcases h with hk | ⟨hk, hk2⟩
    all_goals
      go_enter Tryd.func48, Tryd.ntmps48
      go_wp2
      go_ret
      exact ⟨by rw [hE.out]; rfl, Kp.alloc _ _⟩
end Go.Proofs.YtbcfbelfeaakoadDoor
