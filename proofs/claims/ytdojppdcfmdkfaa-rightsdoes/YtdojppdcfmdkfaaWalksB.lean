/- The contracts of the document's RightsOf and of the statements' own beginning. -/
import Derived.Test.YtdojppdcfmdkfaaWalksA
namespace Go.Proofs.Ytdojppdcfmdkfaa
open Go.ChangeShapes Go.WideShapes Go.ChangeAt Go.RowKit
theorem grown_trans {a b c : World} (h1 : Grown a b) (h2 : Grown b c) : Grown a c := by
  obtain ⟨p1, p2, p3⟩ := h1
  obtain ⟨q1, q2, q3⟩ := h2
  exact ⟨World.keptBut_trans p1 q1, fun a => by rw [q2, p2], Nat.le_trans p3 q3⟩
set_option maxHeartbeats 400000 in
theorem rof_any (l : List UInt8) (w : World) :
    Calls Try.prog 9 #[.string ⟨l.toArray⟩] w fun e w' => e = .returned (.tuple #[.int .i64 (parseOf l).1, .bool (parseOf l).2]) ∧ Grown w w' := by
  go_enter Try.func9, Try.ntmps9
  go_wp2
  go_loopw [4] (fun i w' => Grown w w' ∧ ∃ k : Nat, k ≤ 16 ∧ i = .int .i64 k ∧ Hid (∀ r : Nat, r < k → textOf (r : Int) ≠ l)) (fun i _ => 16 - (intOf i).toNat)
  case atStart => exact ⟨Grown.refl _, 0, Nat.zero_le _, rfl, hid (fun r h => absurd h (Nat.not_lt_zero r))⟩
  case round =>
    obtain ⟨hg, k, hk, rfl, hR⟩ := hrel
    by_cases hlt : k < 16
    · by_cases ht : textOf (k : Int) = l
      · have hP := hid (show parseOf l = (k, true) by rw [← ht]; exact text_parse k hlt)
        have hb : (textOf (k : Int) == l) = true := by simpa using ht
        clear ht
        go_wp2_with (go_at_call 14; refine (rtext_any _ (by omega) (by omega) _).mono ?_; rintro e w2 ⟨rfl, hg2⟩)
        go_ret2
        exact ⟨by rw [hP.out]; rfl, grown_trans hg hg2⟩
      · have hR2 := hid (show ∀ r : Nat, r < k + 1 → textOf (r : Int) ≠ l from fun r h => by
          by_cases e : r = k
          · rw [e]; exact ht
          · exact hR.out r (by omega))
        have hb : (textOf (k : Int) == l) = false := by simpa using ht
        clear ht hR
        go_wp2_with (go_at_call 14; refine (rtext_any _ (by omega) (by omega) _).mono ?_; rintro e w2 ⟨rfl, hg2⟩)
        exact ⟨⟨grown_trans hg hg2, k + 1, by omega, by go_num, hR2⟩, by simp [intOf]; omega⟩
    · obtain rfl : k = 16 := by omega
      have hP := hid (parse_none l hR.out)
      go_wp2
      go_ret2
      exact ⟨by rw [hP.out]; rfl, hg⟩
set_option maxHeartbeats 400000 in
theorem begun_any (w : World) :
    Calls Try.prog 6 #[] w fun e w' => e = .returned (.bool true) ∧ w' = w := by
  have h1 : parseOf [114, 112] = (5, true) := by decide +kernel
  have h2 : textOf 10 = [119, 97] := by decide +kernel
  have h3 : textOf 0 = [45] := by decide +kernel
  have h4 : hasB 7 5 = true := by decide +kernel
  have h5 : hasB 5 7 = false := by decide +kernel
  have h6 : meetI 6 3 = 2 := by decide +kernel
  go_enter Try.func6, Try.ntmps6
  go_wp2_with (first
    | (go_at_call 8; refine (parse_any _ (by decide) _).mono ?_; rintro e w' ⟨rfl, rfl⟩)
    | (go_at_call 13; refine (text_any _ _).mono ?_; rintro e w' ⟨rfl, rfl⟩)
    | (go_at_call 11; refine (has_any _ _ (by omega) (by omega) _).mono ?_; rintro e w' ⟨rfl, rfl⟩)
    | (go_at_call 12; refine (meet_any _ _ _).mono ?_; rintro e w' ⟨rfl, rfl⟩))
  go_ret
  exact ⟨rfl, rfl⟩
end Go.Proofs.Ytdojppdcfmdkfaa
