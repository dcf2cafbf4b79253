/- The walk of the law RightsBack. -/
import Derived.Test.YtdojppdcfmdkfaaMeetWalk
namespace Go.Proofs.Ytdojppdcfmdkfaa
open Go.ChangeShapes Go.WideShapes Go.ChangeAt Go.RowKit
theorem mod16 (a : Int) : ∃ x : Nat, x < 16 ∧ wrap64 ((IntKind.u64.wrap a).tmod 16) = (x : Int) := by
  have h0 : 0 ≤ IntKind.u64.wrap a := by simp [IntKind.wrap, IntKind.bits, IntKind.signed]; omega
  refine ⟨((IntKind.u64.wrap a).tmod 16).toNat, ?_, ?_⟩
  · rw [Int.tmod_eq_emod_of_nonneg h0]; omega
  · rw [Int.tmod_eq_emod_of_nonneg h0]; unfold wrap64; omega
theorem check_small (x : Nat) (h : x < 16) : checkB (x : Int) = true := by unfold checkB; simp; omega
set_option maxHeartbeats 1000000 in
theorem backLaw (a : Int) (l : List UInt8) (hl : l.length ≤ maxLen) (w : World) :
    Calls Try.prog 4 #[.int .i64 a, .string ⟨l.toArray⟩] w fun e w' => e = .returned (.bool true) ∧ w' = w := by
  by_cases h1000 : 1000 < l.length
  · unfold maxLen at hl
    go_enter Try.func4, Try.ntmps4
    go_wp2_with (go_at_call 6; refine (begun_any _).mono ?_; rintro e w' ⟨rfl, rfl⟩)
    go_ret
    exact ⟨rfl, rfl⟩
  · have HL := hid hl
    have HT : Hid (∀ x : Nat, (textOf (x : Int)).length ≤ maxLen) := hid (fun x => Nat.le_trans (text_len x) (by decide))
    unfold maxLen at hl
    obtain ⟨x, hx, hxe⟩ := mod16 a
    have ht := text_parse x hx
    cases hb : (parseOf l).2
    · have h0 := parse_no l hb
      go_enter Try.func4, Try.ntmps4
      go_wp2_with (first
        | (go_at_call 6; refine (begun_any _).mono ?_; rintro e w' ⟨rfl, rfl⟩)
        | (go_at_call 13; refine (text_any _ _).mono ?_; rintro e w' ⟨rfl, rfl⟩)
        | (go_at_call 8; refine (parse_any _ (by first | exact HL.out | exact HT.out x) _).mono ?_; rintro e w' ⟨rfl, rfl⟩))
      go_ret
      exact ⟨rfl, rfl⟩
    · obtain ⟨h0, h1⟩ := parse_yes l hb
      have h2 := check_small _ h0
      go_enter Try.func4, Try.ntmps4
      go_wp2_with (first
        | (go_at_call 6; refine (begun_any _).mono ?_; rintro e w' ⟨rfl, rfl⟩)
        | (go_at_call 13; refine (text_any _ _).mono ?_; rintro e w' ⟨rfl, rfl⟩)
        | (go_at_call 10; refine (check_any _ _).mono ?_; rintro e w' ⟨rfl, rfl⟩)
        | (go_at_call 8; refine (parse_any _ (by first | exact HL.out | exact HT.out x) _).mono ?_; rintro e w' ⟨rfl, rfl⟩))
      go_ret
      exact ⟨rfl, rfl⟩
end Go.Proofs.Ytdojppdcfmdkfaa
