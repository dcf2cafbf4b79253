/- The walk of the law RightsMeet. -/
import Derived.Test.YtdojppdcfmdkfaaWalksB
namespace Go.Proofs.Ytdojppdcfmdkfaa
open Go.ChangeShapes Go.WideShapes Go.ChangeAt Go.RowKit
theorem rng_of {a : Int} (h : (Lit.int .i64 a).wf = true) : -9223372036854775808 ≤ a ∧ a ≤ 9223372036854775807 := by
  simpa [Lit.wf, IntKind.min, IntKind.max, IntKind.signed, IntKind.bits] using h
set_option maxHeartbeats 1000000 in
theorem meetLaw (a b c : Int) (ha : -9223372036854775808 ≤ a ∧ a ≤ 9223372036854775807) (hc : -9223372036854775808 ≤ c ∧ c ≤ 9223372036854775807) (w : World) :
    Calls Try.prog 5 #[.int .i64 a, .int .i64 b, .int .i64 c] w fun e w' => e = .returned (.bool true) ∧ w' = w := by
  have e1 := has_meet_l a b
  have e2 := has_meet_r a b
  have e3 := has_of_meet a b c
  have e4 := hid (meet_comm a b)
  have e5 := hid (meet_assoc a b c)
  have e6 := meet_self a ha.1 ha.2
  have r1 := meet_rng a b
  have r2 := meet_rng b c
  have b4 : (meetI a b == meetI b a) = true := by rw [e4.out]; simp
  have b5 : (meetI (meetI a b) c == meetI a (meetI b c)) = true := by rw [e5.out]; simp
  cases h1 : hasB a c <;> cases h2 : hasB b c
  all_goals
    rw [h1, h2] at e3
    simp only [Bool.and_self, Bool.and_false, Bool.false_and] at e3
    go_enter Try.func5, Try.ntmps5
    go_wp2_with (first
      | (go_at_call 6; refine (begun_any _).mono ?_; rintro e w' ⟨rfl, rfl⟩)
      | (go_at_call 11; refine (has_any _ _ (by omega) (by omega) _).mono ?_; rintro e w' ⟨rfl, rfl⟩)
      | (go_at_call 12; refine (meet_any _ _ _).mono ?_; rintro e w' ⟨rfl, rfl⟩))
    go_ret
    exact ⟨rfl, rfl⟩
end Go.Proofs.Ytdojppdcfmdkfaa
