/- The walk of the law RightsDoes. -/
import Derived.Test.YtdojppdcfmdkfaaDoesMath
namespace Go.Proofs.Ytdojppdcfmdkfaa
open Go.ChangeShapes Go.WideShapes Go.ChangeAt Go.RowKit
theorem wrap_pow (k : Nat) (hk : k < 63) : wrap64 (2 ^ k) = ((2 ^ k : Nat) : Int) := by
  have h2 : (2 : Nat) ^ k < 2 ^ 63 := Nat.pow_lt_pow_right (by omega) hk
  have e : (2 : Int) ^ k = ((2 ^ k : Nat) : Int) := by simp
  rw [e]; unfold wrap64
  generalize (2 : Nat) ^ k = n at *
  omega
theorem ret_int64 {x y : Int} (h : x = y) : Value.int .i64 x = Value.int .i64 y := by rw [h]
theorem check_split (a : Int) : checkB a = (decide (0 ≤ a) && decide (a ≤ 15)) := by unfold checkB; simp
theorem ret_b {x y : Bool} (h : x = y) : Value.bool x = Value.bool y := by rw [h]
set_option maxHeartbeats 2000000 in
theorem doesLaw (a b : Int) (l : List UInt8) (ha : -9223372036854775808 ≤ a ∧ a ≤ 9223372036854775807) (hb : -9223372036854775808 ≤ b ∧ b ≤ 9223372036854775807) (hl : l.length ≤ maxLen) (w : World) :
    Calls Try.prog 3 #[.int .i64 a, .int .i64 b, .string ⟨l.toArray⟩] w fun e w' => e = .returned (.bool true) ∧ Grown w w' := by
  have HL := hid hl
  unfold maxLen at hl
  by_cases h1000 : 1000 < l.length
  · go_enter Try.func3, Try.ntmps3
    go_wp2_with (go_at_call 6; refine (begun_any _).mono ?_; rintro e w' ⟨rfl, rfl⟩)
    go_ret
    exact ⟨rfl, Grown.refl _⟩
  · go_enter Try.func3, Try.ntmps3
    go_wp2_with (go_at_call 6; refine (begun_any _).mono ?_; rintro e w' ⟨rfl, rfl⟩)
    go_loop [7, 8, 9] (fun h m i => ∃ k : Nat, k ≤ 63 ∧ i = .int .i64 k ∧ h = .bool (hasTo a b k) ∧ m = .int .i64 (meetTo a b k)) (fun _ _ i => 63 - (intOf i).toNat)
    case atStart => exact ⟨0, Nat.zero_le _, rfl, rfl, rfl⟩
    case round =>
      obtain ⟨k, hk, rfl, rfl, rfl⟩ := hrel
      by_cases hlt : k < 63
      · have HM := hid (meet_lt a b k)
        cases hab : bitB a k <;> cases hbb : bitB b k
        all_goals
          have HA := hid hab
          have HB := hid hbb
          go_wp2_with (go_at_call 7; refine (bit_any _ k (by omega) (by omega) (by omega) _).mono ?_; rintro e w' ⟨rfl, rfl⟩)
          refine ⟨⟨k + 1, by omega, by go_num, ret_b ?_, ret_int64 ?_⟩, by simp [intOf]; omega⟩
          · simp [hasTo, HA.out, HB.out]
          · first
              | (simp [meetTo, HA.out, HB.out]; done)
              | (rw [wrap_pow k hlt, or_pow _ k hlt HM.out]; simp [meetTo, HA.out, HB.out])
      · obtain rfl : k = 63 := by omega
        by_cases ha0 : a < 0 <;> by_cases hb0 : b < 0
        · have e1 : decide (a < 0) = true := by simpa using ha0
          have e2 : decide (b < 0) = true := by simpa using hb0
          have e3 : decide (0 ≤ a) = false := by simpa using ha0
          have hM : meetI a b = bits .or .i64 (meetTo a b 63 : Int) (-9223372036854775808) := by rw [← meet_end a b ha hb]; unfold meetEnd; rw [e1, e2]; rfl
          have hH : hasB a b = hasTo a b 63 := by rw [← has_end a b ha hb]; unfold hasEnd; rw [e2, e3]; rfl
          have hC : checkB a = false := by rw [check_split, e3]; rfl
          clear e1 e2
          go_wp2_with (first
            | (go_at_call 8; refine (parse_any l HL.out _).mono ?_; rintro e w1 ⟨rfl, rfl⟩)
            | (go_at_call 9; refine (rof_any l _).mono ?_; rintro e w1 ⟨rfl, hg1⟩)
            | (go_at_call 10; refine (check_any _ _).mono ?_; rintro e w2 ⟨rfl, rfl⟩)
            | (go_at_call 11; refine (has_any _ _ (by omega) (by omega) _).mono ?_; rintro e w2 ⟨rfl, rfl⟩)
            | (go_at_call 12; refine (meet_any _ _ _).mono ?_; rintro e w2 ⟨rfl, rfl⟩)
            | (go_at_call 13; refine (text_any _ _).mono ?_; rintro e w2 ⟨rfl, rfl⟩)
            | (go_at_call 14; refine (rtext_any _ (by omega) (by omega) _).mono ?_; rintro e w3 ⟨rfl, hg3⟩))
          go_ret
          exact ⟨rfl, grown_trans hg1 hg3⟩
        · have e1 : decide (a < 0) = true := by simpa using ha0
          have e2 : decide (b < 0) = false := by simpa using hb0
          have e3 : decide (0 ≤ a) = false := by simpa using ha0
          have hM : meetI a b = (meetTo a b 63 : Int) := by rw [← meet_end a b ha hb]; unfold meetEnd; rw [e1, e2]; rfl
          have hH : hasB a b = hasTo a b 63 := by rw [← has_end a b ha hb]; unfold hasEnd; rw [e2, e3]; rfl
          have hC : checkB a = false := by rw [check_split, e3]; rfl
          clear e1 e2
          go_wp2_with (first
            | (go_at_call 8; refine (parse_any l HL.out _).mono ?_; rintro e w1 ⟨rfl, rfl⟩)
            | (go_at_call 9; refine (rof_any l _).mono ?_; rintro e w1 ⟨rfl, hg1⟩)
            | (go_at_call 10; refine (check_any _ _).mono ?_; rintro e w2 ⟨rfl, rfl⟩)
            | (go_at_call 11; refine (has_any _ _ (by omega) (by omega) _).mono ?_; rintro e w2 ⟨rfl, rfl⟩)
            | (go_at_call 12; refine (meet_any _ _ _).mono ?_; rintro e w2 ⟨rfl, rfl⟩)
            | (go_at_call 13; refine (text_any _ _).mono ?_; rintro e w2 ⟨rfl, rfl⟩)
            | (go_at_call 14; refine (rtext_any _ (by omega) (by omega) _).mono ?_; rintro e w3 ⟨rfl, hg3⟩))
          go_ret
          exact ⟨rfl, grown_trans hg1 hg3⟩
        · have e1 : decide (a < 0) = false := by simpa using ha0
          have e2 : decide (b < 0) = true := by simpa using hb0
          have e3 : decide (0 ≤ a) = true := by simpa using ha0
          have hM : meetI a b = (meetTo a b 63 : Int) := by rw [← meet_end a b ha hb]; unfold meetEnd; rw [e1, e2]; rfl
          have hH : hasB a b = false := by rw [← has_end a b ha hb]; unfold hasEnd; rw [e2, e3]; rfl
          have hC : checkB a = decide (a ≤ 15) := by rw [check_split, e3]; rfl
          clear e1 e2
          by_cases h15 : a ≤ 15
          all_goals
            go_wp2_with (first
              | (go_at_call 8; refine (parse_any l HL.out _).mono ?_; rintro e w1 ⟨rfl, rfl⟩)
              | (go_at_call 9; refine (rof_any l _).mono ?_; rintro e w1 ⟨rfl, hg1⟩)
              | (go_at_call 10; refine (check_any _ _).mono ?_; rintro e w2 ⟨rfl, rfl⟩)
              | (go_at_call 11; refine (has_any _ _ (by omega) (by omega) _).mono ?_; rintro e w2 ⟨rfl, rfl⟩)
              | (go_at_call 12; refine (meet_any _ _ _).mono ?_; rintro e w2 ⟨rfl, rfl⟩)
              | (go_at_call 13; refine (text_any _ _).mono ?_; rintro e w2 ⟨rfl, rfl⟩)
              | (go_at_call 14; refine (rtext_any _ (by omega) (by omega) _).mono ?_; rintro e w3 ⟨rfl, hg3⟩))
            go_ret
            exact ⟨rfl, grown_trans hg1 hg3⟩
        · have e1 : decide (a < 0) = false := by simpa using ha0
          have e2 : decide (b < 0) = false := by simpa using hb0
          have e3 : decide (0 ≤ a) = true := by simpa using ha0
          have hM : meetI a b = (meetTo a b 63 : Int) := by rw [← meet_end a b ha hb]; unfold meetEnd; rw [e1, e2]; rfl
          have hH : hasB a b = hasTo a b 63 := by rw [← has_end a b ha hb]; unfold hasEnd; rw [e2, e3]; rfl
          have hC : checkB a = decide (a ≤ 15) := by rw [check_split, e3]; rfl
          clear e1 e2
          by_cases h15 : a ≤ 15
          all_goals
            go_wp2_with (first
              | (go_at_call 8; refine (parse_any l HL.out _).mono ?_; rintro e w1 ⟨rfl, rfl⟩)
              | (go_at_call 9; refine (rof_any l _).mono ?_; rintro e w1 ⟨rfl, hg1⟩)
              | (go_at_call 10; refine (check_any _ _).mono ?_; rintro e w2 ⟨rfl, rfl⟩)
              | (go_at_call 11; refine (has_any _ _ (by omega) (by omega) _).mono ?_; rintro e w2 ⟨rfl, rfl⟩)
              | (go_at_call 12; refine (meet_any _ _ _).mono ?_; rintro e w2 ⟨rfl, rfl⟩)
              | (go_at_call 13; refine (text_any _ _).mono ?_; rintro e w2 ⟨rfl, rfl⟩)
              | (go_at_call 14; refine (rtext_any _ (by omega) (by omega) _).mono ?_; rintro e w3 ⟨rfl, hg3⟩))
            go_ret
            exact ⟨rfl, grown_trans hg1 hg3⟩
end Go.Proofs.Ytdojppdcfmdkfaa
