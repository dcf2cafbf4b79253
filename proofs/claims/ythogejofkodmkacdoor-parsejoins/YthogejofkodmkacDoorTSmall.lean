/- The sorts of bytes, of both packages; where a sort ends. -/
import Derived.Test.YthogejofkodmkacDoorGBase
namespace Go.Proofs.YthogejofkodmkacDoor
open Go.ChangeShapes Go.WideShapes Go.ChangeAt Go.RowKit
theorem ret_bool {a b : Bool} (h : a = b) : Ending.returned (.bool a) = .returned (.bool b) := by rw [h]
set_option maxRecDepth 8000 in
set_option maxHeartbeats 400000 in
theorem blank_any (z : Int) (w : World) : Calls Tryd.prog 20 #[.int .u8 z] w fun e w' => e = .returned (.bool (blankZ z)) ∧ w' = w := by
  go_enter Tryd.func20, Tryd.ntmps20
  go_wp2
  all_goals
    go_ret
    exact ⟨ret_bool (by simp [blankZ, *]), rfl⟩
set_option maxRecDepth 8000 in
set_option maxHeartbeats 400000 in
theorem letter_any (z : Int) (w : World) : Calls Tryd.prog 36 #[.int .u8 z] w fun e w' => e = .returned (.bool (letterZ z)) ∧ w' = w := by
  by_cases h : 97 ≤ z
  all_goals
    go_enter Tryd.func36, Tryd.ntmps36
    go_wp2
    go_ret
    exact ⟨ret_bool (by simp only [letterZ]; simp; try omega), rfl⟩
set_option maxRecDepth 8000 in
set_option maxHeartbeats 400000 in
theorem digit_any (z : Int) (w : World) : Calls Tryd.prog 37 #[.int .u8 z] w fun e w' => e = .returned (.bool (digitZ z)) ∧ w' = w := by
  by_cases h : 48 ≤ z
  all_goals
    go_enter Tryd.func37, Tryd.ntmps37
    go_wp2
    go_ret
    exact ⟨ret_bool (by simp only [digitZ]; simp; try omega), rfl⟩
set_option maxRecDepth 8000 in
set_option maxHeartbeats 400000 in
theorem rletter_any (z : Int) (w : World) : Calls Tryd.prog 23 #[.int .u8 z] w fun e w' => e = .returned (.bool (letterZ z)) ∧ w' = w := by
  by_cases h : 97 ≤ z
  all_goals
    go_enter Tryd.func23, Tryd.ntmps23
    go_wp2
    go_ret
    exact ⟨ret_bool (by simp only [letterZ]; simp; try omega), rfl⟩
set_option maxRecDepth 8000 in
set_option maxHeartbeats 400000 in
theorem rdigit_any (z : Int) (w : World) : Calls Tryd.prog 24 #[.int .u8 z] w fun e w' => e = .returned (.bool (digitZ z)) ∧ w' = w := by
  by_cases h : 48 ≤ z
  all_goals
    go_enter Tryd.func24, Tryd.ntmps24
    go_wp2
    go_ret
    exact ⟨ret_bool (by simp only [digitZ]; simp; try omega), rfl⟩
theorem f_any (a b : Int) (w : World) : Calls Tryd.prog 22 #[.int .i64 a, .int .i64 b] w fun e w' => e = .returned (.agg #[.int .i64 a, .int .i64 b]) ∧ Quiet w w' := by
  go_enter Tryd.func22, Tryd.ntmps22
  go_wp2
  exact bodyPost_ret (v := .agg #[.int .i64 a, .int .i64 b]) (by simp [results, Tryd.results22, go_sem]) rfl ⟨rfl, Kp.alloc _ _⟩
set_option maxRecDepth 8000 in
set_option maxHeartbeats 400000 in
theorem end_blank (l : List UInt8) (i : Nat) (w : World) (hl : l.length ≤ 9000) (hi : i ≤ l.length) :
    Calls Tryd.prog 19 #[.string ⟨l.toArray⟩, .int .i64 i, .func (.func 20) #[] #[]] w fun e w' => e = .returned (.int .i64 (stop blank l i)) ∧ w' = w := by
  have hz : (ByteArray.mk l.toArray).size = l.length := by simp [ByteArray.size]
  go_enter Tryd.func19, Tryd.ntmps19
  go_wp2
  go_loop [1] (fun n => ∃ k : Nat, k ≤ l.length ∧ n = .int .i64 k ∧ Hid (stop blank l k = stop blank l i)) (fun n => l.length - (intOf n).toNat)
  case atStart => exact ⟨i, hi, rfl, rfl⟩
  case round =>
    obtain ⟨k, hk, rfl, hs⟩ := hrel
    by_cases hlt : k < l.length
    · cases hb : blank l[k] with
      | true =>
        have hb2 : blankZ (((ByteArray.mk l.toArray)[k]'(by omega)).toNat : Int) = true := hb
        have HB := hid hb
        clear hb
        go_wp2_with (go_at_call 20; refine (blank_any _ _).mono ?_; rintro e w' ⟨rfl, rfl⟩)
        go_round
        case rel => exact ⟨k + 1, by omega, by go_num, (stop_yes blank l k hlt HB.out).symm.trans hs.out⟩
        case measure => simp [intOf]; omega
      | false =>
        have hb2 : blankZ (((ByteArray.mk l.toArray)[k]'(by omega)).toNat : Int) = false := hb
        have HB := hid hb
        clear hb
        go_wp2_with (go_at_call 20; refine (blank_any _ _).mono ?_; rintro e w' ⟨rfl, rfl⟩)
        go_ret
        exact ⟨by rw [← hs.out, stop_no blank l k hlt HB.out]; rfl, rfl⟩
    · go_wp2
      go_ret
      exact ⟨by rw [← hs.out, stop_end blank l k (by omega)]; rfl, rfl⟩
set_option maxRecDepth 8000 in
set_option maxHeartbeats 400000 in
theorem end_letter (l : List UInt8) (i : Nat) (w : World) (hl : l.length ≤ 9000) (hi : i ≤ l.length) :
    Calls Tryd.prog 19 #[.string ⟨l.toArray⟩, .int .i64 i, .func (.func 36) #[] #[]] w fun e w' => e = .returned (.int .i64 (stop letter l i)) ∧ w' = w := by
  have hz : (ByteArray.mk l.toArray).size = l.length := by simp [ByteArray.size]
  go_enter Tryd.func19, Tryd.ntmps19
  go_wp2
  go_loop [1] (fun n => ∃ k : Nat, k ≤ l.length ∧ n = .int .i64 k ∧ Hid (stop letter l k = stop letter l i)) (fun n => l.length - (intOf n).toNat)
  case atStart => exact ⟨i, hi, rfl, rfl⟩
  case round =>
    obtain ⟨k, hk, rfl, hs⟩ := hrel
    by_cases hlt : k < l.length
    · cases hb : letter l[k] with
      | true =>
        have hb2 : letterZ (((ByteArray.mk l.toArray)[k]'(by omega)).toNat : Int) = true := hb
        have HB := hid hb
        clear hb
        go_wp2_with (go_at_call 36; refine (letter_any _ _).mono ?_; rintro e w' ⟨rfl, rfl⟩)
        go_round
        case rel => exact ⟨k + 1, by omega, by go_num, (stop_yes letter l k hlt HB.out).symm.trans hs.out⟩
        case measure => simp [intOf]; omega
      | false =>
        have hb2 : letterZ (((ByteArray.mk l.toArray)[k]'(by omega)).toNat : Int) = false := hb
        have HB := hid hb
        clear hb
        go_wp2_with (go_at_call 36; refine (letter_any _ _).mono ?_; rintro e w' ⟨rfl, rfl⟩)
        go_ret
        exact ⟨by rw [← hs.out, stop_no letter l k hlt HB.out]; rfl, rfl⟩
    · go_wp2
      go_ret
      exact ⟨by rw [← hs.out, stop_end letter l k (by omega)]; rfl, rfl⟩
set_option maxRecDepth 8000 in
set_option maxHeartbeats 400000 in
theorem end_digit (l : List UInt8) (i : Nat) (w : World) (hl : l.length ≤ 9000) (hi : i ≤ l.length) :
    Calls Tryd.prog 19 #[.string ⟨l.toArray⟩, .int .i64 i, .func (.func 37) #[] #[]] w fun e w' => e = .returned (.int .i64 (stop digit l i)) ∧ w' = w := by
  have hz : (ByteArray.mk l.toArray).size = l.length := by simp [ByteArray.size]
  go_enter Tryd.func19, Tryd.ntmps19
  go_wp2
  go_loop [1] (fun n => ∃ k : Nat, k ≤ l.length ∧ n = .int .i64 k ∧ Hid (stop digit l k = stop digit l i)) (fun n => l.length - (intOf n).toNat)
  case atStart => exact ⟨i, hi, rfl, rfl⟩
  case round =>
    obtain ⟨k, hk, rfl, hs⟩ := hrel
    by_cases hlt : k < l.length
    · cases hb : digit l[k] with
      | true =>
        have hb2 : digitZ (((ByteArray.mk l.toArray)[k]'(by omega)).toNat : Int) = true := hb
        have HB := hid hb
        clear hb
        go_wp2_with (go_at_call 37; refine (digit_any _ _).mono ?_; rintro e w' ⟨rfl, rfl⟩)
        go_round
        case rel => exact ⟨k + 1, by omega, by go_num, (stop_yes digit l k hlt HB.out).symm.trans hs.out⟩
        case measure => simp [intOf]; omega
      | false =>
        have hb2 : digitZ (((ByteArray.mk l.toArray)[k]'(by omega)).toNat : Int) = false := hb
        have HB := hid hb
        clear hb
        go_wp2_with (go_at_call 37; refine (digit_any _ _).mono ?_; rintro e w' ⟨rfl, rfl⟩)
        go_ret
        exact ⟨by rw [← hs.out, stop_no digit l k hlt HB.out]; rfl, rfl⟩
    · go_wp2
      go_ret
      exact ⟨by rw [← hs.out, stop_end digit l k (by omega)]; rfl, rfl⟩
end Go.Proofs.YthogejofkodmkacDoor
