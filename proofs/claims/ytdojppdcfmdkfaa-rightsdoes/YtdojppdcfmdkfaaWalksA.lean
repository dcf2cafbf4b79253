/- The contracts of package rights and of the document's rights, function by function. -/
import Derived.Test.YtdojppdcfmdkfaaRows
import Derived.Test.YtdojppdcfmdkfaaBits
import Derived.WalkKit
import Derived.ProofKit
import Derived.OpenShut
namespace Go.Proofs.Ytdojppdcfmdkfaa
open Go.ChangeShapes Go.WideShapes Go.ChangeAt Go.RowKit

theorem has_any (a b : Int) (h0 : -9223372036854775808 ≤ b) (h1 : b ≤ 9223372036854775807) (w : World) :
    Calls Try.prog 11 #[.int .i64 a, .int .i64 b] w fun e w' => e = .returned (.bool (hasB a b)) ∧ w' = w := by
  have hE := hid (hasB_eq a b h0 h1)
  go_enter Try.func11, Try.ntmps11
  go_wp2
  go_ret
  exact ⟨by rw [← hE.out]; rfl, rfl⟩
theorem meet_any (a b : Int) (w : World) :
    Calls Try.prog 12 #[.int .i64 a, .int .i64 b] w fun e w' => e = .returned (.int .i64 (meetI a b)) ∧ w' = w := by
  have hE := hid (bits_and64 a b)
  go_enter Try.func12, Try.ntmps12
  go_wp2
  go_ret
  exact ⟨by unfold meetI; rw [← hE.out]; rfl, rfl⟩
theorem bit_any (a : Int) (k : Nat) (hk : k < 64) (h0 : -9223372036854775808 ≤ a) (h1 : a ≤ 9223372036854775807) (w : World) :
    Calls Try.prog 7 #[.int .i64 a, .int .i64 k] w fun e w' => e = .returned (.bool (bitB a k)) ∧ w' = w := by
  have hE := hid (bit_eq a k hk h0 h1)
  go_enter Try.func7, Try.ntmps7
  go_wp2
  go_ret
  exact ⟨by rw [← hE.out]; simp, rfl⟩
def checkB (a : Int) : Bool := decide (0 ≤ a ∧ a ≤ 15)
theorem check_any (a : Int) (w : World) :
    Calls Try.prog 10 #[.int .i64 a] w fun e w' => e = .returned (.bool (checkB a)) ∧ w' = w := by
  unfold checkB
  by_cases h0 : 0 ≤ a
  · by_cases h1 : a ≤ 15
    · go_enter Try.func10, Try.ntmps10
      go_wp2
      go_ret
      exact ⟨by simp [*], rfl⟩
    · go_enter Try.func10, Try.ntmps10
      go_wp2
      go_ret
      exact ⟨by simp [*], rfl⟩
  · have hd : decide (0 ≤ a) = false := by simpa using h0
    go_enter Try.func10, Try.ntmps10
    go_wp2
    go_ret
    exact ⟨by simp [*], rfl⟩
theorem str_eq {l l' : List UInt8} (h : l = l') : Value.string ⟨l.toArray⟩ = Value.string ⟨l'.toArray⟩ := by rw [h]
theorem ext_letter (l : List UInt8) (k : Nat) (hk : k < 4) : (ByteArray.mk l.toArray ++ (ByteArray.mk #[114, 119, 112, 97]).extract k (k + 1)) = ByteArray.mk (l ++ [letter k]).toArray := by
  have e : (ByteArray.mk #[114, 119, 112, 97]).extract k (k + 1) = ByteArray.mk #[letter k] := by
    obtain rfl | rfl | rfl | rfl : k = 0 ∨ k = 1 ∨ k = 2 ∨ k = 3 := by omega
    all_goals decide
  rw [e]
  apply ByteArray.ext
  simp
theorem letters_yes {a : Int} {k : Nat} (h : bitB a k = true) : lettersTo a (k + 1) = lettersTo a k ++ [letter k] := by simp [lettersTo, h]
theorem letters_no {a : Int} {k : Nat} (h : bitB a k = false) : lettersTo a (k + 1) = lettersTo a k := by simp [lettersTo, h]
theorem letters_len (a : Int) : ∀ k, (lettersTo a k).length ≤ k
  | 0 => Nat.le_refl _
  | k + 1 => by
    have := letters_len a k
    simp only [lettersTo]
    split <;> simp <;> omega
set_option maxHeartbeats 400000 in
theorem text_any (a : Int) (w : World) :
    Calls Try.prog 13 #[.int .i64 a] w fun e w' => e = .returned (.string ⟨(textOf a).toArray⟩) ∧ w' = w := by
  go_enter Try.func13, Try.ntmps13
  go_wp2
  go_loop [3, 5] (fun s i => ∃ k : Nat, k ≤ 4 ∧ i = .int .i64 k ∧ s = .string ⟨(lettersTo a k).toArray⟩) (fun _ i => 4 - (intOf i).toNat)
  case atStart => exact ⟨0, Nat.zero_le _, rfl, rfl⟩
  case round =>
    obtain ⟨k, hk, rfl, rfl⟩ := hrel
    by_cases hlt : k < 4
    · have hp := has_pow a k (by omega)
      have hl := letters_len a k
      obtain rfl | rfl | rfl | rfl : k = 0 ∨ k = 1 ∨ k = 2 ∨ k = 3 := by omega
      · simp only [Int.reducePow] at hp
        cases hb : bitB a 0 <;> rw [hb] at hp <;> have HB := hid hb <;> clear hb
        all_goals
          go_wp2_with (go_at_call 11; refine (has_any _ _ (by omega) (by omega) _).mono ?_; rintro e w' ⟨rfl, rfl⟩)
          go_round
          case rel => exact ⟨1, by omega, rfl, by first | rw [letters_no HB.out] | (rw [letters_yes HB.out, ← ext_letter _ 0 (by omega)])⟩
          case measure => simp [intOf]
      · simp only [Int.reducePow] at hp
        cases hb : bitB a 1 <;> rw [hb] at hp <;> have HB := hid hb <;> clear hb
        all_goals
          go_wp2_with (go_at_call 11; refine (has_any _ _ (by omega) (by omega) _).mono ?_; rintro e w' ⟨rfl, rfl⟩)
          go_round
          case rel => exact ⟨2, by omega, rfl, by first | rw [letters_no HB.out] | (rw [letters_yes HB.out, ← ext_letter _ 1 (by omega)])⟩
          case measure => simp [intOf]
      · simp only [Int.reducePow] at hp
        cases hb : bitB a 2 <;> rw [hb] at hp <;> have HB := hid hb <;> clear hb
        all_goals
          go_wp2_with (go_at_call 11; refine (has_any _ _ (by omega) (by omega) _).mono ?_; rintro e w' ⟨rfl, rfl⟩)
          go_round
          case rel => exact ⟨3, by omega, rfl, by first | rw [letters_no HB.out] | (rw [letters_yes HB.out, ← ext_letter _ 2 (by omega)])⟩
          case measure => simp [intOf]
      · simp only [Int.reducePow] at hp
        cases hb : bitB a 3 <;> rw [hb] at hp <;> have HB := hid hb <;> clear hb
        all_goals
          go_wp2_with (go_at_call 11; refine (has_any _ _ (by omega) (by omega) _).mono ?_; rintro e w' ⟨rfl, rfl⟩)
          go_round
          case rel => exact ⟨4, by omega, rfl, by first | rw [letters_no HB.out] | (rw [letters_yes HB.out, ← ext_letter _ 3 (by omega)])⟩
          case measure => simp [intOf]
    · obtain rfl : k = 4 := by omega
      by_cases he : lettersTo a 4 = []
      · have ht := hid (show textOf a = [45] by simp [textOf, he])
        go_wp2
        go_ret
        exact ⟨by rw [ht.out]; rfl, rfl⟩
      · have ht := hid (show textOf a = lettersTo a 4 by simp [textOf, he])
        have hn : (lettersTo a 4).isEmpty = false := by simp [he]
        go_wp2
        go_ret
        exact ⟨by rw [ht.out]; rfl, rfl⟩
theorem app_letter (l : List UInt8) (k : Nat) : (ByteArray.mk l.toArray ++ ByteArray.mk #[letter k]) = ByteArray.mk (l ++ [letter k]).toArray := by
  apply ByteArray.ext
  simp
set_option maxHeartbeats 400000 in
theorem rtext_any (a : Int) (h0 : -9223372036854775808 ≤ a) (h1 : a ≤ 9223372036854775807) (w : World) :
    Calls Try.prog 14 #[.int .i64 a] w fun e w' => e = .returned (.string ⟨(textOf a).toArray⟩) ∧ Grown w w' := by
  go_enter Try.func14, Try.ntmps14
  go_wp2
  go_loopw [3, 4] (fun s i w' => Grown w w' ∧ ∃ k : Nat, k ≤ 4 ∧ i = .int .i64 k ∧ s = .string ⟨(lettersTo a k).toArray⟩) (fun _ i _ => 4 - (intOf i).toNat)
  case atStart => exact ⟨Grown.refl _, 0, Nat.zero_le _, rfl, rfl⟩
  case round =>
    obtain ⟨hg, k, hk, rfl, rfl⟩ := hrel
    by_cases hlt : k < 4
    · have hl := letters_len a k
      obtain rfl | rfl | rfl | rfl : k = 0 ∨ k = 1 ∨ k = 2 ∨ k = 3 := by omega
      · cases hb : bitB a 0 <;> have HB := hid hb
        all_goals
          go_wp2_with (go_at_call 7; refine (bit_any _ 0 (by omega) (by omega) (by omega) _).mono ?_; rintro e w' ⟨rfl, rfl⟩)
          exact ⟨⟨by first | exact hg | exact hg.alloc _ _, 1, by omega, rfl, by first | rw [letters_no HB.out] | (rw [letters_yes HB.out, ← app_letter _ 0]; rfl)⟩, by simp [intOf]⟩
      · cases hb : bitB a 1 <;> have HB := hid hb
        all_goals
          go_wp2_with (go_at_call 7; refine (bit_any _ 1 (by omega) (by omega) (by omega) _).mono ?_; rintro e w' ⟨rfl, rfl⟩)
          exact ⟨⟨by first | exact hg | exact hg.alloc _ _, 2, by omega, rfl, by first | rw [letters_no HB.out] | (rw [letters_yes HB.out, ← app_letter _ 1]; rfl)⟩, by simp [intOf]⟩
      · cases hb : bitB a 2 <;> have HB := hid hb
        all_goals
          go_wp2_with (go_at_call 7; refine (bit_any _ 2 (by omega) (by omega) (by omega) _).mono ?_; rintro e w' ⟨rfl, rfl⟩)
          exact ⟨⟨by first | exact hg | exact hg.alloc _ _, 3, by omega, rfl, by first | rw [letters_no HB.out] | (rw [letters_yes HB.out, ← app_letter _ 2]; rfl)⟩, by simp [intOf]⟩
      · cases hb : bitB a 3 <;> have HB := hid hb
        all_goals
          go_wp2_with (go_at_call 7; refine (bit_any _ 3 (by omega) (by omega) (by omega) _).mono ?_; rintro e w' ⟨rfl, rfl⟩)
          exact ⟨⟨by first | exact hg | exact hg.alloc _ _, 4, by omega, rfl, by first | rw [letters_no HB.out] | (rw [letters_yes HB.out, ← app_letter _ 3]; rfl)⟩, by simp [intOf]⟩
    · obtain rfl : k = 4 := by omega
      by_cases he : lettersTo a 4 = []
      · have ht := hid (show textOf a = [45] by simp [textOf, he])
        go_wp2
        go_ret
        exact ⟨by rw [ht.out]; rfl, hg⟩
      · have ht := hid (show textOf a = lettersTo a 4 by simp [textOf, he])
        have hn : (lettersTo a 4).isEmpty = false := by simp [he]
        go_wp2
        go_ret
        exact ⟨by rw [ht.out]; rfl, hg⟩
theorem run17 (s : ByteArray) (c : Int) (w : World) : (callFunc 17 #[.string s, .int .u8 c]).run Try.prog w = .ok (.value (.int .i64 (firstIdx s c.toNat.toUInt8))) w := by
  rw [run_callFunc_extern Try.func17 (by kernel_rfl) (by kernel_rfl) (by kernel_rfl) (e := Extern.BytealgIndexByte.indexByte) (by kernel_rfl), run_indexByte_string]; rfl
set_option maxHeartbeats 400000 in
theorem ib_any (c : UInt8) (w : World) :
    Calls Try.prog 15 #[.string ⟨#[114, 119, 112, 97]⟩, .int .u8 c.toNat] w fun e w' => e = .returned (.int .i64 (placeI c)) ∧ w' = w := by
  have hp := hid (first_place c)
  have h17 := run17
  go_enter Try.func15, Try.ntmps15
  go_wp2
  go_ret
  exact ⟨by rw [← hp.out]; simp, rfl⟩
set_option maxHeartbeats 400000 in
theorem parse_any (l : List UInt8) (hs : l.length ≤ maxLen) (w : World) :
    Calls Try.prog 8 #[.string ⟨l.toArray⟩] w fun e w' => e = .returned (.tuple #[.int .i64 (parseOf l).1, .bool (parseOf l).2]) ∧ w' = w := by
  unfold maxLen at hs
  by_cases hd : l = [45]
  · subst hd
    go_enter Try.func8, Try.ntmps8
    go_wp2
    go_ret2
    exact ⟨rfl, rfl⟩
  · have hP := hid (show parseOf l = parseFrom 0 l by
      unfold parseOf
      rw [if_neg hd])
    have hb : (l == [45]) = false := by simpa using hd
    clear hd
    go_enter Try.func8, Try.ntmps8
    go_wp2
    go_loop [4, 11] (fun r i => ∃ k x : Nat, k ≤ l.length ∧ x < 16 ∧ i = .int .i64 k ∧ r = .int .i64 x ∧ Hid (parseOf l = parseFrom x (l.drop k))) (fun _ i => l.length - (intOf i).toNat)
    case atStart => exact ⟨0, 0, Nat.zero_le _, by omega, rfl, rfl, hP⟩
    case round =>
      obtain ⟨k, x, hk, hx, rfl, rfl, hR⟩ := hrel
      clear hP
      by_cases hlt : k < l.length
      · have hsz : k < (ByteArray.mk l.toArray).size := by simpa [ByteArray.size] using hlt
        have hDr : Hid (l.drop k = (ByteArray.mk l.toArray)[k] :: l.drop (k + 1)) := List.drop_eq_getElem_cons hlt
        have hpl := place_le (ByteArray.mk l.toArray)[k]
        have h5 : place (ByteArray.mk l.toArray)[k] = 0 ∨ place (ByteArray.mk l.toArray)[k] = 1 ∨ place (ByteArray.mk l.toArray)[k] = 2 ∨ place (ByteArray.mk l.toArray)[k] = 3 ∨ place (ByteArray.mk l.toArray)[k] = 4 := by omega
        clear hpl
        rcases h5 with h | h | h | h | h
        · have hI : placeI (ByteArray.mk l.toArray)[k] = 0 := by simp [placeI, h]
          by_cases hle : 1 ≤ x
          · have hT := hid (parse_stop x (ByteArray.mk l.toArray)[k] (l.drop (k + 1)) (by rw [h]; omega))
            clear h
            go_wp2_with (go_at_call 15; refine (ib_any _ _).mono ?_; rintro e w' ⟨rfl, rfl⟩)
            go_ret2
            exact ⟨by rw [hR.out, hDr.out, hT.out]; rfl, rfl⟩
          · have hT := parse_go x (ByteArray.mk l.toArray)[k] (l.drop (k + 1)) (by omega) (by rw [h]; omega)
            rw [h] at hT
            simp only [Nat.reducePow] at hT
            have HT := hid hT
            clear h hT
            go_wp2_with (go_at_call 15; refine (ib_any _ _).mono ?_; rintro e w' ⟨rfl, rfl⟩)
            exact ⟨⟨k + 1, x ||| 1, by omega, or_lt x 1 hx (by omega), by go_num, by rw [← or_small x 1 hx (by omega)]; rfl, hid (by rw [hR.out, hDr.out, HT.out])⟩, by simp [intOf]; omega⟩
        · have hI : placeI (ByteArray.mk l.toArray)[k] = 1 := by simp [placeI, h]
          by_cases hle : 2 ≤ x
          · have hT := hid (parse_stop x (ByteArray.mk l.toArray)[k] (l.drop (k + 1)) (by rw [h]; omega))
            clear h
            go_wp2_with (go_at_call 15; refine (ib_any _ _).mono ?_; rintro e w' ⟨rfl, rfl⟩)
            go_ret2
            exact ⟨by rw [hR.out, hDr.out, hT.out]; rfl, rfl⟩
          · have hT := parse_go x (ByteArray.mk l.toArray)[k] (l.drop (k + 1)) (by omega) (by rw [h]; omega)
            rw [h] at hT
            simp only [Nat.reducePow] at hT
            have HT := hid hT
            clear h hT
            go_wp2_with (go_at_call 15; refine (ib_any _ _).mono ?_; rintro e w' ⟨rfl, rfl⟩)
            exact ⟨⟨k + 1, x ||| 2, by omega, or_lt x 2 hx (by omega), by go_num, by rw [← or_small x 2 hx (by omega)]; rfl, hid (by rw [hR.out, hDr.out, HT.out])⟩, by simp [intOf]; omega⟩
        · have hI : placeI (ByteArray.mk l.toArray)[k] = 2 := by simp [placeI, h]
          by_cases hle : 4 ≤ x
          · have hT := hid (parse_stop x (ByteArray.mk l.toArray)[k] (l.drop (k + 1)) (by rw [h]; omega))
            clear h
            go_wp2_with (go_at_call 15; refine (ib_any _ _).mono ?_; rintro e w' ⟨rfl, rfl⟩)
            go_ret2
            exact ⟨by rw [hR.out, hDr.out, hT.out]; rfl, rfl⟩
          · have hT := parse_go x (ByteArray.mk l.toArray)[k] (l.drop (k + 1)) (by omega) (by rw [h]; omega)
            rw [h] at hT
            simp only [Nat.reducePow] at hT
            have HT := hid hT
            clear h hT
            go_wp2_with (go_at_call 15; refine (ib_any _ _).mono ?_; rintro e w' ⟨rfl, rfl⟩)
            exact ⟨⟨k + 1, x ||| 4, by omega, or_lt x 4 hx (by omega), by go_num, by rw [← or_small x 4 hx (by omega)]; rfl, hid (by rw [hR.out, hDr.out, HT.out])⟩, by simp [intOf]; omega⟩
        · have hI : placeI (ByteArray.mk l.toArray)[k] = 3 := by simp [placeI, h]
          by_cases hle : 8 ≤ x
          · have hT := hid (parse_stop x (ByteArray.mk l.toArray)[k] (l.drop (k + 1)) (by rw [h]; omega))
            clear h
            go_wp2_with (go_at_call 15; refine (ib_any _ _).mono ?_; rintro e w' ⟨rfl, rfl⟩)
            go_ret2
            exact ⟨by rw [hR.out, hDr.out, hT.out]; rfl, rfl⟩
          · have hT := parse_go x (ByteArray.mk l.toArray)[k] (l.drop (k + 1)) (by omega) (by rw [h]; omega)
            rw [h] at hT
            simp only [Nat.reducePow] at hT
            have HT := hid hT
            clear h hT
            go_wp2_with (go_at_call 15; refine (ib_any _ _).mono ?_; rintro e w' ⟨rfl, rfl⟩)
            exact ⟨⟨k + 1, x ||| 8, by omega, or_lt x 8 hx (by omega), by go_num, by rw [← or_small x 8 hx (by omega)]; rfl, hid (by rw [hR.out, hDr.out, HT.out])⟩, by simp [intOf]; omega⟩
        · have hI : placeI (ByteArray.mk l.toArray)[k] = -1 := by simp [placeI, h]
          have hT := hid (parse_stop x (ByteArray.mk l.toArray)[k] (l.drop (k + 1)) (.inl h))
          clear h
          go_wp2_with (go_at_call 15; refine (ib_any _ _).mono ?_; rintro e w' ⟨rfl, rfl⟩)
          go_ret2
          exact ⟨by rw [hR.out, hDr.out, hT.out]; rfl, rfl⟩
      · have hn := hid (show l.drop k = [] from List.drop_of_length_le (by omega))
        have hx0 := hid (show ((x : Int) != 0) = (x != 0) by rw [Bool.eq_iff_iff]; simp only [bne_iff_ne]; omega)
        go_wp2
        go_ret2
        refine ⟨?_, rfl⟩
        rw [hR.out, hn.out, parse_nil]
        show Ending.returned (Value.tuple #[Value.int .i64 x, Value.bool ((x : Int) != 0)]) = _
        rw [hx0.out]
end Go.Proofs.Ytdojppdcfmdkfaa
