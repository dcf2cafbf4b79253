/- The plain arithmetic of the law RightsDoes. -/
import Derived.Test.YtdojppdcfmdkfaaBackWalk
namespace Go.Proofs.Ytdojppdcfmdkfaa
open Go.ChangeShapes Go.WideShapes Go.ChangeAt Go.RowKit

def hasTo (a b : Int) : Nat → Bool
  | 0 => true
  | k + 1 => if bitB b k && !bitB a k then false else hasTo a b k
def meetTo (a b : Int) : Nat → Nat
  | 0 => 0
  | k + 1 => if bitB a k && bitB b k then meetTo a b k ||| 2 ^ k else meetTo a b k
theorem meet_lt (a b : Int) : ∀ k, meetTo a b k < 2 ^ k
  | 0 => by simp [meetTo]
  | k + 1 => by
    have h := meet_lt a b k
    have h2 : (2 : Nat) ^ k < 2 ^ (k + 1) := Nat.pow_lt_pow_right (by omega) (by omega)
    unfold meetTo
    split
    · exact Nat.or_lt_two_pow (by omega) h2
    · omega
theorem has_bits (a b : Int) : ∀ k, hasTo a b k = true ↔ ∀ j, j < k → bitB b j = true → bitB a j = true
  | 0 => by simp [hasTo]
  | k + 1 => by
    have h := has_bits a b k
    unfold hasTo
    cases hb : bitB b k <;> cases ha : bitB a k
    · simp only [Bool.false_and, Bool.false_eq_true, if_false, h]
      refine ⟨fun hh j hj hj2 => ?_, fun hh j hj => hh j (by omega)⟩
      by_cases e : j = k
      · subst e; rw [hb] at hj2; cases hj2
      · exact hh j (by omega) hj2
    · simp only [Bool.false_and, Bool.false_eq_true, if_false, h]
      refine ⟨fun hh j hj hj2 => ?_, fun hh j hj => hh j (by omega)⟩
      by_cases e : j = k
      · subst e; exact ha
      · exact hh j (by omega) hj2
    · simp only [Bool.not_false, Bool.and_self, if_true, Bool.false_eq_true, false_iff]
      intro hh
      have := hh k (by omega) hb
      rw [ha] at this; cases this
    · simp only [Bool.not_true, Bool.and_false, Bool.false_eq_true, if_false, h]
      refine ⟨fun hh j hj hj2 => ?_, fun hh j hj => hh j (by omega)⟩
      by_cases e : j = k
      · subst e; exact ha
      · exact hh j (by omega) hj2
theorem meet_bits (a b : Int) (j : Nat) : ∀ k, (meetTo a b k).testBit j = (decide (j < k) && bitB a j && bitB b j)
  | 0 => by simp [meetTo]
  | k + 1 => by
    have h := meet_bits a b j k
    unfold meetTo
    by_cases e : j = k
    · subst e
      have hz : (meetTo a b j).testBit j = false := by rw [h]; simp
      cases ha : bitB a j <;> cases hb : bitB b j <;> simp [hz, Nat.testBit_or, Nat.testBit_two_pow_self]
    · have e2 : decide (j < k + 1) = decide (j < k) := by simp; omega
      rw [e2, ← h]
      split
      · rw [Nat.testBit_or, Nat.testBit_two_pow_of_ne (Ne.symm e)]; simp
      · rfl
theorem bit63 (a : Int) (h0 : -9223372036854775808 ≤ a) (h1 : a ≤ 9223372036854775807) : bitB a 63 = decide (a < 0) := by
  have h := BitVec.msb_eq_toInt (x := B64 a)
  rw [toInt_b64 a h0 h1] at h
  rw [← h]
  rfl
def hasEnd (a b : Int) : Bool := if decide (b < 0) && decide (0 ≤ a) then false else hasTo a b 63
theorem has_end (a b : Int) (ha : -9223372036854775808 ≤ a ∧ a ≤ 9223372036854775807) (hb : -9223372036854775808 ≤ b ∧ b ≤ 9223372036854775807) : hasEnd a b = hasB a b := by
  have h63a := bit63 a ha.1 ha.2
  have h63b := bit63 b hb.1 hb.2
  have hB : hasB a b = true ↔ ∀ j, j < 64 → bitB b j = true → bitB a j = true := by
    unfold hasB
    simp only [beq_iff_eq]
    constructor
    · intro h j hj hbj
      have := congrArg (fun v => BitVec.getLsbD v j) h
      simp only [BitVec.getLsbD_and] at this
      unfold bitB at *
      rw [hbj, Bool.and_true] at this
      exact this
    · intro h
      apply BitVec.eq_of_getLsbD_eq
      intro j hj
      have := h j hj
      unfold bitB at this
      simp only [BitVec.getLsbD_and]
      cases hb2 : (B64 b).getLsbD j
      · simp
      · simp [this hb2]
  rw [Bool.eq_iff_iff, hB]
  have hT := has_bits a b 63
  unfold hasEnd
  by_cases hc : b < 0 ∧ 0 ≤ a
  · have : (decide (b < 0) && decide (0 ≤ a)) = true := by simp [hc]
    rw [this]
    simp only [if_true, Bool.false_eq_true, false_iff]
    intro hh
    have := hh 63 (by omega) (by rw [h63b]; simp; omega)
    rw [h63a] at this
    simp at this
    omega
  · have : (decide (b < 0) && decide (0 ≤ a)) = false := by
      rw [Bool.eq_false_iff]; simp only [ne_eq, Bool.and_eq_true, decide_eq_true_eq]; exact hc
    rw [this]
    simp only [Bool.false_eq_true, if_false, hT]
    refine ⟨fun hh j hj hj2 => ?_, fun hh j hj => hh j (by omega)⟩
    by_cases e : j = 63
    · subst e
      rw [h63b] at hj2; rw [h63a]
      simp at hj2 ⊢; omega
    · exact hh j (by omega) hj2
def meetEnd (a b : Int) : Int := if decide (a < 0) && decide (b < 0) then bits .or .i64 (meetTo a b 63 : Int) (-9223372036854775808) else (meetTo a b 63 : Int)
theorem b64_nat (n j : Nat) (hj : j < 64) : (B64 (n : Int)).getLsbD j = n.testBit j := by
  have : B64 (n : Int) = BitVec.ofNat 64 n := by simp [B64]
  rw [this, BitVec.getLsbD_ofNat]; simp [hj]
theorem meet_end (a b : Int) (ha : -9223372036854775808 ≤ a ∧ a ≤ 9223372036854775807) (hb : -9223372036854775808 ≤ b ∧ b ≤ 9223372036854775807) : meetEnd a b = meetI a b := by
  have h63a := bit63 a ha.1 ha.2
  have h63b := bit63 b hb.1 hb.2
  have hl := meet_lt a b 63
  have key : B64 (meetEnd a b) = B64 a &&& B64 b := by
    apply BitVec.eq_of_getLsbD_eq
    intro j hj
    rw [BitVec.getLsbD_and]
    show _ = (bitB a j && bitB b j)
    unfold meetEnd
    by_cases hc : a < 0 ∧ b < 0
    · have : (decide (a < 0) && decide (b < 0)) = true := by simp [hc]
      rw [this, if_pos rfl, bits_or64, b64_toInt, BitVec.getLsbD_or, b64_nat _ _ hj, meet_bits]
      by_cases e : j = 63
      · subst e
        rw [h63a, h63b]
        have : (B64 (-9223372036854775808)).getLsbD 63 = true := by decide
        simp [this, hc]
      · have h2 : decide (j < 63) = true := by simp; omega
        have h3 : (B64 (-9223372036854775808)).getLsbD j = false := by
          have : ∀ j : Fin 63, (B64 (-9223372036854775808)).getLsbD j.val = false := by decide +kernel
          exact this ⟨j, by omega⟩
        rw [h2, h3]; simp
    · have : (decide (a < 0) && decide (b < 0)) = false := by
        rw [Bool.eq_false_iff]; simp only [ne_eq, Bool.and_eq_true, decide_eq_true_eq]; exact hc
      rw [this]
      simp only [Bool.false_eq_true, if_false]
      rw [b64_nat _ _ hj, meet_bits]
      by_cases e : j = 63
      · subst e
        rw [h63a, h63b, this]
        simp
      · have h2 : decide (j < 63) = true := by simp; omega
        rw [h2]; simp
  have hr : -9223372036854775808 ≤ meetEnd a b ∧ meetEnd a b ≤ 9223372036854775807 := by
    unfold meetEnd
    split
    · rw [bits_or64]
      have h1 := BitVec.le_toInt (B64 (meetTo a b 63 : Int) ||| B64 (-9223372036854775808))
      have h2 := BitVec.toInt_lt (x := B64 (meetTo a b 63 : Int) ||| B64 (-9223372036854775808))
      omega
    · omega
  rw [← toInt_b64 _ hr.1 hr.2, key]; rfl
theorem or_pow (m k : Nat) (hk : k < 63) (hm : m < 2 ^ k) : bits .or .i64 (m : Int) ((2 ^ k : Nat) : Int) = ((m ||| 2 ^ k : Nat) : Int) := by
  have h2 : (2 : Nat) ^ k < 2 ^ 63 := Nat.pow_lt_pow_right (by omega) hk
  have h3 : m ||| 2 ^ k < 2 ^ 63 := Nat.or_lt_two_pow (by omega) h2
  rw [bits_or64]
  have e : B64 (m : Int) ||| B64 ((2 ^ k : Nat) : Int) = B64 ((m ||| 2 ^ k : Nat) : Int) := by
    apply BitVec.eq_of_getLsbD_eq
    intro j hj
    rw [BitVec.getLsbD_or, b64_nat _ _ hj, b64_nat _ _ hj, b64_nat _ _ hj, Nat.testBit_or]
  rw [e, toInt_b64 _ (by omega) (by omega)]
end Go.Proofs.Ytdojppdcfmdkfaa
