import Derived.WalkKit
import Derived.ProofKit
import Derived.OpenShut
namespace Go.Proofs.Ytdojppdcfmdkfaa
open Go.ChangeShapes Go.WideShapes Go.ChangeAt Go.RowKit

theorem hid {p : Prop} (h : p) : Hid p := h
abbrev B64 (a : Int) : BitVec 64 := BitVec.ofInt 64 a

theorem wrap_bv (v : BitVec 64) : IntKind.i64.wrap (v.toNat : Int) = v.toInt := by
  have h := v.isLt
  have e : ((v.toNat : Int) % 2 ^ 64) = v.toNat := by omega
  simp only [IntKind.wrap, IntKind.bits, IntKind.signed, BitVec.toInt, e]
  by_cases hc : 2 * v.toNat < 2 ^ 64
  · rw [if_neg (by simp; omega), if_pos hc]
  · rw [if_pos (by simp; omega), if_neg hc]; rfl

theorem bits_and64 (a b : Int) : bits .and .i64 a b = (B64 a &&& B64 b).toInt := wrap_bv _
theorem bits_or64 (a b : Int) : bits .or .i64 a b = (B64 a ||| B64 b).toInt := wrap_bv _

theorem b64_toInt (v : BitVec 64) : B64 v.toInt = v := by simp [B64]
theorem toInt_b64 (a : Int) (h0 : -9223372036854775808 ≤ a) (h1 : a ≤ 9223372036854775807) : (B64 a).toInt = a := by
  simp only [B64, BitVec.toInt_ofInt]
  exact Int.bmod_eq_of_le (by omega) (by omega)

def meetI (a b : Int) : Int := (B64 a &&& B64 b).toInt
def hasB (a b : Int) : Bool := B64 a &&& B64 b == B64 b

theorem meet_bv (a b : Int) : B64 (meetI a b) = B64 a &&& B64 b := b64_toInt _
theorem hasB_eq (a b : Int) (h0 : -9223372036854775808 ≤ b) (h1 : b ≤ 9223372036854775807) : (bits .and .i64 a b == b) = hasB a b := by
  rw [bits_and64, hasB, Bool.eq_iff_iff]
  simp only [beq_iff_eq]
  constructor
  · intro h
    have := congrArg B64 h
    rwa [b64_toInt] at this
  · intro h
    rw [h, toInt_b64 b h0 h1]
theorem meet_rng (a b : Int) : -9223372036854775808 ≤ meetI a b ∧ meetI a b ≤ 9223372036854775807 := by
  have h1 := BitVec.le_toInt (B64 a &&& B64 b)
  have h2 := BitVec.toInt_lt (x := B64 a &&& B64 b)
  unfold meetI; omega
theorem has_meet_l (a b : Int) : hasB a (meetI a b) = true := by
  simp only [hasB, meet_bv, beq_iff_eq, ← BitVec.and_assoc, BitVec.and_self]
theorem has_meet_r (a b : Int) : hasB b (meetI a b) = true := by
  simp only [hasB, meet_bv, beq_iff_eq]
  rw [BitVec.and_comm (B64 a), ← BitVec.and_assoc, BitVec.and_self]
theorem has_of_meet (a b c : Int) : hasB (meetI a b) c = (hasB a c && hasB b c) := by
  rw [Bool.eq_iff_iff, Bool.and_eq_true]
  simp only [hasB, meet_bv, beq_iff_eq]
  generalize B64 a = x; generalize B64 b = y; generalize B64 c = z
  constructor
  · intro h
    constructor
    · rw [← h, BitVec.and_assoc, ← BitVec.and_assoc x, BitVec.and_self] 
    · rw [← h, BitVec.and_comm x, BitVec.and_assoc, ← BitVec.and_assoc y, BitVec.and_self]
  · rintro ⟨h1, h2⟩
    rw [BitVec.and_assoc, h2, h1]
theorem meet_comm (a b : Int) : meetI a b = meetI b a := by unfold meetI; rw [BitVec.and_comm]
theorem meet_assoc (a b c : Int) : meetI (meetI a b) c = meetI a (meetI b c) := by
  show (B64 (meetI a b) &&& B64 c).toInt = (B64 a &&& B64 (meetI b c)).toInt
  rw [meet_bv, meet_bv, BitVec.and_assoc]
theorem meet_self (a : Int) (h0 : -9223372036854775808 ≤ a) (h1 : a ≤ 9223372036854775807) : meetI a a = a := by
  unfold meetI; rw [BitVec.and_self, toInt_b64 a h0 h1]

def bitB (a : Int) (k : Nat) : Bool := (B64 a).getLsbD k

theorem b64_shr (a : Int) (k : Nat) (h0 : -9223372036854775808 ≤ a) (h1 : a ≤ 9223372036854775807) : B64 (a / 2 ^ k) = (B64 a).sshiftRight k := by
  have h : ((B64 a).sshiftRight k).toInt = a / 2 ^ k := by
    rw [BitVec.toInt_sshiftRight, toInt_b64 a h0 h1, Int.shiftRight_eq_div_pow]; simp
  rw [← h, b64_toInt]

theorem bit_eq (a : Int) (k : Nat) (hk : k < 64) (h0 : -9223372036854775808 ≤ a) (h1 : a ≤ 9223372036854775807) : (bits .and .i64 (a / 2 ^ k) 1 == 1) = bitB a k := by
  rw [bits_and64, b64_shr a k h0 h1]
  have e1 : B64 1 = BitVec.twoPow 64 0 := by decide
  rw [e1, BitVec.and_twoPow]
  have e2 : ((B64 a).sshiftRight k).getLsbD 0 = bitB a k := by
    rw [BitVec.getLsbD_sshiftRight]; simp [bitB, hk]
  rw [e2]
  cases bitB a k <;> decide

theorem has_pow (a : Int) (k : Nat) (hk : k < 63) : hasB a (2 ^ k) = bitB a k := by
  have e1 : B64 (2 ^ k) = BitVec.twoPow 64 k := by
    apply BitVec.eq_of_toNat_eq
    simp only [B64, BitVec.toNat_ofInt, BitVec.toNat_twoPow]
    have : (2 ^ k : Int) = ((2 ^ k : Nat) : Int) := by simp
    rw [this]; omega
  rw [hasB, e1, BitVec.and_twoPow]
  unfold bitB
  cases h : (B64 a).getLsbD k
  · have : BitVec.twoPow 64 k ≠ 0#64 := by
      intro hh
      have := congrArg (fun v => BitVec.getLsbD v k) hh
      simp [BitVec.getLsbD_twoPow] at this
      omega
    simp [Ne.symm this]
  · simp

def letter (k : Nat) : UInt8 := if k = 0 then 114 else if k = 1 then 119 else if k = 2 then 112 else 97
def lettersTo (a : Int) : Nat → List UInt8
  | 0 => []
  | k + 1 => lettersTo a k ++ if bitB a k then [letter k] else []
def textOf (a : Int) : List UInt8 := if lettersTo a 4 = [] then [45] else lettersTo a 4

def place (c : UInt8) : Nat := if c = 114 then 0 else if c = 119 then 1 else if c = 112 then 2 else if c = 97 then 3 else 4
theorem place_le (c : UInt8) : place c ≤ 4 := by
  unfold place
  repeat' split
  all_goals omega
def placeI (c : UInt8) : Int := if place c = 4 then -1 else place c
theorem first_place (c : UInt8) : firstIdx ⟨#[114, 119, 112, 97]⟩ c = placeI c := by
  have h : ∀ n : Fin 256, firstIdx ⟨#[114, 119, 112, 97]⟩ (UInt8.ofNat n.val) = placeI (UInt8.ofNat n.val) := by decide +kernel
  have h2 := h ⟨c.toNat, c.toNat_lt⟩
  simpa using h2
theorem or_small (r m : Nat) (hr : r < 16) (hm : m < 16) : bits .or .i64 (r : Int) (m : Int) = ((r ||| m : Nat) : Int) := by
  have h : ∀ r : Fin 16, ∀ m : Fin 16, bits .or .i64 (r.val : Int) (m.val : Int) = ((r.val ||| m.val : Nat) : Int) := by decide +kernel
  exact h ⟨r, hr⟩ ⟨m, hm⟩
theorem or_lt (r m : Nat) (hr : r < 16) (hm : m < 16) : r ||| m < 16 := Nat.or_lt_two_pow (n := 4) hr hm
def parseFrom : Nat → List UInt8 → Nat × Bool
  | r, [] => (r, r != 0)
  | r, c :: l => if place c = 4 ∨ 2 ^ place c ≤ r then (0, false) else parseFrom (r ||| 2 ^ place c) l
def parseOf (l : List UInt8) : Nat × Bool := if l = [45] then (0, true) else parseFrom 0 l
theorem parse_stop (r : Nat) (c : UInt8) (l : List UInt8) (h : place c = 4 ∨ 2 ^ place c ≤ r) : parseFrom r (c :: l) = (0, false) := by simp [parseFrom, h]
theorem parse_go (r : Nat) (c : UInt8) (l : List UInt8) (h1 : place c ≠ 4) (h2 : r < 2 ^ place c) : parseFrom r (c :: l) = parseFrom (r ||| 2 ^ place c) l := by
  have : ¬ (place c = 4 ∨ 2 ^ place c ≤ r) := by omega
  simp [parseFrom, this]
theorem parse_nil (r : Nat) : parseFrom r [] = (r, r != 0) := rfl

theorem text_parse (r : Nat) (h : r < 16) : parseOf (textOf r) = (r, true) := by
  have h2 : ∀ r : Fin 16, parseOf (textOf (r.val : Int)) = (r.val, true) := by decide +kernel
  exact h2 ⟨r, h⟩
theorem letters_or (r : Nat) (hr : r < 16) (c : UInt8) (h1 : place c ≠ 4) (h2 : r < 2 ^ place c) :
    lettersTo ((r ||| 2 ^ place c : Nat) : Int) 4 = lettersTo (r : Int) 4 ++ [c] ∧ r ||| 2 ^ place c < 16 := by
  have h : ∀ r : Fin 16, ∀ n : Fin 256, place (UInt8.ofNat n.val) ≠ 4 → r.val < 2 ^ place (UInt8.ofNat n.val) →
      lettersTo ((r.val ||| 2 ^ place (UInt8.ofNat n.val) : Nat) : Int) 4 = lettersTo (r.val : Int) 4 ++ [UInt8.ofNat n.val] ∧ r.val ||| 2 ^ place (UInt8.ofNat n.val) < 16 := by decide +kernel
  have h3 := h ⟨r, hr⟩ ⟨c.toNat, c.toNat_lt⟩
  simp only [UInt8.ofNat_toNat] at h3
  exact h3 h1 h2
theorem from_facts : ∀ (l : List UInt8) (r : Nat), r < 16 → ((parseFrom r l).2 = true → lettersTo ((parseFrom r l).1 : Int) 4 = lettersTo (r : Int) 4 ++ l ∧ (parseFrom r l).1 < 16 ∧ (parseFrom r l).1 ≠ 0) ∧ ((parseFrom r l).2 = false → (parseFrom r l).1 = 0)
  | [], r, h => by
    rw [parse_nil]
    refine ⟨fun h1 => ⟨by simp, h, by simpa using h1⟩, fun h1 => by simpa using h1⟩
  | c :: l, r, h => by
    by_cases hc : place c = 4 ∨ 2 ^ place c ≤ r
    · rw [parse_stop r c l hc]; simp
    · have hc1 : place c ≠ 4 := by omega
      have hc2 : r < 2 ^ place c := by omega
      rw [parse_go r c l hc1 hc2]
      obtain ⟨ho, hl⟩ := letters_or r h c hc1 hc2
      obtain ⟨i1, i2⟩ := from_facts l _ hl
      refine ⟨fun ht => ?_, i2⟩
      obtain ⟨j1, j2, j3⟩ := i1 ht
      refine ⟨?_, j2, j3⟩
      rw [j1, ho]; simp
theorem letters_ne (r : Nat) (h : r < 16) (h0 : r ≠ 0) : lettersTo (r : Int) 4 ≠ [] := by
  have h2 : ∀ r : Fin 16, r.val ≠ 0 → lettersTo (r.val : Int) 4 ≠ [] := by decide +kernel
  exact h2 ⟨r, h⟩ h0
theorem parse_yes (l : List UInt8) (h : (parseOf l).2 = true) : (parseOf l).1 < 16 ∧ textOf ((parseOf l).1 : Int) = l := by
  unfold parseOf at *
  by_cases hd : l = [45]
  · subst hd; exact ⟨by decide, by decide +kernel⟩
  · simp only [if_neg hd] at h ⊢
    obtain ⟨h1, h2, h3⟩ := (from_facts l 0 (by omega)).1 h
    refine ⟨h2, ?_⟩
    unfold textOf
    rw [if_neg (letters_ne _ h2 h3), h1]
    have : lettersTo ((0 : Nat) : Int) 4 = [] := by decide +kernel
    rw [this]; rfl
theorem parse_no (l : List UInt8) (h : (parseOf l).2 = false) : (parseOf l).1 = 0 := by
  unfold parseOf at *
  by_cases hd : l = [45]
  · simp only [if_pos hd]
  · simp only [if_neg hd] at h ⊢
    exact (from_facts l 0 (by omega)).2 h
theorem parse_none (l : List UInt8) (h : ∀ r, r < 16 → textOf ((r : Nat) : Int) ≠ l) : parseOf l = (0, false) := by
  cases hb : (parseOf l).2
  · have := parse_no l hb
    exact Prod.ext this hb
  · exact absurd (parse_yes l hb).2 (h _ (parse_yes l hb).1)
theorem parse_rng (l : List UInt8) : (parseOf l).1 < 16 := by
  cases hb : (parseOf l).2
  · rw [parse_no l hb]; omega
  · exact (parse_yes l hb).1
theorem text_len (a : Int) : (textOf a).length ≤ 4 := by
  have h : ∀ k, (lettersTo a k).length ≤ k := by
    intro k
    induction k with
    | zero => exact Nat.le_refl _
    | succ k ih => simp only [lettersTo]; split <;> simp <;> omega
  unfold textOf
  split
  · simp
  · exact h 4
end Go.Proofs.Ytdojppdcfmdkfaa
