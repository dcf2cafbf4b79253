/- One value, in plain mathematics: what the questions tell of it. -/
import Derived.Test.YtekkecnhnaejlabDoorTree
namespace Go.Proofs.YtekkecnhnaejlabDoor
def b1 : V := ⟨4, 7, []⟩
def b2 : V := ⟨3, 2, [b1]⟩
def b3 : V := ⟨5, 1, []⟩
def b0 : V := ⟨2, 0, [b2, b3]⟩
def bN : V := ⟨0, 1, []⟩
theorem b0_size : b0.size = 4 := by simp [b0, b1, b2, b3, size_mk, sizes_cons, sizes_nil]
theorem b0_pre : b0.pre = [b0, b2, b1, b3] := by simp [b0, b1, b2, b3, pre_mk, pres_cons, pres_nil]
theorem b0_check : b0.check = 0 := by
  unfold V.check
  rw [b0_size, if_neg (by decide), V.fault, b0_pre]
  simp [first, V.fault1, partsB, b0, b1, b2, b3]
theorem b0_caps : b0.caps = [7] := by rw [V.caps, b0_pre]; simp [capsIn, b0, b1, b2, b3]
theorem b0_gate : b0.gate = true := by rw [V.gate, b0_pre]; simp [gateIn, b0, b1, b2, b3]
theorem itoa_digit (n : Nat) (h : n < 10) : Lib.itoa (n : Int) = [UInt8.ofNat (48 + n)] := by
  rw [Lib.itoa_nonneg, Lib.decDigits, dif_pos h]
theorem text_int (n : Int) (l : List V) : (V.mk 1 n l).text = Lib.itoa n := by rw [text_eq]; simp
theorem text_pair (n : Int) (l : List V) : (V.mk 2 n l).text = 40 :: (texts l ++ [41]) := by rw [text_eq]; simp
theorem text_seal (n : Int) (l : List V) : (V.mk 3 n l).text = 91 :: (Lib.itoa n ++ 32 :: (texts l ++ [93])) := by rw [text_eq]; simp
theorem text_cap (n : Int) (l : List V) : (V.mk 4 n l).text = 35 :: Lib.itoa n := by rw [text_eq]; simp
theorem text_gate (n : Int) (l : List V) : (V.mk 5 n l).text = 33 :: Lib.itoa n := by rw [text_eq]; simp
theorem text_nil (n : Int) (l : List V) : (V.mk 0 n l).text = [110, 105, 108] := by rw [text_eq]; simp
theorem b0_text : b0.text = [40, 91, 50, 32, 35, 55, 93, 32, 33, 49, 41] := by
  have h2 : Lib.itoa 2 = [50] := itoa_digit 2 (by decide)
  have h7 : Lib.itoa 7 = [55] := itoa_digit 7 (by decide)
  have h1 : Lib.itoa 1 = [49] := itoa_digit 1 (by decide)
  have e1 : b1.text = [35, 55] := by unfold b1; rw [text_cap, h7]
  have e3 : b3.text = [33, 49] := by unfold b3; rw [text_gate, h1]
  have e2 : b2.text = [91, 50, 32, 35, 55, 93] := by unfold b2; rw [text_seal, texts_one, e1, h2]; rfl
  unfold b0
  rw [text_pair, texts_two, texts_one, e2, e3]; rfl
theorem bN_check : bN.check = 5 := by
  have : bN.size = 1 := by simp [bN, size_mk, sizes_nil]
  unfold V.check
  rw [this, if_neg (by decide), V.fault, pre_eq]
  simp [bN, first, V.fault1, partsB]
end Go.Proofs.YtekkecnhnaejlabDoor
