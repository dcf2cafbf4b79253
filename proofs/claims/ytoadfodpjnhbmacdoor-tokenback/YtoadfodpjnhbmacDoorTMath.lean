/- Tokens, plain mathematics: bytes, the tokens of a text, and that it does not matter how far the reckoning may go. -/
import Derived.Lib.ParseIntB
import Derived.Lib.ItoaNum
namespace Go.Proofs.YtoadfodpjnhbmacDoor
/-- The bytes between tokens. -/
def blankZ (z : Int) : Bool := z == 32 || z == 9 || z == 10 || z == 13
def letterZ (z : Int) : Bool := decide (97 ≤ z) && decide (z ≤ 122)
def digitZ (z : Int) : Bool := decide (48 ≤ z) && decide (z ≤ 57)
def blank (c : UInt8) : Bool := blankZ c.toNat
def letter (c : UInt8) : Bool := letterZ c.toNat
def digit (c : UInt8) : Bool := digitZ c.toNat
/-- The first byte from there on that is not of a sort. -/
def stop (p : UInt8 → Bool) (l : List UInt8) (i : Nat) : Nat := i + ((l.drop i).takeWhile p).length
/-- A piece of a text. -/
def cut (l : List UInt8) (a b : Nat) : List UInt8 := (l.take b).drop a
theorem takeWhile_len {α : Type} (p : α → Bool) (l : List α) : (l.takeWhile p).length ≤ l.length := by
  induction l with
  | nil => simp
  | cons a l ih => rw [List.takeWhile_cons]; split <;> simp <;> omega
theorem stop_le (p : UInt8 → Bool) (l : List UInt8) (i : Nat) (h : i ≤ l.length) : stop p l i ≤ l.length := by
  have := takeWhile_len p (l.drop i)
  rw [List.length_drop] at this
  unfold stop; omega
theorem le_stop (p : UInt8 → Bool) (l : List UInt8) (i : Nat) : i ≤ stop p l i := Nat.le_add_right _ _
theorem stop_yes (p : UInt8 → Bool) (l : List UInt8) (i : Nat) (h : i < l.length) (hp : p l[i] = true) : stop p l i = stop p l (i + 1) := by
  unfold stop
  rw [List.drop_eq_getElem_cons h, List.takeWhile_cons, if_pos hp]
  simp; omega
theorem stop_no (p : UInt8 → Bool) (l : List UInt8) (i : Nat) (h : i < l.length) (hp : p l[i] = false) : stop p l i = i := by
  unfold stop
  rw [List.drop_eq_getElem_cons h, List.takeWhile_cons, if_neg (by simp [hp])]
  rfl
theorem stop_end (p : UInt8 → Bool) (l : List UInt8) (i : Nat) (h : l.length ≤ i) : stop p l i = i := by
  unfold stop
  rw [List.drop_of_length_le h]; rfl
theorem while_at {α : Type} (p : α → Bool) (m : List α) (h : (m.takeWhile p).length < m.length) : p (m[(m.takeWhile p).length]) = false := by
  induction m with
  | nil => simp at h
  | cons a m ih =>
    cases hp : p a with
    | false => simp [hp]
    | true =>
      have e : (a :: m).takeWhile p = a :: m.takeWhile p := by rw [List.takeWhile_cons, if_pos hp]
      have h' : (m.takeWhile p).length < m.length := by rw [e] at h; simpa using h
      have := ih h'
      simp only [e, List.length_cons, List.getElem_cons_succ]
      exact this
theorem stop_at (p : UInt8 → Bool) (l : List UInt8) (i : Nat) (hs : stop p l i < l.length) : p l[stop p l i] = false := by
  have h : ((l.drop i).takeWhile p).length < (l.drop i).length := by rw [List.length_drop]; unfold stop at hs; omega
  have := while_at p (l.drop i) h
  rw [List.getElem_drop] at this
  exact this
theorem stop_stop (p : UInt8 → Bool) (l : List UInt8) (i : Nat) : stop p l (stop p l i) = stop p l i := by
  by_cases hs : stop p l i < l.length
  · exact stop_no p l _ hs (stop_at p l i hs)
  · exact stop_end p l _ (by omega)
theorem cut_len (l : List UInt8) (a b : Nat) (hb : b ≤ l.length) : (cut l a b).length = b - a := by
  unfold cut; rw [List.length_drop, List.length_take]; omega
/-- A number of 64 bits, as short as can be. -/
def longOf (t : List UInt8) : Option Int := match Lib.parseIntB 64 t with
  | .ok n => if Lib.itoa n = t then some n else none
  | _ => none
/-- A token. -/
structure Tk where
  pos : Nat
  text : List UInt8
  num : Bool
  n : Int
/-- The number that begins there. -/
def numAt (l : List UInt8) (i : Nat) : Option Tk := (longOf (cut l i (stop digit l (i + 1)))).map fun n => ⟨i, cut l i (stop digit l (i + 1)), true, n⟩
/-- The token that begins there. -/
def tokAt (l : List UInt8) (i : Nat) : Option Tk := match l[i]? with
  | none => none
  | some c =>
    if c.toNat = 40 ∨ c.toNat = 41 then some ⟨i, cut l i (i + 1), false, 0⟩
    else if letter c then some ⟨i, cut l i (stop letter l i), false, 0⟩
    else if c.toNat = 45 ∨ digit c = true then numAt l i
    else none
theorem tokAt_some {l : List UInt8} {i : Nat} {t : Tk} (h : tokAt l i = some t) : i < l.length ∧ t.pos = i ∧ 1 ≤ t.text.length ∧ i + t.text.length ≤ l.length := by
  unfold tokAt at h
  by_cases hi : i < l.length
  · rw [List.getElem?_eq_getElem hi] at h
    simp only at h
    split at h
    · cases h
      refine ⟨hi, rfl, ?_, ?_⟩ <;> simp only <;> rw [cut_len l i (i + 1) hi] <;> omega
    · split at h
      · rename_i hl
        cases h
        have e := stop_yes letter l i hi hl
        have h1 := le_stop letter l (i + 1)
        have h2 := stop_le letter l i (by omega)
        refine ⟨hi, rfl, ?_, ?_⟩ <;> simp only <;> rw [cut_len _ _ _ h2] <;> omega
      · split at h
        · unfold numAt at h
          obtain ⟨n, _, rfl⟩ := Option.map_eq_some_iff.1 h
          have h1 := le_stop digit l (i + 1)
          have h2 := stop_le digit l (i + 1) (by omega)
          refine ⟨hi, rfl, ?_, ?_⟩ <;> simp only <;> rw [cut_len _ _ _ h2] <;> omega
        · cases h
  · rw [List.getElem?_eq_none (by omega)] at h; cases h
/-- The tokens from there on, behind those that are told; or the fault. -/
def scanN (l : List UInt8) : Nat → Nat → List Tk → List Tk × Int × Int
  | 0, _, acc => (acc, 0, 0)
  | f + 1, i, acc =>
    if stop blank l i < l.length then
      match tokAt l (stop blank l i) with
      | none => (([], 7, ((stop blank l i : Nat) : Int)) : List Tk × Int × Int)
      | some t => scanN l f (stop blank l i + t.text.length) (acc ++ [t])
    else (acc, 0, 0)
theorem scanN_more (l : List UInt8) : ∀ (f g i : Nat) (acc : List Tk), l.length < f + i → l.length < g + i → scanN l f i acc = scanN l g i acc := by
  intro f
  induction f with
  | zero =>
    intro g i acc hf hg
    cases g with
    | zero => rfl
    | succ g => have := le_stop blank l i; rw [scanN, scanN, if_neg (by omega)]
  | succ f ih =>
    intro g i acc hf hg
    cases g with
    | zero => have := le_stop blank l i; rw [scanN, scanN, if_neg (by omega)]
    | succ g =>
      rw [scanN, scanN]
      split
      · cases ht : tokAt l (stop blank l i) with
        | none => rfl
        | some t =>
          have h1 := tokAt_some ht
          have h2 := le_stop blank l i
          exact ih g _ _ (by omega) (by omega)
      · rfl
def scanFrom (l : List UInt8) (i : Nat) (acc : List Tk) : List Tk × Int × Int := scanN l (l.length + 1) i acc
theorem scanFrom_eq (l : List UInt8) (i : Nat) (acc : List Tk) : scanFrom l i acc =
    (if stop blank l i < l.length then
      match tokAt l (stop blank l i) with
      | none => (([], 7, ((stop blank l i : Nat) : Int)) : List Tk × Int × Int)
      | some t => scanFrom l (stop blank l i + t.text.length) (acc ++ [t])
    else (acc, 0, 0) : List Tk × Int × Int) := by
  unfold scanFrom
  rw [scanN]
  split
  · cases ht : tokAt l (stop blank l i) with
    | none => rfl
    | some t =>
      have h1 := tokAt_some ht
      exact scanN_more l _ _ _ _ (by omega) (by omega)
  · rfl
theorem scanFrom_end {l : List UInt8} {i : Nat} (acc : List Tk) (h : l.length ≤ stop blank l i) : scanFrom l i acc = (acc, 0, 0) := by
  rw [scanFrom_eq, if_neg (by omega)]
theorem scanFrom_bad {l : List UInt8} {i : Nat} (acc : List Tk) (h : stop blank l i < l.length) (ht : tokAt l (stop blank l i) = none) : scanFrom l i acc = ([], 7, ((stop blank l i : Nat) : Int)) := by
  rw [scanFrom_eq, if_pos h, ht]
theorem scanFrom_tok {l : List UInt8} {i : Nat} (acc : List Tk) {t : Tk} (h : stop blank l i < l.length) (ht : tokAt l (stop blank l i) = some t) : scanFrom l i acc = scanFrom l (stop blank l i + t.text.length) (acc ++ [t]) := by
  rw [scanFrom_eq, if_pos h, ht]
theorem scanFrom_stop (l : List UInt8) (i : Nat) (acc : List Tk) : scanFrom l (stop blank l i) acc = scanFrom l i acc := by
  rw [scanFrom_eq, stop_stop, ← scanFrom_eq]
theorem scanFrom_blank {l : List UInt8} {i : Nat} (acc : List Tk) (h : i < l.length) (hb : blank l[i] = true) : scanFrom l i acc = scanFrom l (i + 1) acc := by
  rw [← scanFrom_stop l i, stop_yes blank l i h hb, scanFrom_stop]
/-- What is told of a text: its tokens, or a code and a place. -/
def scan (l : List UInt8) : List Tk × Int × Int := if 6000 < l.length then ([], 3, 6000) else scanFrom l 0 []
end Go.Proofs.YtoadfodpjnhbmacDoor
