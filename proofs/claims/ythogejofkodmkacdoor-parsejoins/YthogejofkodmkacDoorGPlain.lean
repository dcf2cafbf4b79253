/- Expressions as trees, in plain mathematics: how many, how deep, the same, the first fault. Tokens, plain mathematics: bytes, the tokens of a text, and that it does not matter how far the reckoning may go. The texts of tokens with blanks between are the same tokens again: plain mathematics. What tokens say: plain mathematics. The words; the expression that begins there; the module of a text. Where tokens stand does not matter; tokens behind tokens: plain mathematics. Two texts that are modules, one behind the other; the same tokens with other blanks: plain mathematics. -/
import Derived.Lib.ParseIntB
import Derived.Lib.ItoaNum
namespace Go.Proofs.YthogejofkodmkacDoor
/-- An expression: its kind, its K, its N, what is in it. -/
structure V where
  kind : Int
  k : Int
  n : Int
  l : List V
theorem V.ind' {P : V → Prop} (h : ∀ v : V, (∀ x ∈ v.l, P x) → P v) (v : V) : P v :=
  V.rec (motive_1 := P) (motive_2 := fun l => ∀ x ∈ l, P x) (fun k kk n l ih => h ⟨k, kk, n, l⟩ ih) (by simp) (fun a l h1 h2 => by simp only [List.mem_cons, forall_eq_or_imp]; exact ⟨h1, h2⟩) v
def V.size : V → Nat
  | ⟨_, _, _, l⟩ => 1 + sizes l
  where sizes : List V → Nat
    | [] => 0
    | v :: l => V.size v + sizes l
abbrev sizes (l : List V) : Nat := V.size.sizes l
theorem size_eq (v : V) : v.size = 1 + sizes v.l := by cases v; rw [V.size]
theorem sizes_nil : sizes [] = 0 := by simp only [sizes, V.size.sizes]
theorem sizes_cons (v : V) (l : List V) : sizes (v :: l) = v.size + sizes l := by simp only [sizes, V.size.sizes]
theorem sizes_append (a b : List V) : sizes (a ++ b) = sizes a + sizes b := by
  induction a with
  | nil => simp [sizes_nil]
  | cons x a ih => rw [List.cons_append, sizes_cons, sizes_cons, ih]; omega
theorem size_pos (v : V) : 1 ≤ v.size := by rw [size_eq]; omega
theorem sizes_one (v : V) : sizes [v] = v.size := by rw [sizes_cons, sizes_nil]; rfl
theorem sizes_len (l : List V) : l.length ≤ sizes l := by
  induction l with
  | nil => simp
  | cons x a ih => rw [sizes_cons, List.length_cons]; have := size_pos x; omega
theorem sizes_mem {l : List V} {v : V} (h : v ∈ l) : v.size ≤ sizes l := by
  induction l with
  | nil => simp at h
  | cons x a ih =>
    rw [sizes_cons]
    rcases List.mem_cons.1 h with rfl | h
    · omega
    · have := ih h; omega
theorem size_get (l : List V) (i : Nat) (h : i < l.length) : l[i].size ≤ sizes l := sizes_mem (List.getElem_mem h)
theorem sizes_take (l : List V) (i : Nat) (h : i < l.length) : sizes (l.take (i + 1)) = sizes (l.take i) + l[i].size := by
  rw [List.take_add_one, sizes_append, List.getElem?_eq_getElem h]
  simp [sizes_cons, sizes_nil]
theorem sizes_take_le (l : List V) (i : Nat) : sizes (l.take i) ≤ sizes l := by
  have h : sizes l = sizes (l.take i ++ l.drop i) := by rw [List.take_append_drop]
  rw [h, sizes_append]; omega

/-- The same? -/
def V.same : V → V → Bool
  | ⟨k, kk, n, l⟩, ⟨k', kk', n', l'⟩ => k == k' && kk == kk' && n == n' && sames l l'
  where sames : List V → List V → Bool
    | [], [] => true
    | a :: l, b :: l' => V.same a b && sames l l'
    | [], _ :: _ => false
    | _ :: _, [] => false
abbrev sames (a b : List V) : Bool := V.same.sames a b
theorem same_eq (v u : V) : v.same u = (v.kind == u.kind && v.k == u.k && v.n == u.n && sames v.l u.l) := by cases v; cases u; rw [V.same]
theorem sames_cons (a b : V) (l l' : List V) : sames (a :: l) (b :: l') = (a.same b && sames l l') := by simp only [sames, V.same.sames]
theorem v_ext {x y : V} : x = y ↔ (x.kind = y.kind ∧ x.k = y.k ∧ x.n = y.n) ∧ x.l = y.l := by cases x; cases y; simp [and_assoc]
theorem same_iff (v : V) : ∀ u, v.same u = true ↔ v = u := by
  induction v using V.ind' with
  | h v ih =>
    intro u
    have key : ∀ (a b : List V), (∀ x ∈ a, ∀ u, x.same u = true ↔ x = u) → (sames a b = true ↔ a = b) := by
      intro a
      induction a with
      | nil => intro b _; cases b <;> simp [sames, V.same.sames]
      | cons x a iha =>
        intro b hx
        cases b with
        | nil => simp [sames, V.same.sames]
        | cons y b =>
          rw [sames_cons, Bool.and_eq_true, hx x (by simp) y, iha b fun z hz => hx z (by simp [hz])]
          simp
    rw [same_eq, Bool.and_eq_true, key v.l u.l ih, v_ext]
    simp [and_assoc]
theorem same_refl (v : V) : v.same v = true := (same_iff v v).2 rfl
theorem sames_iff (a b : List V) : sames a b = true ↔ a = b := by
  induction a generalizing b with
  | nil => cases b <;> simp [sames, V.same.sames]
  | cons x a ih =>
    cases b with
    | nil => simp [sames, V.same.sames]
    | cons y b => rw [sames_cons, Bool.and_eq_true, same_iff, ih]; simp
theorem sames_true {a b : List V} (h : a = b) : sames a b = true := (sames_iff a b).2 h
theorem sames_false {a b : List V} (h : ¬ a = b) : sames a b = false := by
  cases e : sames a b with
  | false => rfl
  | true => exact absurd ((sames_iff a b).1 e) h
theorem same_true {v u : V} (h : v = u) : v.same u = true := (same_iff v u).2 h
theorem same_false {v u : V} (h : ¬ v = u) : v.same u = false := by
  cases e : v.same u with
  | false => rfl
  | true => exact absurd ((same_iff v u).1 e) h
theorem take_eq {a b : List V} (hl : a.length = b.length) (j : Nat) (hj : j < a.length) : (a.take (j + 1) = b.take (j + 1)) ↔ (a.take j = b.take j ∧ a[j] = b[j]'(hl ▸ hj)) := by
  rw [List.take_add_one, List.take_add_one, List.getElem?_eq_getElem hj, List.getElem?_eq_getElem (hl ▸ hj)]
  constructor
  · intro h
    obtain ⟨h1, h2⟩ := List.append_inj h (by simp; omega)
    exact ⟨h1, by simpa using h2⟩
  · rintro ⟨h1, h2⟩; rw [h1, h2]

/-- How deep expressions stand in one. -/
def V.deep : V → Nat
  | ⟨_, _, _, l⟩ => deeps l
  where deeps : List V → Nat
    | [] => 0
    | v :: l => max (1 + V.deep v) (deeps l)
abbrev deeps (l : List V) : Nat := V.deep.deeps l
theorem deep_eq (v : V) : v.deep = deeps v.l := by cases v; rw [V.deep]
theorem deeps_nil : deeps [] = 0 := by simp only [deeps, V.deep.deeps]
theorem deeps_cons (v : V) (l : List V) : deeps (v :: l) = max (1 + v.deep) (deeps l) := by simp only [deeps, V.deep.deeps]
theorem deeps_append (a b : List V) : deeps (a ++ b) = max (deeps a) (deeps b) := by
  induction a with
  | nil => simp [deeps_nil]
  | cons x a ih => rw [List.cons_append, deeps_cons, deeps_cons, ih]; omega
theorem deeps_take (l : List V) (i : Nat) (h : i < l.length) : deeps (l.take (i + 1)) = max (deeps (l.take i)) (1 + deeps l[i].l) := by
  rw [List.take_add_one, deeps_append, List.getElem?_eq_getElem h]
  simp [deeps_cons, deeps_nil, deep_eq]
theorem deeps_take_le (l : List V) (i : Nat) : deeps (l.take i) ≤ deeps l := by
  have h : deeps l = deeps (l.take i ++ l.drop i) := by rw [List.take_append_drop]
  rw [h, deeps_append]; omega
theorem deeps_pos {l : List V} (h : l ≠ []) : 1 ≤ deeps l := by
  cases l with
  | nil => exact absurd rfl h
  | cons v l => rw [deeps_cons]; omega
theorem deeps_zero {l : List V} : deeps l = 0 ↔ l = [] := by
  constructor
  · intro h; cases l with
    | nil => rfl
    | cons v l => rw [deeps_cons] at h; omega
  · rintro rfl; exact deeps_nil
theorem deeps_one (v : V) : deeps [v] = 1 + v.deep := by rw [deeps_cons, deeps_nil]; omega

/-- How many are in one of a kind. -/
def partsI (k : Int) : Int :=
  if k = 7 then 3 else if k = 5 ∨ k = 6 ∨ k = 8 ∨ k = 14 ∨ k = 19 then 2
  else if k = 9 ∨ k = 10 ∨ k = 11 ∨ k = 12 ∨ k = 13 ∨ k = 15 ∨ k = 16 ∨ k = 17 ∨ k = 18 ∨ k = 20 then 1
  else if k = 1 ∨ k = 2 ∨ k = 3 ∨ k = 4 ∨ k = 21 then 0 else -1
/-- What is wrong with K. -/
def faultK (F kind k o : Int) : Int :=
  if kind = 4 then (if 0 ≤ k ∧ k < o then 0 else 1)
  else if kind = 6 then (if 1 ≤ k ∧ k ≤ 5 then 0 else 1)
  else if kind = 15 then (if 0 ≤ k ∧ k ≤ 15 then 0 else 1)
  else if kind = 18 then (if 0 ≤ k ∧ k < F then 0 else 1)
  else if k = 0 then 0 else 5
/-- What is wrong with an expression by itself, among so many functions, with so many names open. -/
def fault1 (F : Int) (v : V) (o : Int) : Int :=
  if partsI v.kind < 0 then 2 else if (v.l.length : Int) ≠ partsI v.kind then 5 else if v.n ≠ 0 ∧ v.kind ≠ 2 then 5
  else if faultK F v.kind v.k o ≠ 0 then faultK F v.kind v.k o else if v.kind = 5 ∧ 12 ≤ o then 3 else 0
/-- How many names are open in the one at a place. -/
def opens (kind o : Int) (i : Nat) : Int := if kind = 5 ∧ i = 1 then o + 1 else o
/-- The first fault, outer ones first, from the left. -/
def V.bad (F : Int) : V → Int → Int
  | ⟨kind, k, n, l⟩, o => if fault1 F ⟨kind, k, n, l⟩ o = 0 then bads kind l 0 o else fault1 F ⟨kind, k, n, l⟩ o
  where bads (kind : Int) : List V → Nat → Int → Int
    | [], _, _ => 0
    | v :: l, i, o => if V.bad F v (opens kind o i) = 0 then bads kind l (i + 1) o else V.bad F v (opens kind o i)
abbrev bads (F kind : Int) (l : List V) (i : Nat) (o : Int) : Int := V.bad.bads F kind l i o
theorem bad_eq (F : Int) (v : V) (o : Int) : v.bad F o = if fault1 F v o = 0 then bads F v.kind v.l 0 o else fault1 F v o := by cases v; rw [V.bad]
theorem bads_nil (F kind : Int) (i : Nat) (o : Int) : bads F kind [] i o = 0 := by simp only [bads, V.bad.bads]
theorem bads_cons (F kind : Int) (v : V) (l : List V) (i : Nat) (o : Int) : bads F kind (v :: l) i o = if v.bad F (opens kind o i) = 0 then bads F kind l (i + 1) o else v.bad F (opens kind o i) := by simp only [bads, V.bad.bads]
/-- A module's fault in one function. -/
def fun1 (F : Int) (v : V) : Int := if 30 < v.deep then 4 else if 120 < v.size then 3 else v.bad F 0
/-- The first function with a fault: its code, its number. -/
def funs (F : Int) : List V → Nat → Int × Int
  | [], _ => (0, 0)
  | v :: l, i => if fun1 F v = 0 then funs F l (i + 1) else (fun1 F v, (i : Int))
/-- A module's fault. -/
def modFault (l : List V) : Int × Int := if l.length < 1 ∨ 6 < l.length then (3, -1) else funs (l.length : Int) l 0
end Go.Proofs.YthogejofkodmkacDoor
namespace Go.Proofs.YthogejofkodmkacDoor
/-- The bytes between tokens. -/
def blankZ (z : Int) : Bool := z == 32 || z == 9 || z == 10 || z == 13
def letterZ (z : Int) : Bool := decide (97 ≤ z) && decide (z ≤ 122)
def digitZ (z : Int) : Bool := decide (48 ≤ z) && decide (z ≤ 57)
def blank (c : UInt8) : Bool := blankZ c.toNat
def letter (c : UInt8) : Bool := letterZ c.toNat
def digit (c : UInt8) : Bool := digitZ c.toNat
/-- The first byte from there on that is not of a sort. -/
def stop (p : UInt8 → Bool) (l : List UInt8) (i : Nat) : Nat := i + ((l.drop i).takeWhile p).length
/-- A piece of a text. -/
def cut (l : List UInt8) (a b : Nat) : List UInt8 := (l.take b).drop a
theorem takeWhile_len {α : Type} (p : α → Bool) (l : List α) : (l.takeWhile p).length ≤ l.length := by
  induction l with
  | nil => simp
  | cons a l ih => rw [List.takeWhile_cons]; split <;> simp <;> omega
theorem stop_le (p : UInt8 → Bool) (l : List UInt8) (i : Nat) (h : i ≤ l.length) : stop p l i ≤ l.length := by
  have := takeWhile_len p (l.drop i)
  rw [List.length_drop] at this
  unfold stop; omega
theorem le_stop (p : UInt8 → Bool) (l : List UInt8) (i : Nat) : i ≤ stop p l i := Nat.le_add_right _ _
theorem stop_yes (p : UInt8 → Bool) (l : List UInt8) (i : Nat) (h : i < l.length) (hp : p l[i] = true) : stop p l i = stop p l (i + 1) := by
  unfold stop
  rw [List.drop_eq_getElem_cons h, List.takeWhile_cons, if_pos hp]
  simp; omega
theorem stop_no (p : UInt8 → Bool) (l : List UInt8) (i : Nat) (h : i < l.length) (hp : p l[i] = false) : stop p l i = i := by
  unfold stop
  rw [List.drop_eq_getElem_cons h, List.takeWhile_cons, if_neg (by simp [hp])]
  rfl
theorem stop_end (p : UInt8 → Bool) (l : List UInt8) (i : Nat) (h : l.length ≤ i) : stop p l i = i := by
  unfold stop
  rw [List.drop_of_length_le h]; rfl
theorem while_at {α : Type} (p : α → Bool) (m : List α) (h : (m.takeWhile p).length < m.length) : p (m[(m.takeWhile p).length]) = false := by
  induction m with
  | nil => simp at h
  | cons a m ih =>
    cases hp : p a with
    | false => simp [hp]
    | true =>
      have e : (a :: m).takeWhile p = a :: m.takeWhile p := by rw [List.takeWhile_cons, if_pos hp]
      have h' : (m.takeWhile p).length < m.length := by rw [e] at h; simpa using h
      have := ih h'
      simp only [e, List.length_cons, List.getElem_cons_succ]
      exact this
theorem stop_at (p : UInt8 → Bool) (l : List UInt8) (i : Nat) (hs : stop p l i < l.length) : p l[stop p l i] = false := by
  have h : ((l.drop i).takeWhile p).length < (l.drop i).length := by rw [List.length_drop]; unfold stop at hs; omega
  have := while_at p (l.drop i) h
  rw [List.getElem_drop] at this
  exact this
theorem stop_stop (p : UInt8 → Bool) (l : List UInt8) (i : Nat) : stop p l (stop p l i) = stop p l i := by
  by_cases hs : stop p l i < l.length
  · exact stop_no p l _ hs (stop_at p l i hs)
  · exact stop_end p l _ (by omega)
theorem cut_len (l : List UInt8) (a b : Nat) (hb : b ≤ l.length) : (cut l a b).length = b - a := by
  unfold cut; rw [List.length_drop, List.length_take]; omega
/-- A number of 64 bits, as short as can be. -/
def longOf (t : List UInt8) : Option Int := match Lib.parseIntB 64 t with
  | .ok n => if Lib.itoa n = t then some n else none
  | _ => none
/-- A token. -/
structure Tk where
  pos : Nat
  text : List UInt8
  num : Bool
  n : Int
/-- The number that begins there. -/
def numAt (l : List UInt8) (i : Nat) : Option Tk := (longOf (cut l i (stop digit l (i + 1)))).map fun n => ⟨i, cut l i (stop digit l (i + 1)), true, n⟩
/-- The token that begins there. -/
def tokAt (l : List UInt8) (i : Nat) : Option Tk := match l[i]? with
  | none => none
  | some c =>
    if c.toNat = 40 ∨ c.toNat = 41 then some ⟨i, cut l i (i + 1), false, 0⟩
    else if letter c then some ⟨i, cut l i (stop letter l i), false, 0⟩
    else if c.toNat = 45 ∨ digit c = true then numAt l i
    else none
theorem tokAt_some {l : List UInt8} {i : Nat} {t : Tk} (h : tokAt l i = some t) : i < l.length ∧ t.pos = i ∧ 1 ≤ t.text.length ∧ i + t.text.length ≤ l.length := by
  unfold tokAt at h
  by_cases hi : i < l.length
  · rw [List.getElem?_eq_getElem hi] at h
    simp only at h
    split at h
    · cases h
      refine ⟨hi, rfl, ?_, ?_⟩ <;> simp only <;> rw [cut_len l i (i + 1) hi] <;> omega
    · split at h
      · rename_i hl
        cases h
        have e := stop_yes letter l i hi hl
        have h1 := le_stop letter l (i + 1)
        have h2 := stop_le letter l i (by omega)
        refine ⟨hi, rfl, ?_, ?_⟩ <;> simp only <;> rw [cut_len _ _ _ h2] <;> omega
      · split at h
        · unfold numAt at h
          obtain ⟨n, _, rfl⟩ := Option.map_eq_some_iff.1 h
          have h1 := le_stop digit l (i + 1)
          have h2 := stop_le digit l (i + 1) (by omega)
          refine ⟨hi, rfl, ?_, ?_⟩ <;> simp only <;> rw [cut_len _ _ _ h2] <;> omega
        · cases h
  · rw [List.getElem?_eq_none (by omega)] at h; cases h
/-- The tokens from there on, behind those that are told; or the fault. -/
def scanN (l : List UInt8) : Nat → Nat → List Tk → List Tk × Int × Int
  | 0, _, acc => (acc, 0, 0)
  | f + 1, i, acc =>
    if stop blank l i < l.length then
      match tokAt l (stop blank l i) with
      | none => (([], 7, ((stop blank l i : Nat) : Int)) : List Tk × Int × Int)
      | some t => scanN l f (stop blank l i + t.text.length) (acc ++ [t])
    else (acc, 0, 0)
theorem scanN_more (l : List UInt8) : ∀ (f g i : Nat) (acc : List Tk), l.length < f + i → l.length < g + i → scanN l f i acc = scanN l g i acc := by
  intro f
  induction f with
  | zero =>
    intro g i acc hf hg
    cases g with
    | zero => rfl
    | succ g => have := le_stop blank l i; rw [scanN, scanN, if_neg (by omega)]
  | succ f ih =>
    intro g i acc hf hg
    cases g with
    | zero => have := le_stop blank l i; rw [scanN, scanN, if_neg (by omega)]
    | succ g =>
      rw [scanN, scanN]
      split
      · cases ht : tokAt l (stop blank l i) with
        | none => rfl
        | some t =>
          have h1 := tokAt_some ht
          have h2 := le_stop blank l i
          exact ih g _ _ (by omega) (by omega)
      · rfl
def scanFrom (l : List UInt8) (i : Nat) (acc : List Tk) : List Tk × Int × Int := scanN l (l.length + 1) i acc
theorem scanFrom_eq (l : List UInt8) (i : Nat) (acc : List Tk) : scanFrom l i acc =
    (if stop blank l i < l.length then
      match tokAt l (stop blank l i) with
      | none => (([], 7, ((stop blank l i : Nat) : Int)) : List Tk × Int × Int)
      | some t => scanFrom l (stop blank l i + t.text.length) (acc ++ [t])
    else (acc, 0, 0) : List Tk × Int × Int) := by
  unfold scanFrom
  rw [scanN]
  split
  · cases ht : tokAt l (stop blank l i) with
    | none => rfl
    | some t =>
      have h1 := tokAt_some ht
      exact scanN_more l _ _ _ _ (by omega) (by omega)
  · rfl
theorem scanFrom_end {l : List UInt8} {i : Nat} (acc : List Tk) (h : l.length ≤ stop blank l i) : scanFrom l i acc = (acc, 0, 0) := by
  rw [scanFrom_eq, if_neg (by omega)]
theorem scanFrom_bad {l : List UInt8} {i : Nat} (acc : List Tk) (h : stop blank l i < l.length) (ht : tokAt l (stop blank l i) = none) : scanFrom l i acc = ([], 7, ((stop blank l i : Nat) : Int)) := by
  rw [scanFrom_eq, if_pos h, ht]
theorem scanFrom_tok {l : List UInt8} {i : Nat} (acc : List Tk) {t : Tk} (h : stop blank l i < l.length) (ht : tokAt l (stop blank l i) = some t) : scanFrom l i acc = scanFrom l (stop blank l i + t.text.length) (acc ++ [t]) := by
  rw [scanFrom_eq, if_pos h, ht]
theorem scanFrom_stop (l : List UInt8) (i : Nat) (acc : List Tk) : scanFrom l (stop blank l i) acc = scanFrom l i acc := by
  rw [scanFrom_eq, stop_stop, ← scanFrom_eq]
theorem scanFrom_blank {l : List UInt8} {i : Nat} (acc : List Tk) (h : i < l.length) (hb : blank l[i] = true) : scanFrom l i acc = scanFrom l (i + 1) acc := by
  rw [← scanFrom_stop l i, stop_yes blank l i h hb, scanFrom_stop]
/-- What is told of a text: its tokens, or a code and a place. -/
def scan (l : List UInt8) : List Tk × Int × Int := if 6000 < l.length then ([], 3, 6000) else scanFrom l 0 []
end Go.Proofs.YthogejofkodmkacDoor
namespace Go.Proofs.YthogejofkodmkacDoor
/-- What a token is. -/
def good (t : Tk) : Prop :=
  ((t.text = [40] ∨ t.text = [41]) ∧ t.num = false ∧ t.n = 0) ∨ (t.text ≠ [] ∧ (∀ c ∈ t.text, letter c = true) ∧ t.num = false ∧ t.n = 0) ∨
  (∃ c ds, t.text = c :: ds ∧ (c.toNat = 45 ∨ digit c = true) ∧ (∀ d ∈ ds, digit d = true) ∧ longOf t.text = some t.n ∧ t.num = true)
theorem while_take {α : Type} (p : α → Bool) (m : List α) : m.take (m.takeWhile p).length = m.takeWhile p := by
  induction m with
  | nil => rfl
  | cons a m ih =>
    rw [List.takeWhile_cons]
    split
    · simp [ih]
    · rfl
theorem while_all {α : Type} (p : α → Bool) (m : List α) : ∀ c ∈ m.takeWhile p, p c = true := by
  induction m with
  | nil => intro c hc; cases hc
  | cons a m ih =>
    rw [List.takeWhile_cons]
    split
    · rename_i h
      intro c hc
      rcases List.mem_cons.1 hc with rfl | hc
      · exact h
      · exact ih c hc
    · intro c hc; cases hc
theorem while_app {α : Type} (p : α → Bool) (m r : List α) (b : α) (h : ∀ c ∈ m, p c = true) (hb : p b = false) : (m ++ b :: r).takeWhile p = m := by
  induction m with
  | nil => simp [hb]
  | cons a m ih =>
    rw [List.cons_append, List.takeWhile_cons, if_pos (h a (by simp)), ih fun c hc => h c (by simp [hc])]
theorem cut_drop (l : List UInt8) (a n : Nat) : cut l a (a + n) = (l.drop a).take n := by
  unfold cut; rw [List.drop_take]; congr 1; omega
theorem cut_stop (p : UInt8 → Bool) (l : List UInt8) (i : Nat) : cut l i (stop p l i) = (l.drop i).takeWhile p := by
  unfold stop; rw [cut_drop, while_take]
theorem cut_stop1 (p : UInt8 → Bool) (l : List UInt8) (i : Nat) (hi : i < l.length) : cut l i (stop p l (i + 1)) = l[i] :: (l.drop (i + 1)).takeWhile p := by
  unfold stop
  rw [show i + 1 + ((l.drop (i + 1)).takeWhile p).length = i + (1 + ((l.drop (i + 1)).takeWhile p).length) by omega, cut_drop, List.drop_eq_getElem_cons hi, Nat.add_comm 1, List.take_succ_cons, while_take]
theorem tokAt_good {l : List UInt8} {i : Nat} {t : Tk} (h : tokAt l i = some t) : good t := by
  have hi := (tokAt_some h).1
  unfold tokAt at h
  rw [List.getElem?_eq_getElem hi] at h
  simp only at h
  split at h
  · rename_i hc
    cases h
    refine .inl ⟨?_, rfl, rfl⟩
    simp only
    rw [cut_drop, List.drop_eq_getElem_cons hi, List.take_succ_cons, List.take_zero]
    rcases hc with hc | hc
    · exact .inl (by rw [show l[i] = 40 from UInt8.toNat_inj.1 hc])
    · exact .inr (by rw [show l[i] = 41 from UInt8.toNat_inj.1 hc])
  · split at h
    · rename_i hc
      cases h
      refine .inr (.inl ⟨?_, ?_, rfl, rfl⟩)
      · simp only
        rw [cut_stop, List.drop_eq_getElem_cons hi, List.takeWhile_cons, if_pos hc]
        simp
      · simp only
        rw [cut_stop]
        exact while_all _ _
    · split at h
      · rename_i hc
        unfold numAt at h
        obtain ⟨n, hn, rfl⟩ := Option.map_eq_some_iff.1 h
        refine .inr (.inr ⟨l[i], (l.drop (i + 1)).takeWhile digit, ?_, hc, while_all _ _, hn, rfl⟩)
        exact cut_stop1 digit l i hi
      · cases h
theorem scanN_good (l : List UInt8) : ∀ (f i : Nat) (acc : List Tk), (∀ t ∈ acc, good t) → ∀ t ∈ (scanN l f i acc).1, good t := by
  intro f
  induction f with
  | zero => intro i acc h; exact h
  | succ f ih =>
    intro i acc h
    rw [scanN]
    split
    · cases ht : tokAt l (stop blank l i) with
      | none => intro t h; cases h
      | some t =>
        refine ih _ _ fun u hu => ?_
        rcases List.mem_append.1 hu with hu | hu
        · exact h u hu
        · rw [List.mem_singleton.1 hu]; exact tokAt_good ht
    · exact h
/-- How long the texts are together. -/
def total (ts : List Tk) : Nat := (ts.map fun t => t.text.length).sum
theorem total_app (a b : List Tk) : total (a ++ b) = total a + total b := by simp [total]
theorem scanN_total (l : List UInt8) : ∀ (f i : Nat) (acc : List Tk), i ≤ l.length → total acc ≤ i → total (scanN l f i acc).1 ≤ l.length := by
  intro f
  induction f with
  | zero => intro i acc h1 h2; exact Nat.le_trans h2 h1
  | succ f ih =>
    intro i acc h1 h2
    rw [scanN]
    split
    · cases ht : tokAt l (stop blank l i) with
      | none => exact Nat.zero_le _
      | some t =>
        have h3 := tokAt_some ht
        have h4 := le_stop blank l i
        refine ih _ _ h3.2.2.2 ?_
        rw [total_app]
        have : total [t] = t.text.length := by simp [total]
        omega
    · exact Nat.le_trans h2 h1
theorem scan_good (l : List UInt8) : ∀ t ∈ (scan l).1, good t := by
  unfold scan
  split
  · intro t h; cases h
  · exact scanN_good l _ _ _ fun t h => by cases h
theorem scan_total (l : List UInt8) : total (scan l).1 ≤ l.length := by
  unfold scan
  split
  · exact Nat.zero_le _
  · exact scanN_total l _ _ _ (Nat.zero_le _) (Nat.le_refl _)
theorem good_len {t : Tk} (h : good t) : 1 ≤ t.text.length := by
  rcases h with ⟨h | h, _⟩ | ⟨h, _⟩ | ⟨c, ds, h, _⟩
  · rw [h]; decide
  · rw [h]; decide
  · exact List.length_pos_iff.2 h
  · rw [h]; simp
/-- With blanks between. -/
def back (ts : List Tk) : List UInt8 := ts.flatMap fun t => t.text ++ [32, 10]
theorem back_app (a b : List Tk) : back (a ++ b) = back a ++ back b := by simp [back]
theorem back_one (t : Tk) : back [t] = t.text ++ [32, 10] := by simp [back]
theorem back_len (ts : List Tk) : (back ts).length = total ts + 2 * ts.length := by
  induction ts with
  | nil => rfl
  | cons t ts ih =>
    rw [show t :: ts = [t] ++ ts from rfl, back_app, List.length_append, ih, total_app, back_one]
    simp [total]; omega
theorem total_len {ts : List Tk} (h : ∀ t ∈ ts, good t) : ts.length ≤ total ts := by
  induction ts with
  | nil => exact Nat.zero_le _
  | cons t ts ih =>
    have h1 := good_len (h t (by simp))
    have h2 := ih fun u hu => h u (by simp [hu])
    rw [show t :: ts = [t] ++ ts from rfl, total_app]
    have : total [t] = t.text.length := by simp [total]
    simp; omega
/-- The same tokens, where they stand then. -/
def shift : Nat → List Tk → List Tk
  | _, [] => []
  | p, t :: ts => ⟨p, t.text, t.num, t.n⟩ :: shift (p + t.text.length + 2) ts
theorem shift_len (ts : List Tk) : ∀ p, (shift p ts).length = ts.length := by
  induction ts with
  | nil => intro p; rfl
  | cons t ts ih => intro p; rw [shift, List.length_cons, List.length_cons, ih]
theorem shift_get (ts : List Tk) : ∀ p i (h : i < ts.length) (h' : i < (shift p ts).length), (shift p ts)[i].text = ts[i].text ∧ (shift p ts)[i].num = ts[i].num ∧ (shift p ts)[i].n = ts[i].n := by
  induction ts with
  | nil => intro p i h; simp at h
  | cons t ts ih =>
    intro p i h h'
    cases i with
    | zero => exact ⟨rfl, rfl, rfl⟩
    | succ i => exact ih _ i (by simpa using h) (by simpa [shift] using h')
theorem stop_app (p : UInt8 → Bool) (pre x : List UInt8) : stop p (pre ++ x) pre.length = pre.length + (x.takeWhile p).length := by
  unfold stop; rw [List.drop_left]
theorem stop_app1 (p : UInt8 → Bool) (pre : List UInt8) (c : UInt8) (x : List UInt8) : stop p (pre ++ c :: x) (pre.length + 1) = pre.length + 1 + (x.takeWhile p).length := by
  unfold stop
  rw [show pre ++ c :: x = (pre ++ [c]) ++ x by simp, show pre.length + 1 = (pre ++ [c]).length by simp, List.drop_left]
theorem cut_app (pre x : List UInt8) (n : Nat) : cut (pre ++ x) pre.length (pre.length + n) = x.take n := by rw [cut_drop, List.drop_left]
theorem get_app (pre : List UInt8) (c : UInt8) (x : List UInt8) : (pre ++ c :: x)[pre.length]? = some c := by simp
/-- A token's text, and a blank behind it, is that token. -/
theorem tokAt_back (pre r : List UInt8) (t : Tk) (h : good t) : tokAt (pre ++ (t.text ++ 32 :: r)) pre.length = some ⟨pre.length, t.text, t.num, t.n⟩ ∧ ∃ c x, t.text ++ 32 :: r = c :: x ∧ blank c = false := by
  obtain ⟨pos, text, num, n⟩ := t
  simp only [good] at h
  simp only
  rcases h with ⟨h, rfl, rfl⟩ | ⟨h, h1, rfl, rfl⟩ | ⟨c, ds, h, h1, h2, h3, rfl⟩
  · rcases h with rfl | rfl
    · refine ⟨?_, 40, 32 :: r, rfl, rfl⟩
      rw [List.singleton_append, tokAt, get_app]
      simp only
      rw [if_pos (.inl rfl), cut_app]
      rfl
    · refine ⟨?_, 41, 32 :: r, rfl, rfl⟩
      rw [List.singleton_append, tokAt, get_app]
      simp only
      rw [if_pos (.inr rfl), cut_app]
      rfl
  · obtain ⟨c, x, rfl⟩ := List.exists_cons_of_ne_nil h
    have hc := h1 c (by simp)
    have hc2 : 97 ≤ c.toNat := by simp [letter, letterZ] at hc; omega
    refine ⟨?_, c, x ++ 32 :: r, rfl, ?_⟩
    · rw [tokAt, List.cons_append, get_app]
      simp only
      rw [if_neg (by omega), if_pos hc, ← List.cons_append, stop_app, while_app letter (c :: x) r 32 h1 rfl, cut_app, List.take_left]
    · simp [blank, blankZ]; omega
  · subst h
    have hc : 45 ≤ c.toNat ∧ c.toNat ≤ 57 := by
      rcases h1 with h | h
      · omega
      · simp [digit, digitZ] at h; omega
    refine ⟨?_, c, ds ++ 32 :: r, rfl, ?_⟩
    · rw [tokAt, List.cons_append, get_app]
      simp only
      rw [if_neg (by omega), if_neg (by simp [letter, letterZ]; omega), if_pos h1, numAt, stop_app1, while_app digit ds r 32 h2 rfl, Nat.add_assoc, cut_app, ← List.cons_append]
      rw [show 1 + ds.length = (c :: ds).length by simp; omega, List.take_left, h3]
      rfl
    · simp [blank, blankZ]; omega
theorem scan_back (ts : List Tk) : ∀ (pre : List UInt8) (acc : List Tk), (∀ t ∈ ts, good t) → scanFrom (pre ++ back ts) pre.length acc = (acc ++ shift pre.length ts, 0, 0) := by
  induction ts with
  | nil =>
    intro pre acc _
    rw [scanFrom_end acc (by rw [stop_app]; simp [back])]
    simp [shift]
  | cons t ts ih =>
    intro pre acc h
    have hb : back (t :: ts) = t.text ++ 32 :: (10 :: back ts) := by rw [show t :: ts = [t] ++ ts from rfl, back_app, back_one]; simp
    obtain ⟨h1, c, x, h2, h3⟩ := tokAt_back pre (10 :: back ts) t (h t (by simp))
    rw [hb]
    have hs : stop blank (pre ++ (t.text ++ 32 :: (10 :: back ts))) pre.length = pre.length := by rw [stop_app, h2, List.takeWhile_cons, if_neg (by simp [h3])]; rfl
    rw [scanFrom_tok (t := ⟨pre.length, t.text, t.num, t.n⟩) acc (by rw [hs]; simp; omega) (by rw [hs]; exact h1), hs]
    simp only
    have e1 : pre ++ (t.text ++ 32 :: (10 :: back ts)) = (pre ++ t.text) ++ 32 :: (10 :: back ts) := by simp
    have e2 : pre ++ (t.text ++ 32 :: (10 :: back ts)) = (pre ++ t.text ++ [32]) ++ 10 :: back ts := by simp
    have e3 : pre ++ (t.text ++ 32 :: (10 :: back ts)) = (pre ++ t.text ++ [32, 10]) ++ back ts := by simp
    have g : ∀ (L : List UInt8) (i : Nat) (b : UInt8) (a : List Tk), L[i]? = some b → blank b = true → scanFrom L i a = scanFrom L (i + 1) a := by
      intro L i b a hL hb
      obtain ⟨hi, rfl⟩ := List.getElem?_eq_some_iff.1 hL
      exact scanFrom_blank a hi hb
    rw [g _ _ 32 _ (by rw [e1, ← List.length_append, get_app]) rfl]
    rw [g _ _ 10 _ (by rw [e2, show pre.length + t.text.length + 1 = (pre ++ t.text ++ [32]).length by simp; omega, get_app]) rfl]
    rw [e3, show pre.length + t.text.length + 1 + 1 = (pre ++ t.text ++ [32, 10]).length by simp; omega, ih _ _ fun u hu => h u (by simp [hu])]
    simp [shift, Nat.add_assoc]
theorem scan_of_back (l : List UInt8) (hl : l.length ≤ 2000) : (back (scan l).1).length ≤ 6000 ∧ scan (back (scan l).1) = (shift 0 (scan l).1, 0, 0) := by
  have h1 := scan_good l
  have h2 := scan_total l
  have h3 := total_len h1
  have h4 := back_len (scan l).1
  have h5 : (back (scan l).1).length ≤ 6000 := by omega
  refine ⟨h5, ?_⟩
  rw [scan, if_neg (by omega)]
  have := scan_back (scan l).1 [] [] h1
  simpa using this
end Go.Proofs.YthogejofkodmkacDoor
namespace Go.Proofs.YthogejofkodmkacDoor
/-- The words of the kinds from 1 on; those of the arithmetics. -/
def wordL : List (List UInt8) := [[110, 105, 108], [110, 117, 109], [97, 114, 103], [118, 97, 114], [108, 101, 116], [98, 105, 110], [105, 102], [112, 97, 105, 114], [102, 115, 116], [115, 110, 100], [115, 101, 97, 108], [111, 112, 101, 110], [114, 101, 97, 100], [119, 114, 105, 116, 101], [110, 97, 114, 114, 111, 119], [119, 114, 97, 112], [99, 117, 116], [99, 97, 108, 108], [97, 115, 107], [107, 101, 101, 112], [107, 101, 112, 116]]
def binL : List (List UInt8) := [[97, 100, 100], [115, 117, 98], [109, 117, 108], [108, 101, 115, 115], [101, 113]]
/-- The word of a kind; none: empty. -/
def nameIn (L : List (List UInt8)) (k : Int) : List UInt8 := if 1 ≤ k then (L[(k - 1).toNat]?).getD [] else []
/-- The kind of a word; none: 0. -/
def kindIn (L : List (List UInt8)) (t : List UInt8) : Nat := if t ∈ L then L.idxOf t + 1 else 0
theorem kind_le (L : List (List UInt8)) (t : List UInt8) : kindIn L t ≤ L.length := by
  unfold kindIn
  split
  · rename_i h; have := List.idxOf_lt_length_of_mem h; omega
  · omega
theorem name_at (L : List (List UInt8)) (k : Nat) (h : 1 ≤ k) (hk : k ≤ L.length) : nameIn L (k : Int) = L[k - 1] := by
  unfold nameIn
  rw [if_pos (by omega), show ((k : Int) - 1).toNat = k - 1 by omega, List.getElem?_eq_getElem (by omega)]
  rfl
theorem name_iff {L : List (List UInt8)} (hL : L.Nodup) (t : List UInt8) (k : Nat) (h : 1 ≤ k) (hk : k ≤ L.length) : nameIn L (k : Int) = t ↔ kindIn L t = k := by
  rw [name_at L k h hk]
  unfold kindIn
  constructor
  · rintro rfl
    rw [if_pos (List.getElem_mem _), hL.idxOf_getElem]; omega
  · intro e
    split at e
    · rename_i hm
      have hi := List.idxOf_lt_length_of_mem hm
      have h2 : L[L.idxOf t] = t := List.getElem_idxOf hi
      have h3 : L.idxOf t = k - 1 := by omega
      simp only [h3] at h2
      exact h2
    · omega
theorem name_past (L : List (List UInt8)) (k : Int) (h : k < 1 ∨ (L.length : Int) < k) : nameIn L k = [] := by
  unfold nameIn
  split
  · rw [List.getElem?_eq_none (by omega)]; rfl
  · rfl
theorem wordL_nodup : wordL.Nodup := by decide
theorem binL_nodup : binL.Nodup := by decide
theorem wordL_len : wordL.length = 21 := rfl
theorem binL_len : binL.length = 5 := rfl
theorem wordL_full : ∀ x ∈ wordL, x ≠ [] ∧ ∀ c ∈ x, letter c = true := by decide
theorem binL_full : ∀ x ∈ binL, x ≠ [] ∧ ∀ c ∈ x, letter c = true := by decide
theorem name_full {L : List (List UInt8)} (hL : ∀ x ∈ L, x ≠ [] ∧ ∀ c ∈ x, letter c = true) (k : Nat) (h : 1 ≤ k) (hk : k ≤ L.length) : nameIn L (k : Int) ≠ [] := by
  rw [name_at L k h hk]; exact (hL _ (List.getElem_mem _)).1
/-- None of those before it. -/
theorem kind_found {L : List (List UInt8)} (hL : L.Nodup) {t : List UInt8} {k : Nat} (h : 1 ≤ k) (hk : k ≤ L.length) (e : nameIn L (k : Int) = t) : kindIn L t = k := (name_iff hL t k h hk).1 e
theorem kind_none {L : List (List UInt8)} (hL : L.Nodup) {t : List UInt8} (h : ∀ j : Nat, 1 ≤ j → j ≤ L.length → nameIn L (j : Int) ≠ t) : kindIn L t = 0 := by
  have h1 := kind_le L t
  rcases Nat.eq_zero_or_pos (kindIn L t) with h0 | h0
  · exact h0
  · exact absurd ((name_iff hL t _ h0 h1).2 rfl) (h _ h0 h1)
/-- A number's text is no word. -/
theorem good_num {t : Tk} (h : good t) (hn : t.num = true) : ∃ c r, t.text = c :: r ∧ letter c = false ∧ c.toNat ≠ 40 ∧ c.toNat ≠ 41 := by
  rcases h with ⟨_, h, _⟩ | ⟨_, _, h, _⟩ | ⟨c, ds, h, h1, _, _, _⟩
  · rw [hn] at h; cases h
  · rw [hn] at h; cases h
  · refine ⟨c, ds, h, ?_, ?_, ?_⟩
    · rcases h1 with h1 | h1
      · simp [letter, letterZ]; omega
      · simp [digit, digitZ] at h1; simp [letter, letterZ]; omega
    · rcases h1 with h1 | h1
      · omega
      · simp [digit, digitZ] at h1; omega
    · rcases h1 with h1 | h1
      · omega
      · simp [digit, digitZ] at h1; omega
theorem num_kind {L : List (List UInt8)} (hL : ∀ x ∈ L, x ≠ [] ∧ ∀ c ∈ x, letter c = true) {t : Tk} (h : good t) (hn : t.num = true) : kindIn L t.text = 0 := by
  obtain ⟨c, r, e, h1, _⟩ := good_num h hn
  unfold kindIn
  rw [if_neg]
  intro hm
  have := (hL _ hm).2 c (by rw [e]; simp)
  rw [h1] at this; cases this
def lpar : List UInt8 := [40]
def rpar : List UInt8 := [41]
def funB : List UInt8 := [102, 117, 110]
theorem num_mark {t : Tk} (h : good t) (hn : t.num = true) : t.text ≠ lpar ∧ t.text ≠ rpar ∧ t.text ≠ funB := by
  obtain ⟨c, r, e, h1, h2, h3⟩ := good_num h hn
  rw [e]
  refine ⟨?_, ?_, ?_⟩
  · intro h; simp [lpar] at h; rw [h.1] at h2; exact h2 rfl
  · intro h; simp [rpar] at h; rw [h.1] at h3; exact h3 rfl
  · intro h; simp [funB] at h; rw [h.1] at h1; cases h1
/-- What was read and what is left, or a code and a place. -/
abbrev Got (α : Type) := Except (Int × Int) (α × List Tk)
def andThen {α β : Type} (g : Got α) (f : α → List Tk → Got β) : Got β := match g with
  | .error x => .error x
  | .ok x => f x.1 x.2
theorem andThen_ok {α β : Type} (a : α) (r : List Tk) (f : α → List Tk → Got β) : andThen (.ok (a, r)) f = f a r := rfl
theorem andThen_error {α β : Type} (x : Int × Int) (f : α → List Tk → Got β) : andThen (.error x : Got α) f = .error x := rfl
/-- The next token. -/
def nextT (e : Int) (ts : List Tk) : Got Tk := match ts with
  | [] => .error (6, e)
  | t :: r => .ok (t, r)
/-- Where it begins, or where the text ends. -/
def atT (e : Int) (ts : List Tk) : Int := match ts with
  | [] => e
  | t :: _ => (t.pos : Int)
def mustT (e : Int) (s : List UInt8) (ts : List Tk) : Got Unit := andThen (nextT e ts) fun t r => if t.text = s then .ok ((), r) else .error (5, (t.pos : Int))
def oneT (L : List (List UInt8)) (e : Int) (ts : List Tk) : Got Int := andThen (nextT e ts) fun t r => if kindIn L t.text = 0 then .error (5, (t.pos : Int)) else .ok ((kindIn L t.text : Int), r)
def numT (e : Int) (ts : List Tk) : Got Tk := andThen (nextT e ts) fun t r => if t.num = true then .ok (t, r) else .error (5, (t.pos : Int))
def smallT (e : Int) (ts : List Tk) : Got Int := andThen (numT e ts) fun t r => if t.n < 0 ∨ 999 < t.n then .error (1, (t.pos : Int)) else .ok (t.n, r)
/-- A word, and its number or arithmetic. -/
def tailT (e kd : Int) (r : List Tk) : Got (Int × Int) :=
  if kd = 2 then andThen (numT e r) fun t r => .ok ((0, t.n), r)
  else if kd = 4 ∨ kd = 18 ∨ kd = 15 then andThen (smallT e r) fun k r => .ok ((k, 0), r)
  else if kd = 6 then andThen (oneT binL e r) fun k r => .ok ((k, 0), r)
  else .ok ((0, 0), r)
def headT (e : Int) (ts : List Tk) : Got (Int × Int × Int) := andThen (oneT wordL e ts) fun kd r => andThen (tailT e kd r) fun x r => .ok ((kd, x), r)
/-- So many, one behind the other. -/
def manyT (g : List Tk → Got V) : Nat → List V → List Tk → Got (List V)
  | 0, acc, r => .ok (acc, r)
  | n + 1, acc, r => andThen (g r) fun v r => manyT g n (acc ++ [v]) r
/-- An expression that may hold so many in one another. -/
def exprT (e : Int) : Nat → List Tk → Got V
  | 0, ts => .error (4, atT e ts)
  | f + 1, ts => andThen (mustT e lpar ts) fun _ r => andThen (headT e r) fun h r => andThen (manyT (exprT e f) (partsI h.1).toNat [] r) fun l r => andThen (mustT e rpar r) fun _ r => .ok (⟨h.1, h.2.1, h.2.2, l⟩, r)
/-- Functions, behind those that were read. -/
def modT (e : Int) : Nat → List V → List Tk → Got (List V)
  | 0, acc, ts => .ok (acc, ts)
  | f + 1, acc, ts => match ts with
    | [] => .ok (acc, [])
    | t :: r => andThen (mustT e funB (t :: r)) fun _ r => andThen (exprT e 31 r) fun v r => modT e f (acc ++ [v]) r
theorem next_ok {e : Int} {ts r : List Tk} {t : Tk} (h : nextT e ts = .ok (t, r)) : ts = t :: r := by
  cases ts with
  | nil => cases h
  | cons a b => cases h; rfl
theorem must_ok {e : Int} {s : List UInt8} {ts r : List Tk} {u : Unit} (h : mustT e s ts = .ok (u, r)) : ∃ t, ts = t :: r ∧ t.text = s := by
  cases ts with
  | nil => cases h
  | cons a b =>
    simp only [mustT, nextT, andThen] at h
    split at h
    · cases h; exact ⟨a, rfl, by assumption⟩
    · cases h
theorem one_ok {L : List (List UInt8)} {e : Int} {ts r : List Tk} {k : Int} (h : oneT L e ts = .ok (k, r)) : ∃ t, ts = t :: r ∧ kindIn L t.text ≠ 0 ∧ k = kindIn L t.text := by
  cases ts with
  | nil => cases h
  | cons a b =>
    simp only [oneT, nextT, andThen] at h
    split at h
    · cases h
    · cases h; exact ⟨a, rfl, by assumption, rfl⟩
theorem num_ok {e : Int} {ts r : List Tk} {t : Tk} (h : numT e ts = .ok (t, r)) : ts = t :: r ∧ t.num = true := by
  cases ts with
  | nil => cases h
  | cons a b =>
    simp only [numT, nextT, andThen] at h
    split at h
    · cases h; exact ⟨rfl, by assumption⟩
    · cases h
theorem small_ok {e : Int} {ts r : List Tk} {k : Int} (h : smallT e ts = .ok (k, r)) : ∃ t, ts = t :: r ∧ t.num = true ∧ k = t.n ∧ 0 ≤ k ∧ k ≤ 999 := by
  unfold smallT at h
  cases hn : numT e ts with
  | error x => rw [hn] at h; cases h
  | ok x =>
    obtain ⟨t, r'⟩ := x
    rw [hn] at h
    simp only [andThen] at h
    obtain ⟨h1, h2⟩ := num_ok hn
    split at h
    · cases h
    · cases h; exact ⟨t, h1, h2, rfl, by omega, by omega⟩
theorem tail_ok {e kd : Int} {ts r : List Tk} {x : Int × Int} (h : tailT e kd ts = .ok (x, r)) : ∃ p, ts = p ++ r := by
  unfold tailT at h
  split at h
  · cases hn : numT e ts with
    | error y => rw [hn] at h; cases h
    | ok y => rw [hn] at h; cases h; exact ⟨[y.1], by simpa using (num_ok hn).1⟩
  · split at h
    · cases hn : smallT e ts with
      | error y => rw [hn] at h; cases h
      | ok y => rw [hn] at h; cases h; obtain ⟨t, h1, _⟩ := small_ok hn; exact ⟨[t], by simpa using h1⟩
    · split at h
      · cases hn : oneT binL e ts with
        | error y => rw [hn] at h; cases h
        | ok y => rw [hn] at h; cases h; obtain ⟨t, h1, _⟩ := one_ok hn; exact ⟨[t], by simpa using h1⟩
      · cases h; exact ⟨[], rfl⟩
theorem then_ok {α β : Type} {g : Got α} {f : α → List Tk → Got β} {b : β} {r : List Tk} (h : andThen g f = .ok (b, r)) : ∃ a r1, g = .ok (a, r1) ∧ f a r1 = .ok (b, r) := by
  cases g with
  | error x => cases h
  | ok x => exact ⟨x.1, x.2, rfl, h⟩
theorem head_ok {e : Int} {ts r : List Tk} {x : Int × Int × Int} (h : headT e ts = .ok (x, r)) : (∃ t r1, ts = t :: r1 ∧ kindIn wordL t.text ≠ 0 ∧ x.1 = kindIn wordL t.text ∧ tailT e x.1 r1 = .ok (x.2, r)) := by
  unfold headT at h
  obtain ⟨kd, r1, h1, h2⟩ := then_ok h
  obtain ⟨y, r2, h3, h4⟩ := then_ok h2
  obtain ⟨t, rfl, h5, h6⟩ := one_ok h1
  cases h4
  exact ⟨t, r1, rfl, h5, h6, h3⟩
/-- An expression takes as many tokens as there are expressions in it, or more. -/
theorem many_ok {g : List Tk → Got V} (hg : ∀ ts v r, g ts = .ok (v, r) → ∃ p, ts = p ++ r ∧ v.size ≤ p.length) : ∀ (n : Nat) (acc : List V) (ts : List Tk) (l : List V) (r : List Tk), manyT g n acc ts = .ok (l, r) → ∃ p, ts = p ++ r ∧ sizes l ≤ sizes acc + p.length ∧ l.length = acc.length + n := by
  intro n
  induction n with
  | zero => intro acc ts l r h; rw [manyT] at h; cases h; exact ⟨[], rfl, Nat.le_refl _, rfl⟩
  | succ n ih =>
    intro acc ts l r h
    rw [manyT] at h
    obtain ⟨v, r1, h1, h2⟩ := then_ok h
    obtain ⟨p, rfl, hp⟩ := hg _ _ _ h1
    obtain ⟨q, rfl, hq, hl⟩ := ih _ _ _ _ h2
    refine ⟨p ++ q, by simp, ?_, ?_⟩
    · rw [sizes_append, sizes_one] at hq; rw [List.length_append]; omega
    · rw [hl, List.length_append, List.length_singleton]; omega
theorem expr_ok (e : Int) : ∀ (f : Nat) (ts : List Tk) (v : V) (r : List Tk), exprT e f ts = .ok (v, r) → ∃ p, ts = p ++ r ∧ v.size ≤ p.length := by
  intro f
  induction f with
  | zero => intro ts v r h; cases h
  | succ f ih =>
    intro ts v r h
    rw [exprT] at h
    obtain ⟨_, r1, h1, h⟩ := then_ok h
    obtain ⟨x, r2, h2, h⟩ := then_ok h
    obtain ⟨l, r3, h3, h⟩ := then_ok h
    obtain ⟨_, r4, h4, h⟩ := then_ok h
    cases h
    obtain ⟨t1, rfl, _⟩ := must_ok h1
    obtain ⟨t2, r5, rfl, _, _, h6⟩ := head_ok h2
    obtain ⟨p, rfl⟩ := tail_ok h6
    obtain ⟨q, rfl, hq, _⟩ := many_ok ih _ _ _ _ _ h3
    obtain ⟨t3, rfl, _⟩ := must_ok h4
    refine ⟨t1 :: t2 :: (p ++ q ++ [t3]), by simp, ?_⟩
    rw [size_eq]
    rw [sizes_nil] at hq
    simp only [List.length_cons, List.length_append, List.length_nil]
    omega
theorem mod_more (e : Int) : ∀ (f g : Nat) (acc : List V) (ts : List Tk), ts.length < f → ts.length < g → modT e f acc ts = modT e g acc ts := by
  intro f
  induction f with
  | zero => intro g acc ts h; omega
  | succ f ih =>
    intro g acc ts hf hg
    cases g with
    | zero => omega
    | succ g =>
      cases ts with
      | nil => rfl
      | cons t r =>
        rw [modT, modT]
        cases hm : mustT e funB (t :: r) with
        | error x => rfl
        | ok x =>
          obtain ⟨u, r1⟩ := x
          obtain ⟨t', h1, _⟩ := must_ok hm
          cases h1
          simp only [andThen]
          cases hx : exprT e 31 r with
          | error x => rfl
          | ok x =>
            obtain ⟨v, r2⟩ := x
            obtain ⟨p, rfl, hp⟩ := expr_ok e _ _ _ _ hx
            simp only [List.length_cons, List.length_append] at hf hg
            exact ih g _ _ (by show r2.length < f; omega) (by show r2.length < g; omega)
def modFrom (e : Int) (acc : List V) (ts : List Tk) : Got (List V) := modT e (ts.length + 1) acc ts
theorem modFrom_nil (e : Int) (acc : List V) : modFrom e acc [] = .ok (acc, []) := rfl
theorem modFrom_cons (e : Int) (acc : List V) (t : Tk) (r : List Tk) : modFrom e acc (t :: r) = andThen (mustT e funB (t :: r)) fun _ r => andThen (exprT e 31 r) fun v r => modFrom e (acc ++ [v]) r := by
  unfold modFrom
  rw [modT]
  cases hm : mustT e funB (t :: r) with
  | error x => rfl
  | ok x =>
    obtain ⟨u, r1⟩ := x
    obtain ⟨t', h1, _⟩ := must_ok hm
    cases h1
    simp only [andThen]
    cases hx : exprT e 31 r with
    | error x => rfl
    | ok x =>
      obtain ⟨v, r2⟩ := x
      obtain ⟨p, rfl, hp⟩ := expr_ok e _ _ _ _ hx
      simp only [List.length_cons, List.length_append]
      exact mod_more e _ _ _ _ (by omega) (by omega)
theorem mod_ok (e : Int) : ∀ (f : Nat) (acc : List V) (ts : List Tk) (l : List V) (r : List Tk), modT e f acc ts = .ok (l, r) → sizes l ≤ sizes acc + ts.length := by
  intro f
  induction f with
  | zero => intro acc ts l r h; cases h; omega
  | succ f ih =>
    intro acc ts l r h
    cases ts with
    | nil => cases h; omega
    | cons t r1 =>
      rw [modT] at h
      obtain ⟨_, r2, h1, h⟩ := then_ok h
      obtain ⟨v, r3, h2, h4⟩ := then_ok h
      obtain ⟨t', h3, _⟩ := must_ok h1
      cases h3
      obtain ⟨p, rfl, hp⟩ := expr_ok e _ _ _ _ h2
      have := ih _ _ _ _ h4
      rw [sizes_append, sizes_one] at this
      simp only [List.length_cons, List.length_append]
      omega
/-- What is told of tokens and of the module that they make. -/
def parseT (e : Int) (ts : List Tk) : List V × Int × Int := match modFrom e [] ts with
  | .error x => ([], x.1, x.2)
  | .ok x => if (modFault x.1).1 = 0 then (x.1, 0, 0) else ([], (modFault x.1).1, (modFault x.1).2)
def parseB (l : List UInt8) : List V × Int × Int := if (scan l).2.1 = 0 then parseT (l.length : Int) (scan l).1 else ([], (scan l).2.1, (scan l).2.2)
theorem parseT_size (e : Int) (ts : List Tk) : sizes (parseT e ts).1 ≤ ts.length := by
  unfold parseT
  cases h : modFrom e [] ts with
  | error x => simp [sizes_nil]
  | ok x =>
    obtain ⟨l, r⟩ := x
    simp only
    split
    · have := mod_ok e _ _ _ _ _ h; rw [sizes_nil] at this; simpa using this
    · simp [sizes_nil]
end Go.Proofs.YthogejofkodmkacDoor
namespace Go.Proofs.YthogejofkodmkacDoor
/-- A token without its place. -/
def bare (t : Tk) : List UInt8 × Bool × Int := (t.text, t.num, t.n)
/-- The same tokens, wherever they stand. -/
def Alike (a b : List Tk) : Prop := a.map bare = b.map bare
theorem Alike.cons {t : Tk} {a b : List Tk} (h : Alike (t :: a) b) : ∃ u c, b = u :: c ∧ u.text = t.text ∧ u.num = t.num ∧ u.n = t.n ∧ Alike a c := by
  cases b with
  | nil => simp [Alike] at h
  | cons u c =>
    simp only [Alike, List.map_cons, List.cons.injEq, bare, Prod.mk.injEq] at h
    exact ⟨u, c, rfl, h.1.1.symm, h.1.2.1.symm, h.1.2.2.symm, h.2⟩
/-- Reading goes on the same with other places and more behind. -/
def Stays {α : Type} (g g' : List Tk → Got α) : Prop := ∀ ts a r, g ts = .ok (a, r) → ∀ ts' x, Alike ts ts' → ∃ r', Alike r r' ∧ g' (ts' ++ x) = .ok (a, r' ++ x)
theorem must_stays (e e' : Int) (s : List UInt8) : Stays (mustT e s) (mustT e' s) := by
  intro ts a r h ts' x ha
  obtain ⟨t, rfl, hs⟩ := must_ok h
  obtain ⟨u, c, rfl, h1, _, _, h4⟩ := ha.cons
  refine ⟨c, h4, ?_⟩
  simp only [List.cons_append, mustT, nextT, andThen]
  rw [if_pos (h1.trans hs)]
theorem one_stays (L : List (List UInt8)) (e e' : Int) : Stays (oneT L e) (oneT L e') := by
  intro ts a r h ts' x ha
  obtain ⟨t, rfl, hs, rfl⟩ := one_ok h
  obtain ⟨u, c, rfl, h1, _, _, h4⟩ := ha.cons
  refine ⟨c, h4, ?_⟩
  simp only [List.cons_append, oneT, nextT, andThen]
  rw [h1, if_neg hs]
theorem small_stays (e e' : Int) : Stays (smallT e) (smallT e') := by
  intro ts a r h ts' x ha
  obtain ⟨t, rfl, hn, rfl, h5, h6⟩ := small_ok h
  obtain ⟨u, c, rfl, _, h2, h3, h4⟩ := ha.cons
  refine ⟨c, h4, ?_⟩
  simp only [List.cons_append, smallT, numT, nextT, andThen]
  rw [if_pos (h2.trans hn)]
  simp only
  rw [if_neg (by omega), h3]
theorem tail_stays (e e' kd : Int) : Stays (tailT e kd) (tailT e' kd) := by
  intro ts a r h ts' x ha
  unfold tailT at h ⊢
  split at h
  · rw [if_pos (by assumption)]
    obtain ⟨t, r1, h1, h2⟩ := then_ok h
    cases h2
    obtain ⟨rfl, hn⟩ := num_ok h1
    obtain ⟨u, c, rfl, _, h2, h3, h4⟩ := ha.cons
    refine ⟨c, h4, ?_⟩
    simp only [List.cons_append, numT, nextT, andThen]
    rw [if_pos (h2.trans hn)]
    simp only
    rw [h3]
  · rw [if_neg (by assumption)]
    split at h
    · rw [if_pos (by assumption)]
      obtain ⟨k, r1, h1, h2⟩ := then_ok h
      cases h2
      obtain ⟨r', h3, h4⟩ := small_stays e e' _ _ _ h1 ts' x ha
      exact ⟨r', h3, by rw [h4]; rfl⟩
    · rw [if_neg (by assumption)]
      split at h
      · rw [if_pos (by assumption)]
        obtain ⟨k, r1, h1, h2⟩ := then_ok h
        cases h2
        obtain ⟨r', h3, h4⟩ := one_stays binL e e' _ _ _ h1 ts' x ha
        exact ⟨r', h3, by rw [h4]; rfl⟩
      · rw [if_neg (by assumption)]
        cases h
        exact ⟨ts', ha, rfl⟩
theorem then_stays {α β : Type} {g g' : List Tk → Got α} {f f' : α → List Tk → Got β} (hg : Stays g g') (hf : ∀ a, Stays (f a) (f' a)) : Stays (fun ts => andThen (g ts) f) (fun ts => andThen (g' ts) f') := by
  intro ts b r h ts' x ha
  obtain ⟨a, r1, h1, h2⟩ := then_ok h
  obtain ⟨r', h3, h4⟩ := hg _ _ _ h1 ts' x ha
  obtain ⟨r2, h5, h6⟩ := hf a _ _ _ h2 r' x h3
  exact ⟨r2, h5, by show andThen (g' (ts' ++ x)) f' = _; rw [h4]; exact h6⟩
theorem same_stays {α : Type} (a : α) : Stays (fun ts => .ok (a, ts)) (fun ts => .ok (a, ts)) := by
  intro ts b r h ts' x ha
  cases h
  exact ⟨ts', ha, rfl⟩
theorem head_stays (e e' : Int) : Stays (headT e) (headT e') :=
  then_stays (one_stays wordL e e') fun kd => then_stays (tail_stays e e' kd) fun _ => same_stays _
theorem many_stays {g g' : List Tk → Got V} (hg : Stays g g') : ∀ (n : Nat) (acc : List V), Stays (manyT g n acc) (manyT g' n acc) := by
  intro n
  induction n with
  | zero => intro acc; exact same_stays acc
  | succ n ih => intro acc; exact then_stays hg fun v => ih (acc ++ [v])
theorem expr_stays (e e' : Int) : ∀ (f : Nat), Stays (exprT e f) (exprT e' f) := by
  intro f
  induction f with
  | zero => intro ts a r h; cases h
  | succ f ih =>
    exact then_stays (must_stays e e' lpar) fun _ => then_stays (head_stays e e') fun h => then_stays (many_stays ih _ _) fun _ => then_stays (must_stays e e' rpar) fun _ => same_stays _
/-- Functions that were read, and what is behind them. -/
theorem mod_join (e e' : Int) : ∀ (f : Nat) (acc acc' : List V) (ts : List Tk) (l : List V), ts.length < f → modT e f acc ts = .ok (l, []) → ∀ ts' x, Alike ts ts' → ∃ m, l = acc ++ m ∧ modFrom e' acc' (ts' ++ x) = modFrom e' (acc' ++ m) x := by
  intro f
  induction f with
  | zero => intro acc acc' ts l hf; omega
  | succ f ih =>
    intro acc acc' ts l hf h ts' x ha
    cases ts with
    | nil =>
      cases h
      have e0 : ts' = [] := by simpa [Alike] using ha.symm
      subst e0
      exact ⟨[], by simp, by simp⟩
    | cons t r =>
      rw [modT] at h
      obtain ⟨u, r1, h1, h2⟩ := then_ok h
      obtain ⟨v, r2, h3, h4⟩ := then_ok h2
      obtain ⟨s1, k1, k2⟩ := must_stays e e' funB _ _ _ h1 ts' x ha
      obtain ⟨s2, k3, k4⟩ := expr_stays e e' 31 _ _ _ h3 s1 x k1
      obtain ⟨t1, h5, _⟩ := must_ok h1
      cases h5
      obtain ⟨p, rfl, hp⟩ := expr_ok e _ _ _ _ h3
      simp only [List.length_cons, List.length_append] at hf
      obtain ⟨m, rfl, k5⟩ := ih (acc ++ [v]) (acc' ++ [v]) r2 l (by omega) h4 s2 x k3
      refine ⟨v :: m, by simp, ?_⟩
      obtain ⟨u', c, rfl, _⟩ := ha.cons
      rw [List.cons_append, modFrom_cons]
      rw [List.cons_append] at k2
      rw [k2]
      simp only [andThen]
      rw [k4]
      simp only
      rw [k5]
      simp
theorem mod_rest (e : Int) : ∀ (f : Nat) (acc : List V) (ts : List Tk) (l : List V) (r : List Tk), ts.length < f → modT e f acc ts = .ok (l, r) → r = [] := by
  intro f
  induction f with
  | zero => intro acc ts l r hf; omega
  | succ f ih =>
    intro acc ts l r hf h
    cases ts with
    | nil => cases h; rfl
    | cons t r0 =>
      rw [modT] at h
      obtain ⟨u, r1, h1, h2⟩ := then_ok h
      obtain ⟨v, r2, h3, h4⟩ := then_ok h2
      obtain ⟨t1, h5, _⟩ := must_ok h1
      cases h5
      obtain ⟨p, rfl, hp⟩ := expr_ok e _ _ _ _ h3
      simp only [List.length_cons, List.length_append] at hf
      exact ih _ _ _ _ (by omega) h4
theorem from_rest {e : Int} {ts : List Tk} {acc l : List V} {r : List Tk} (h : modFrom e acc ts = .ok (l, r)) : r = [] := mod_rest e _ _ _ _ _ (Nat.lt_succ_self _) h
theorem parseT_ok {e : Int} {ts : List Tk} (h : (parseT e ts).2.1 = 0) (hc : ∀ x, modFrom e [] ts = .error x → x.1 ≠ 0) : modFrom e [] ts = .ok ((parseT e ts).1, []) ∧ (modFault (parseT e ts).1).1 = 0 ∧ (parseT e ts).2.2 = 0 := by
  unfold parseT at h ⊢
  cases hm : modFrom e [] ts with
  | error x => rw [hm] at h; exact absurd h (hc x hm)
  | ok x =>
    obtain ⟨l, r⟩ := x
    obtain rfl := from_rest hm
    rw [hm] at h
    simp only at h ⊢
    split at h
    · rename_i h0; rw [if_pos h0]; exact ⟨rfl, h0, rfl⟩
    · rename_i h0; exact absurd h h0
/-- A fault's code is never 0. -/
def Told {α : Type} (g : Got α) : Prop := ∀ x, g = .error x → x.1 = 1 ∨ x.1 = 4 ∨ x.1 = 5 ∨ x.1 = 6
theorem Told.then {α β : Type} {g : Got α} {f : α → List Tk → Got β} (hg : Told g) (hf : ∀ a r, Told (f a r)) : Told (andThen g f) := by
  intro x h
  cases hgx : g with
  | error y => rw [hgx] at h; cases h; exact hg _ hgx
  | ok y => rw [hgx] at h; exact hf _ _ x h
theorem told_ok {α : Type} (a : α × List Tk) : Told (.ok a : Got α) := fun x h => by cases h
theorem next_told (e : Int) (ts : List Tk) : Told (nextT e ts) := by
  intro x h
  cases ts with
  | nil => cases h; simp
  | cons a b => cases h
theorem must_told (e : Int) (s : List UInt8) (ts : List Tk) : Told (mustT e s ts) := by
  refine (next_told e ts).then fun t r => ?_
  split
  · exact told_ok _
  · intro x h; cases h; simp
theorem one_told (L : List (List UInt8)) (e : Int) (ts : List Tk) : Told (oneT L e ts) := by
  refine (next_told e ts).then fun t r => ?_
  split
  · intro x h; cases h; simp
  · exact told_ok _
theorem num_told (e : Int) (ts : List Tk) : Told (numT e ts) := by
  refine (next_told e ts).then fun t r => ?_
  split
  · exact told_ok _
  · intro x h; cases h; simp
theorem small_told (e : Int) (ts : List Tk) : Told (smallT e ts) := by
  refine (num_told e ts).then fun t r => ?_
  split
  · intro x h; cases h; simp
  · exact told_ok _
theorem tail_told (e kd : Int) (ts : List Tk) : Told (tailT e kd ts) := by
  unfold tailT
  split
  · exact (num_told e ts).then fun _ _ => told_ok _
  · split
    · exact (small_told e ts).then fun _ _ => told_ok _
    · split
      · exact (one_told binL e ts).then fun _ _ => told_ok _
      · exact told_ok _
theorem head_told (e : Int) (ts : List Tk) : Told (headT e ts) := (one_told wordL e ts).then fun _ _ => (tail_told _ _ _).then fun _ _ => told_ok _
theorem many_told {g : List Tk → Got V} (hg : ∀ ts, Told (g ts)) : ∀ (n : Nat) (acc : List V) (ts : List Tk), Told (manyT g n acc ts) := by
  intro n
  induction n with
  | zero => intro acc ts; exact told_ok _
  | succ n ih => intro acc ts; exact (hg ts).then fun v r => ih _ _
theorem expr_told (e : Int) : ∀ (f : Nat) (ts : List Tk), Told (exprT e f ts) := by
  intro f
  induction f with
  | zero => intro ts x h; cases h; simp
  | succ f ih => intro ts; exact (must_told _ _ _).then fun _ _ => (head_told _ _).then fun _ _ => (many_told ih _ _ _).then fun _ _ => (must_told _ _ _).then fun _ _ => told_ok _
theorem mod_told (e : Int) : ∀ (f : Nat) (acc : List V) (ts : List Tk), Told (modT e f acc ts) := by
  intro f
  induction f with
  | zero => intro acc ts; exact told_ok _
  | succ f ih =>
    intro acc ts
    cases ts with
    | nil => exact told_ok _
    | cons t r => rw [modT]; exact (must_told _ _ _).then fun _ _ => (expr_told _ _ _).then fun _ _ => ih _ _
theorem from_told {e : Int} {ts : List Tk} (x : Int × Int) (h : modFrom e [] ts = .error x) : x.1 ≠ 0 := by
  have := mod_told e _ _ _ x h
  omega
/-- A text that is a module: its tokens are that module's. -/
theorem parseB_ok {l : List UInt8} (h : (parseB l).2.1 = 0) : (scan l).2.1 = 0 ∧ modFrom (l.length : Int) [] (scan l).1 = .ok ((parseB l).1, []) ∧ (modFault (parseB l).1).1 = 0 ∧ (parseB l).2.2 = 0 := by
  unfold parseB at h ⊢
  split at h
  · rename_i h0
    rw [if_pos h0]
    exact ⟨h0, parseT_ok h from_told⟩
  · rename_i h0; exact absurd h h0
/-- A text behind a text, a new row between: the tokens of both. -/
theorem while_pre (p : UInt8 → Bool) (m r : List UInt8) (b : UInt8) (hb : p b = false) : (m ++ b :: r).takeWhile p = m.takeWhile p := by
  induction m with
  | nil => simp [hb]
  | cons a m ih => rw [List.cons_append, List.takeWhile_cons, List.takeWhile_cons, ih]
theorem drop_pre (a r : List UInt8) (i : Nat) (h : i ≤ a.length) : (a ++ r).drop i = a.drop i ++ r := List.drop_append_of_le_length h
theorem stop_pre (p : UInt8 → Bool) (a r : List UInt8) (b : UInt8) (hb : p b = false) (i : Nat) (h : i ≤ a.length) : stop p (a ++ b :: r) i = stop p a i := by
  unfold stop; rw [drop_pre a _ i h, while_pre p _ r b hb]
theorem cut_pre (a r : List UInt8) (i j : Nat) (hj : j ≤ a.length) : cut (a ++ r) i j = cut a i j := by
  unfold cut; rw [List.take_append_of_le_length hj]
theorem tokAt_pre (a r : List UInt8) (b : UInt8) (h1 : letter b = false) (h2 : digit b = false) (i : Nat) (h : i < a.length) : tokAt (a ++ b :: r) i = tokAt a i := by
  unfold tokAt numAt
  rw [List.getElem?_append_left h, List.getElem?_eq_getElem h]
  simp only
  rw [stop_pre letter a r b h1 i (by omega), stop_pre digit a r b h2 (i + 1) (by omega), cut_pre _ _ _ _ (by omega), cut_pre _ _ _ _ (stop_le letter a i (by omega)), cut_pre _ _ _ _ (stop_le digit a (i + 1) (by omega))]
theorem while_blank (m r : List UInt8) (b : UInt8) (hb : blank b = true) : ((m.takeWhile blank).length < m.length → (m ++ b :: r).takeWhile blank = m.takeWhile blank) ∧ (¬ (m.takeWhile blank).length < m.length → m.length + 1 ≤ ((m ++ b :: r).takeWhile blank).length) := by
  induction m with
  | nil => refine ⟨fun h => by simp at h, fun _ => ?_⟩; rw [List.nil_append, List.takeWhile_cons, if_pos hb]; simp
  | cons a m ih =>
    rw [List.cons_append, List.takeWhile_cons, List.takeWhile_cons]
    by_cases ha : blank a = true
    · rw [if_pos ha, if_pos ha]
      refine ⟨fun h => ?_, fun h => ?_⟩
      · rw [ih.1 (by simpa using h)]
      · have := ih.2 (by simpa using h); simp; omega
    · rw [if_neg ha, if_neg ha]
      refine ⟨fun _ => rfl, fun h => ?_⟩
      exact absurd (by simp : ([] : List UInt8).length < (a :: m).length) h
theorem stop_blank (a r : List UInt8) (b : UInt8) (hb : blank b = true) (i : Nat) (h : i ≤ a.length) : (stop blank a i < a.length → stop blank (a ++ b :: r) i = stop blank a i) ∧ (¬ stop blank a i < a.length → a.length + 1 ≤ stop blank (a ++ b :: r) i) := by
  have h0 := while_blank (a.drop i) r b hb
  unfold stop
  rw [drop_pre a _ i h]
  rw [List.length_drop] at h0
  refine ⟨fun h1 => ?_, fun h1 => ?_⟩
  · rw [h0.1 (by omega)]
  · have := h0.2 (by omega); omega
theorem sort_blank {b : UInt8} (hb : blank b = true) : letter b = false ∧ digit b = false := by
  simp only [blank, blankZ, Bool.or_eq_true, beq_iff_eq] at hb
  simp only [letter, letterZ, digit, digitZ, Bool.and_eq_false_iff, decide_eq_false_iff_not]
  omega
/-- What was told stays told. -/
theorem scanN_acc (l : List UInt8) : ∀ (f i : Nat) (acc : List Tk), (scanN l f i acc).2.1 = 0 → ∃ us, (scanN l f i acc).1 = acc ++ us := by
  intro f
  induction f with
  | zero => intro i acc _; exact ⟨[], by simp [scanN]⟩
  | succ f ih =>
    intro i acc h
    rw [scanN] at h ⊢
    split
    · rename_i hlt
      rw [if_pos hlt] at h
      cases ht : tokAt l (stop blank l i) with
      | none => rw [ht] at h; simp at h
      | some t =>
        rw [ht] at h
        simp only at h ⊢
        obtain ⟨us, e⟩ := ih _ _ h
        exact ⟨t :: us, by rw [e]; simp⟩
    · exact ⟨[], by simp⟩
theorem while_mid (p : UInt8 → Bool) (l : List UInt8) (i j : Nat) (h1 : i ≤ j) (h2 : j ≤ stop p l i) : stop p l j = stop p l i := by
  induction h1 with
  | refl => rfl
  | step h ih =>
    rename_i m
    have e := ih (by omega)
    have hm : m < stop p l m := by omega
    have hlt : m < l.length := by
      rcases Nat.lt_or_ge m l.length with h | h
      · exact h
      · rw [stop_end p l m h] at hm; omega
    cases hp : p l[m] with
    | true => rw [← e, stop_yes p l m hlt hp]
    | false => rw [stop_no p l m hlt hp] at hm; omega
/-- A text with another one ahead of it: its tokens stand behind. -/
theorem drop_behind (pre l : List UInt8) (i : Nat) : (pre ++ l).drop (pre.length + i) = l.drop i := by
  rw [← List.drop_drop, List.drop_left]
theorem stop_behind (p : UInt8 → Bool) (pre l : List UInt8) (i : Nat) : stop p (pre ++ l) (pre.length + i) = pre.length + stop p l i := by
  unfold stop; rw [drop_behind]; omega
theorem cut_behind (pre l : List UInt8) (i j : Nat) : cut (pre ++ l) (pre.length + i) (pre.length + j) = cut l i j := by
  unfold cut
  rw [List.take_length_add_append, drop_behind]
theorem tokAt_behind (pre l : List UInt8) (i : Nat) : tokAt (pre ++ l) (pre.length + i) = (tokAt l i).map fun t => { t with pos := pre.length + t.pos } := by
  unfold tokAt numAt
  rw [List.getElem?_append_right (by omega), Nat.add_sub_cancel_left]
  cases l[i]? with
  | none => rfl
  | some c =>
    simp only
    rw [Nat.add_assoc, stop_behind, stop_behind, cut_behind, cut_behind, cut_behind]
    split
    · rfl
    · split
      · rfl
      · split
        · cases longOf (cut l i (stop digit l (i + 1))) <;> rfl
        · rfl
theorem scan_behind (pre l : List UInt8) : ∀ (f i : Nat) (acc acc' : List Tk), l.length < f + i → ∀ ts : List Tk, i ≤ l.length → scanN l f i acc = (acc ++ ts, 0, 0) → ∃ ts', Alike ts ts' ∧ scanFrom (pre ++ l) (pre.length + i) acc' = (acc' ++ ts', 0, 0) := by
  intro f
  induction f with
  | zero => intro i acc acc' h1 ts h2; omega
  | succ f ih =>
    intro i acc acc' h1 ts h2 h
    have h0 := h
    rw [scanN] at h
    split at h
    · rename_i hlt
      cases ht : tokAt l (stop blank l i) with
      | none => rw [ht] at h; simp at h
      | some t =>
        rw [ht] at h
        simp only at h
        have h3 := tokAt_some ht
        have h4 := le_stop blank l i
        obtain ⟨us, hu⟩ := scanN_acc l f (stop blank l i + t.text.length) (acc ++ [t]) (by rw [h])
        rw [h] at hu
        simp only [List.append_assoc] at hu
        have hu2 : ts = t :: us := by simpa using List.append_cancel_left hu
        subst hu2
        obtain ⟨ts', k1, k2⟩ := ih (stop blank l i + t.text.length) (acc ++ [t]) (acc' ++ [{ t with pos := pre.length + t.pos }]) (by omega) us h3.2.2.2 (by rw [h]; simp)
        refine ⟨{ t with pos := pre.length + t.pos } :: ts', ?_, ?_⟩
        · simp only [Alike, List.map_cons, bare] at k1 ⊢
          rw [k1]
        · rw [scanFrom_tok (t := { t with pos := pre.length + t.pos }) acc' (by rw [stop_behind]; simp; omega) (by rw [stop_behind, tokAt_behind, ht]; rfl), stop_behind, Nat.add_assoc, k2]
          simp
    · rename_i hge
      have e0 : ts = [] := by
        simp only [Prod.mk.injEq, and_true] at h
        have h' : acc ++ [] = acc ++ ts := by simpa using h
        exact (List.append_cancel_left h').symm
      subst e0
      refine ⟨[], rfl, ?_⟩
      rw [scanFrom_end acc' (by rw [stop_behind]; simp; omega)]
      simp
/-- The tokens of a text with a blank and more behind it. -/
theorem scan_pre (a r : List UInt8) (b : UInt8) (hb : blank b = true) : ∀ (f i : Nat) (acc acc' ts : List Tk), i ≤ a.length → a.length < f + i → scanN a f i acc = (acc ++ ts, 0, 0) → ∃ j, a.length + 1 ≤ j ∧ scanFrom (a ++ b :: r) i acc' = scanFrom (a ++ b :: r) j (acc' ++ ts) ∧ stop blank (a ++ b :: r) (a.length + 1) = j := by
  obtain ⟨hb1, hb2⟩ := sort_blank hb
  intro f
  induction f with
  | zero => intro i acc acc' ts h1 h2; omega
  | succ f ih =>
    intro i acc acc' ts h1 h2 h
    rw [scanN] at h
    have hs := stop_blank a r b hb i h1
    split at h
    · rename_i hlt
      have e := hs.1 hlt
      cases ht : tokAt a (stop blank a i) with
      | none => rw [ht] at h; simp at h
      | some t =>
        rw [ht] at h
        simp only at h
        have h3 := tokAt_some ht
        have h4 := le_stop blank a i
        have hin : ∃ us, ts = t :: us := by
          obtain ⟨us, hu⟩ := scanN_acc a f (stop blank a i + t.text.length) (acc ++ [t]) (by rw [h])
          rw [h] at hu
          simp only [List.append_assoc] at hu
          exact ⟨us, by simpa using List.append_cancel_left hu⟩
        obtain ⟨us, rfl⟩ := hin
        obtain ⟨j, k1, k2, k3⟩ := ih (stop blank a i + t.text.length) (acc ++ [t]) (acc' ++ [t]) us h3.2.2.2 (by omega) (by rw [h]; simp)
        refine ⟨j, k1, ?_, k3⟩
        rw [scanFrom_tok acc' (by rw [e]; simp; omega) (by rw [e, tokAt_pre a r b hb1 hb2 _ hlt]; exact ht), e, k2]
        simp
    · rename_i hge
      have := hs.2 hge
      have e0 : ts = [] := by
        simp only [Prod.mk.injEq, and_true] at h
        have h' : acc ++ [] = acc ++ ts := by simpa using h
        exact (List.append_cancel_left h').symm
      subst e0
      refine ⟨stop blank (a ++ b :: r) i, this, ?_, ?_⟩
      · rw [scanFrom_stop]; simp
      · have h5 := while_mid blank (a ++ b :: r) i (a.length + 1) (by omega) this
        exact h5
/-- One text behind another: the tokens of both. -/
theorem scan_two (a b : List UInt8) (ta tb : List Tk) (ha : scan a = (ta, 0, 0)) (hb : scan b = (tb, 0, 0)) (hl : a.length + b.length ≤ 5900) : ∃ tb', Alike tb tb' ∧ scan (a ++ 10 :: b) = (ta ++ tb', 0, 0) := by
  unfold scan at ha hb ⊢
  rw [if_neg (by omega)] at ha hb
  rw [if_neg (by simp; omega)]
  obtain ⟨j, _, k2, k3⟩ := scan_pre a b 10 rfl (a.length + 1) 0 [] [] ta (by omega) (by omega) (by simpa [scanFrom] using ha)
  rw [k2, ← k3, scanFrom_stop]
  obtain ⟨tb', h1, h2⟩ := scan_behind (a ++ [10]) b (b.length + 1) 0 [] ([] ++ ta) (by omega) tb (by omega) (by simpa [scanFrom] using hb)
  refine ⟨tb', h1, ?_⟩
  have e : a ++ 10 :: b = (a ++ [10]) ++ b := by simp
  rw [e]
  simpa using h2
end Go.Proofs.YthogejofkodmkacDoor
namespace Go.Proofs.YthogejofkodmkacDoor
theorem tokAt_sep (pre r : List UInt8) (b : UInt8) (hb : blank b = true) (t : Tk) (h : good t) : tokAt (pre ++ (t.text ++ b :: r)) pre.length = some ⟨pre.length, t.text, t.num, t.n⟩ ∧ ∃ c x, t.text ++ b :: r = c :: x ∧ blank c = false := by
  obtain ⟨hb1, hb2⟩ := sort_blank hb
  obtain ⟨pos, text, num, n⟩ := t
  simp only [good] at h
  simp only
  rcases h with ⟨h, rfl, rfl⟩ | ⟨h, h1, rfl, rfl⟩ | ⟨c, ds, h, h1, h2, h3, rfl⟩
  · rcases h with rfl | rfl
    · refine ⟨?_, 40, b :: r, rfl, rfl⟩
      rw [List.singleton_append, tokAt, get_app]
      simp only
      rw [if_pos (.inl rfl), cut_app]
      rfl
    · refine ⟨?_, 41, b :: r, rfl, rfl⟩
      rw [List.singleton_append, tokAt, get_app]
      simp only
      rw [if_pos (.inr rfl), cut_app]
      rfl
  · obtain ⟨c, x, rfl⟩ := List.exists_cons_of_ne_nil h
    have hc := h1 c (by simp)
    have hc2 : 97 ≤ c.toNat := by simp [letter, letterZ] at hc; omega
    refine ⟨?_, c, x ++ b :: r, rfl, ?_⟩
    · rw [tokAt, List.cons_append, get_app]
      simp only
      rw [if_neg (by omega), if_pos hc, ← List.cons_append, stop_app, while_app letter (c :: x) r b h1 hb1, cut_app, List.take_left]
    · simp [blank, blankZ]; omega
  · subst h
    have hc : 45 ≤ c.toNat ∧ c.toNat ≤ 57 := by
      rcases h1 with h | h
      · omega
      · simp [digit, digitZ] at h; omega
    refine ⟨?_, c, ds ++ b :: r, rfl, ?_⟩
    · rw [tokAt, List.cons_append, get_app]
      simp only
      rw [if_neg (by omega), if_neg (by simp [letter, letterZ]; omega), if_pos h1, numAt, stop_app1, while_app digit ds r b h2 hb2, Nat.add_assoc, cut_app, ← List.cons_append]
      rw [show 1 + ds.length = (c :: ds).length by simp; omega, List.take_left, h3]
      rfl
    · simp [blank, blankZ]; omega
/-- With blanks behind each. -/
def backS (s : List UInt8) (ts : List Tk) : List UInt8 := ts.flatMap fun t => t.text ++ s
theorem backS_app (s : List UInt8) (a b : List Tk) : backS s (a ++ b) = backS s a ++ backS s b := by simp [backS]
theorem backS_one (s : List UInt8) (t : Tk) : backS s [t] = t.text ++ s := by simp [backS]
theorem backS_len (s : List UInt8) (ts : List Tk) : (backS s ts).length = total ts + s.length * ts.length := by
  induction ts with
  | nil => rfl
  | cons t ts ih =>
    rw [show t :: ts = [t] ++ ts from rfl, backS_app, List.length_append, ih, total_app, backS_one, List.length_append]
    have : total [t] = t.text.length := by simp [total]
    rw [this, List.length_append, List.length_singleton, Nat.mul_add]; omega
theorem scan_skip (L : List UInt8) : ∀ (s pre x : List UInt8) (acc : List Tk), (∀ c ∈ s, blank c = true) → L = pre ++ (s ++ x) → scanFrom L pre.length acc = scanFrom L (pre.length + s.length) acc := by
  intro s
  induction s with
  | nil => intro pre x acc _ _; rfl
  | cons c s ih =>
    intro pre x acc h e
    have hL : L[pre.length]? = some c := by rw [e, List.cons_append, get_app]
    obtain ⟨hi, hc⟩ := List.getElem?_eq_some_iff.1 hL
    rw [scanFrom_blank acc hi (by rw [hc]; exact h c (by simp))]
    have := ih (pre ++ [c]) x acc (fun d hd => h d (by simp [hd])) (by rw [e]; simp)
    simp only [List.length_append, List.length_singleton] at this
    rw [this, List.length_cons]
    congr 1; omega
theorem scan_sep (b : UInt8) (s : List UInt8) (hs : ∀ c ∈ b :: s, blank c = true) : ∀ (ts : List Tk) (pre : List UInt8) (acc : List Tk), (∀ t ∈ ts, good t) → ∃ us, Alike ts us ∧ scanFrom (pre ++ backS (b :: s) ts) pre.length acc = (acc ++ us, 0, 0) := by
  intro ts
  induction ts with
  | nil =>
    intro pre acc _
    refine ⟨[], rfl, ?_⟩
    rw [scanFrom_end acc (by rw [stop_app]; simp [backS])]
    simp
  | cons t ts ih =>
    intro pre acc h
    have hb : backS (b :: s) (t :: ts) = t.text ++ b :: (s ++ backS (b :: s) ts) := by rw [show t :: ts = [t] ++ ts from rfl, backS_app, backS_one]; simp
    obtain ⟨h1, c, x, h2, h3⟩ := tokAt_sep pre (s ++ backS (b :: s) ts) b (hs b (by simp)) t (h t (by simp))
    rw [hb]
    have e0 : stop blank (pre ++ (t.text ++ b :: (s ++ backS (b :: s) ts))) pre.length = pre.length := by rw [stop_app, h2, List.takeWhile_cons, if_neg (by simp [h3])]; rfl
    rw [scanFrom_tok (t := ⟨pre.length, t.text, t.num, t.n⟩) acc (by rw [e0]; simp; omega) (by rw [e0]; exact h1), e0]
    simp only
    have e1 : pre ++ (t.text ++ b :: (s ++ backS (b :: s) ts)) = (pre ++ t.text) ++ ((b :: s) ++ backS (b :: s) ts) := by simp
    have e2 : pre ++ (t.text ++ b :: (s ++ backS (b :: s) ts)) = (pre ++ t.text ++ (b :: s)) ++ backS (b :: s) ts := by simp
    rw [← List.length_append, scan_skip _ (b :: s) (pre ++ t.text) _ _ hs e1, ← List.length_append, e2]
    obtain ⟨us, k1, k2⟩ := ih (pre ++ t.text ++ (b :: s)) (acc ++ [⟨pre.length, t.text, t.num, t.n⟩]) fun u hu => h u (by simp [hu])
    refine ⟨⟨pre.length, t.text, t.num, t.n⟩ :: us, ?_, ?_⟩
    · simp only [Alike, List.map_cons, bare] at k1 ⊢; rw [k1]
    · rw [k2]; simp
theorem from_alike {e e' : Int} {ts us : List Tk} {l : List V} (h : modFrom e [] ts = .ok (l, [])) (ha : Alike ts us) : modFrom e' [] us = .ok (l, []) := by
  obtain ⟨m, hm, h2⟩ := mod_join e e' _ [] [] ts l (Nat.lt_succ_self _) h us [] ha
  rw [List.append_nil] at h2
  rw [h2, modFrom_nil]
  simpa using hm.symm
theorem parse_of {l : List UInt8} {ts : List Tk} {m : List V} (hs : scan l = (ts, 0, 0)) (hm : modFrom (l.length : Int) [] ts = .ok (m, [])) : parseB l = if (modFault m).1 = 0 then (m, 0, 0) else ([], (modFault m).1, (modFault m).2) := by
  unfold parseB
  rw [hs]
  simp only
  rw [if_pos trivial]
  unfold parseT
  rw [hm]
/-- One text behind another. -/
theorem scanN_at (l : List UInt8) : ∀ (f i : Nat) (acc : List Tk), (scanN l f i acc).2.1 = 0 → (scanN l f i acc).2.2 = 0 := by
  intro f
  induction f with
  | zero => intro i acc _; rfl
  | succ f ih =>
    intro i acc h
    rw [scanN] at h ⊢
    split
    · rename_i hlt
      rw [if_pos hlt] at h
      cases ht : tokAt l (stop blank l i) with
      | none => rw [ht] at h; simp at h
      | some t => rw [ht] at h; exact ih _ _ h
    · rfl
theorem scan_at {l : List UInt8} (h : (scan l).2.1 = 0) : scan l = ((scan l).1, 0, 0) := by
  have h2 : (scan l).2.2 = 0 := by
    unfold scan at h ⊢
    split
    · rename_i h1; rw [if_pos h1] at h; simp at h
    · rename_i h1; rw [if_neg h1] at h; exact scanN_at l _ _ _ h
  exact Prod.ext rfl (Prod.ext h h2)
theorem parse_join (a b : List UInt8) (hl : a.length + b.length ≤ 5900) (ha : (parseB a).2.1 = 0) (hb : (parseB b).2.1 = 0) :
    parseB (a ++ 10 :: b) = if (modFault ((parseB a).1 ++ (parseB b).1)).1 = 0 then ((parseB a).1 ++ (parseB b).1, 0, 0) else ([], (modFault ((parseB a).1 ++ (parseB b).1)).1, (modFault ((parseB a).1 ++ (parseB b).1)).2) := by
  obtain ⟨a1, a2, _⟩ := parseB_ok ha
  obtain ⟨b1, b2, _⟩ := parseB_ok hb
  obtain ⟨tb, h1, h2⟩ := scan_two a b _ _ (scan_at a1) (scan_at b1) hl
  refine parse_of h2 ?_
  obtain ⟨m, hm, h3⟩ := mod_join (a.length : Int) ((a ++ 10 :: b).length : Int) _ [] [] _ _ (Nat.lt_succ_self _) a2 (scan a).1 tb rfl
  have h4 : m = (parseB a).1 := by simpa using hm.symm
  subst h4
  rw [h3]
  obtain ⟨m2, hm2, h5⟩ := mod_join (b.length : Int) ((a ++ 10 :: b).length : Int) _ [] ([] ++ (parseB a).1) _ _ (Nat.lt_succ_self _) b2 tb [] h1
  have h6 : m2 = (parseB b).1 := by simpa using hm2.symm
  subst h6
  rw [List.append_nil] at h5
  rw [h5, modFrom_nil]
  simp
/-- The same tokens with other blanks. -/
theorem parse_blank (l : List UInt8) (hl : l.length ≤ 1900) (h : (parseB l).2.1 = 0) :
    (9 :: backS [32, 10] (scan l).1).length ≤ 6000 ∧ (backS [13] (scan l).1).length ≤ 6000 ∧ parseB (9 :: backS [32, 10] (scan l).1) = ((parseB l).1, 0, 0) ∧ parseB (backS [13] (scan l).1) = ((parseB l).1, 0, 0) := by
  obtain ⟨h1, h2, h3, _⟩ := parseB_ok h
  have g1 := scan_good l
  have g2 := scan_total l
  have g3 := total_len g1
  have l1 := backS_len [32, 10] (scan l).1
  have l2 := backS_len [13] (scan l).1
  simp only [List.length_cons, List.length_nil] at l1 l2
  have m1 : (9 :: backS [32, 10] (scan l).1).length ≤ 6000 := by rw [List.length_cons]; omega
  have m2 : (backS [13] (scan l).1).length ≤ 6000 := by omega
  refine ⟨m1, m2, ?_, ?_⟩
  · obtain ⟨us, k1, k2⟩ := scan_sep 32 [10] (by decide) (scan l).1 [9] [] g1
    have k3 : scan (9 :: backS [32, 10] (scan l).1) = (us, 0, 0) := by
      rw [scan, if_neg (by omega), scanFrom_blank [] (by simp) (by rfl)]
      simpa using k2
    rw [parse_of k3 (from_alike h2 k1), if_pos h3]
  · obtain ⟨us, k1, k2⟩ := scan_sep 13 [] (by decide) (scan l).1 [] [] g1
    have k3 : scan (backS [13] (scan l).1) = (us, 0, 0) := by
      rw [scan, if_neg (by omega)]
      simpa using k2
    rw [parse_of k3 (from_alike h2 k1), if_pos h3]
end Go.Proofs.YthogejofkodmkacDoor
