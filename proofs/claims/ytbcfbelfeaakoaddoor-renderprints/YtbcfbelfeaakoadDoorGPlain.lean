/- Expressions as trees, in plain mathematics: how many, how deep, the same, the first fault. Tokens, plain mathematics: bytes, the tokens of a text, and that it does not matter how far the reckoning may go. The texts of tokens with blanks between are the same tokens again: plain mathematics. What tokens say: plain mathematics. The words; the expression that begins there; the module of a text. The text of a module, in plain mathematics; what is another module has another text. -/
import Derived.Lib.ParseIntB
import Derived.Lib.ItoaNum
namespace Go.Proofs.YtbcfbelfeaakoadDoor
/-- An expression: its kind, its K, its N, what is in it. -/
structure V where
  kind : Int
  k : Int
  n : Int
  l : List V
theorem V.ind' {P : V → Prop} (h : ∀ v : V, (∀ x ∈ v.l, P x) → P v) (v : V) : P v :=
  V.rec (motive_1 := P) (motive_2 := fun l => ∀ x ∈ l, P x) (fun k kk n l ih => h ⟨k, kk, n, l⟩ ih) (by simp) (fun a l h1 h2 => by simp only [List.mem_cons, forall_eq_or_imp]; exact ⟨h1, h2⟩) v
def V.size : V → Nat
  | ⟨_, _, _, l⟩ => 1 + sizes l
  where sizes : List V → Nat
    | [] => 0
    | v :: l => V.size v + sizes l
abbrev sizes (l : List V) : Nat := V.size.sizes l
theorem size_eq (v : V) : v.size = 1 + sizes v.l := by cases v; rw [V.size]
theorem sizes_nil : sizes [] = 0 := by simp only [sizes, V.size.sizes]
theorem sizes_cons (v : V) (l : List V) : sizes (v :: l) = v.size + sizes l := by simp only [sizes, V.size.sizes]
theorem sizes_append (a b : List V) : sizes (a ++ b) = sizes a + sizes b := by
  induction a with
  | nil => simp [sizes_nil]
  | cons x a ih => rw [List.cons_append, sizes_cons, sizes_cons, ih]; omega
theorem size_pos (v : V) : 1 ≤ v.size := by rw [size_eq]; omega
theorem sizes_one (v : V) : sizes [v] = v.size := by rw [sizes_cons, sizes_nil]; rfl
theorem sizes_len (l : List V) : l.length ≤ sizes l := by
  induction l with
  | nil => simp
  | cons x a ih => rw [sizes_cons, List.length_cons]; have := size_pos x; omega
theorem sizes_mem {l : List V} {v : V} (h : v ∈ l) : v.size ≤ sizes l := by
  induction l with
  | nil => simp at h
  | cons x a ih =>
    rw [sizes_cons]
    rcases List.mem_cons.1 h with rfl | h
    · omega
    · have := ih h; omega
theorem size_get (l : List V) (i : Nat) (h : i < l.length) : l[i].size ≤ sizes l := sizes_mem (List.getElem_mem h)
theorem sizes_take (l : List V) (i : Nat) (h : i < l.length) : sizes (l.take (i + 1)) = sizes (l.take i) + l[i].size := by
  rw [List.take_add_one, sizes_append, List.getElem?_eq_getElem h]
  simp [sizes_cons, sizes_nil]
theorem sizes_take_le (l : List V) (i : Nat) : sizes (l.take i) ≤ sizes l := by
  have h : sizes l = sizes (l.take i ++ l.drop i) := by rw [List.take_append_drop]
  rw [h, sizes_append]; omega

/-- The same? -/
def V.same : V → V → Bool
  | ⟨k, kk, n, l⟩, ⟨k', kk', n', l'⟩ => k == k' && kk == kk' && n == n' && sames l l'
  where sames : List V → List V → Bool
    | [], [] => true
    | a :: l, b :: l' => V.same a b && sames l l'
    | [], _ :: _ => false
    | _ :: _, [] => false
abbrev sames (a b : List V) : Bool := V.same.sames a b
theorem same_eq (v u : V) : v.same u = (v.kind == u.kind && v.k == u.k && v.n == u.n && sames v.l u.l) := by cases v; cases u; rw [V.same]
theorem sames_cons (a b : V) (l l' : List V) : sames (a :: l) (b :: l') = (a.same b && sames l l') := by simp only [sames, V.same.sames]
theorem v_ext {x y : V} : x = y ↔ (x.kind = y.kind ∧ x.k = y.k ∧ x.n = y.n) ∧ x.l = y.l := by cases x; cases y; simp [and_assoc]
theorem same_iff (v : V) : ∀ u, v.same u = true ↔ v = u := by
  induction v using V.ind' with
  | h v ih =>
    intro u
    have key : ∀ (a b : List V), (∀ x ∈ a, ∀ u, x.same u = true ↔ x = u) → (sames a b = true ↔ a = b) := by
      intro a
      induction a with
      | nil => intro b _; cases b <;> simp [sames, V.same.sames]
      | cons x a iha =>
        intro b hx
        cases b with
        | nil => simp [sames, V.same.sames]
        | cons y b =>
          rw [sames_cons, Bool.and_eq_true, hx x (by simp) y, iha b fun z hz => hx z (by simp [hz])]
          simp
    rw [same_eq, Bool.and_eq_true, key v.l u.l ih, v_ext]
    simp [and_assoc]
theorem same_refl (v : V) : v.same v = true := (same_iff v v).2 rfl
theorem sames_iff (a b : List V) : sames a b = true ↔ a = b := by
  induction a generalizing b with
  | nil => cases b <;> simp [sames, V.same.sames]
  | cons x a ih =>
    cases b with
    | nil => simp [sames, V.same.sames]
    | cons y b => rw [sames_cons, Bool.and_eq_true, same_iff, ih]; simp
theorem sames_true {a b : List V} (h : a = b) : sames a b = true := (sames_iff a b).2 h
theorem sames_false {a b : List V} (h : ¬ a = b) : sames a b = false := by
  cases e : sames a b with
  | false => rfl
  | true => exact absurd ((sames_iff a b).1 e) h
theorem same_true {v u : V} (h : v = u) : v.same u = true := (same_iff v u).2 h
theorem same_false {v u : V} (h : ¬ v = u) : v.same u = false := by
  cases e : v.same u with
  | false => rfl
  | true => exact absurd ((same_iff v u).1 e) h
theorem take_eq {a b : List V} (hl : a.length = b.length) (j : Nat) (hj : j < a.length) : (a.take (j + 1) = b.take (j + 1)) ↔ (a.take j = b.take j ∧ a[j] = b[j]'(hl ▸ hj)) := by
  rw [List.take_add_one, List.take_add_one, List.getElem?_eq_getElem hj, List.getElem?_eq_getElem (hl ▸ hj)]
  constructor
  · intro h
    obtain ⟨h1, h2⟩ := List.append_inj h (by simp; omega)
    exact ⟨h1, by simpa using h2⟩
  · rintro ⟨h1, h2⟩; rw [h1, h2]

/-- How deep expressions stand in one. -/
def V.deep : V → Nat
  | ⟨_, _, _, l⟩ => deeps l
  where deeps : List V → Nat
    | [] => 0
    | v :: l => max (1 + V.deep v) (deeps l)
abbrev deeps (l : List V) : Nat := V.deep.deeps l
theorem deep_eq (v : V) : v.deep = deeps v.l := by cases v; rw [V.deep]
theorem deeps_nil : deeps [] = 0 := by simp only [deeps, V.deep.deeps]
theorem deeps_cons (v : V) (l : List V) : deeps (v :: l) = max (1 + v.deep) (deeps l) := by simp only [deeps, V.deep.deeps]
theorem deeps_append (a b : List V) : deeps (a ++ b) = max (deeps a) (deeps b) := by
  induction a with
  | nil => simp [deeps_nil]
  | cons x a ih => rw [List.cons_append, deeps_cons, deeps_cons, ih]; omega
theorem deeps_take (l : List V) (i : Nat) (h : i < l.length) : deeps (l.take (i + 1)) = max (deeps (l.take i)) (1 + deeps l[i].l) := by
  rw [List.take_add_one, deeps_append, List.getElem?_eq_getElem h]
  simp [deeps_cons, deeps_nil, deep_eq]
theorem deeps_take_le (l : List V) (i : Nat) : deeps (l.take i) ≤ deeps l := by
  have h : deeps l = deeps (l.take i ++ l.drop i) := by rw [List.take_append_drop]
  rw [h, deeps_append]; omega
theorem deeps_pos {l : List V} (h : l ≠ []) : 1 ≤ deeps l := by
  cases l with
  | nil => exact absurd rfl h
  | cons v l => rw [deeps_cons]; omega
theorem deeps_zero {l : List V} : deeps l = 0 ↔ l = [] := by
  constructor
  · intro h; cases l with
    | nil => rfl
    | cons v l => rw [deeps_cons] at h; omega
  · rintro rfl; exact deeps_nil
theorem deeps_one (v : V) : deeps [v] = 1 + v.deep := by rw [deeps_cons, deeps_nil]; omega

/-- How many are in one of a kind. -/
def partsI (k : Int) : Int :=
  if k = 7 then 3 else if k = 5 ∨ k = 6 ∨ k = 8 ∨ k = 14 ∨ k = 19 then 2
  else if k = 9 ∨ k = 10 ∨ k = 11 ∨ k = 12 ∨ k = 13 ∨ k = 15 ∨ k = 16 ∨ k = 17 ∨ k = 18 ∨ k = 20 then 1
  else if k = 1 ∨ k = 2 ∨ k = 3 ∨ k = 4 ∨ k = 21 then 0 else -1
/-- What is wrong with K. -/
def faultK (F kind k o : Int) : Int :=
  if kind = 4 then (if 0 ≤ k ∧ k < o then 0 else 1)
  else if kind = 6 then (if 1 ≤ k ∧ k ≤ 5 then 0 else 1)
  else if kind = 15 then (if 0 ≤ k ∧ k ≤ 15 then 0 else 1)
  else if kind = 18 then (if 0 ≤ k ∧ k < F then 0 else 1)
  else if k = 0 then 0 else 5
/-- What is wrong with an expression by itself, among so many functions, with so many names open. -/
def fault1 (F : Int) (v : V) (o : Int) : Int :=
  if partsI v.kind < 0 then 2 else if (v.l.length : Int) ≠ partsI v.kind then 5 else if v.n ≠ 0 ∧ v.kind ≠ 2 then 5
  else if faultK F v.kind v.k o ≠ 0 then faultK F v.kind v.k o else if v.kind = 5 ∧ 12 ≤ o then 3 else 0
/-- How many names are open in the one at a place. -/
def opens (kind o : Int) (i : Nat) : Int := if kind = 5 ∧ i = 1 then o + 1 else o
/-- The first fault, outer ones first, from the left. -/
def V.bad (F : Int) : V → Int → Int
  | ⟨kind, k, n, l⟩, o => if fault1 F ⟨kind, k, n, l⟩ o = 0 then bads kind l 0 o else fault1 F ⟨kind, k, n, l⟩ o
  where bads (kind : Int) : List V → Nat → Int → Int
    | [], _, _ => 0
    | v :: l, i, o => if V.bad F v (opens kind o i) = 0 then bads kind l (i + 1) o else V.bad F v (opens kind o i)
abbrev bads (F kind : Int) (l : List V) (i : Nat) (o : Int) : Int := V.bad.bads F kind l i o
theorem bad_eq (F : Int) (v : V) (o : Int) : v.bad F o = if fault1 F v o = 0 then bads F v.kind v.l 0 o else fault1 F v o := by cases v; rw [V.bad]
theorem bads_nil (F kind : Int) (i : Nat) (o : Int) : bads F kind [] i o = 0 := by simp only [bads, V.bad.bads]
theorem bads_cons (F kind : Int) (v : V) (l : List V) (i : Nat) (o : Int) : bads F kind (v :: l) i o = if v.bad F (opens kind o i) = 0 then bads F kind l (i + 1) o else v.bad F (opens kind o i) := by simp only [bads, V.bad.bads]
/-- A module's fault in one function. -/
def fun1 (F : Int) (v : V) : Int := if 30 < v.deep then 4 else if 120 < v.size then 3 else v.bad F 0
/-- The first function with a fault: its code, its number. -/
def funs (F : Int) : List V → Nat → Int × Int
  | [], _ => (0, 0)
  | v :: l, i => if fun1 F v = 0 then funs F l (i + 1) else (fun1 F v, (i : Int))
/-- A module's fault. -/
def modFault (l : List V) : Int × Int := if l.length < 1 ∨ 6 < l.length then (3, -1) else funs (l.length : Int) l 0
end Go.Proofs.YtbcfbelfeaakoadDoor
namespace Go.Proofs.YtbcfbelfeaakoadDoor
/-- The bytes between tokens. -/
def blankZ (z : Int) : Bool := z == 32 || z == 9 || z == 10 || z == 13
def letterZ (z : Int) : Bool := decide (97 ≤ z) && decide (z ≤ 122)
def digitZ (z : Int) : Bool := decide (48 ≤ z) && decide (z ≤ 57)
def blank (c : UInt8) : Bool := blankZ c.toNat
def letter (c : UInt8) : Bool := letterZ c.toNat
def digit (c : UInt8) : Bool := digitZ c.toNat
/-- The first byte from there on that is not of a sort. -/
def stop (p : UInt8 → Bool) (l : List UInt8) (i : Nat) : Nat := i + ((l.drop i).takeWhile p).length
/-- A piece of a text. -/
def cut (l : List UInt8) (a b : Nat) : List UInt8 := (l.take b).drop a
theorem takeWhile_len {α : Type} (p : α → Bool) (l : List α) : (l.takeWhile p).length ≤ l.length := by
  induction l with
  | nil => simp
  | cons a l ih => rw [List.takeWhile_cons]; split <;> simp <;> omega
theorem stop_le (p : UInt8 → Bool) (l : List UInt8) (i : Nat) (h : i ≤ l.length) : stop p l i ≤ l.length := by
  have := takeWhile_len p (l.drop i)
  rw [List.length_drop] at this
  unfold stop; omega
theorem le_stop (p : UInt8 → Bool) (l : List UInt8) (i : Nat) : i ≤ stop p l i := Nat.le_add_right _ _
theorem stop_yes (p : UInt8 → Bool) (l : List UInt8) (i : Nat) (h : i < l.length) (hp : p l[i] = true) : stop p l i = stop p l (i + 1) := by
  unfold stop
  rw [List.drop_eq_getElem_cons h, List.takeWhile_cons, if_pos hp]
  simp; omega
theorem stop_no (p : UInt8 → Bool) (l : List UInt8) (i : Nat) (h : i < l.length) (hp : p l[i] = false) : stop p l i = i := by
  unfold stop
  rw [List.drop_eq_getElem_cons h, List.takeWhile_cons, if_neg (by simp [hp])]
  rfl
theorem stop_end (p : UInt8 → Bool) (l : List UInt8) (i : Nat) (h : l.length ≤ i) : stop p l i = i := by
  unfold stop
  rw [List.drop_of_length_le h]; rfl
theorem while_at {α : Type} (p : α → Bool) (m : List α) (h : (m.takeWhile p).length < m.length) : p (m[(m.takeWhile p).length]) = false := by
  induction m with
  | nil => simp at h
  | cons a m ih =>
    cases hp : p a with
    | false => simp [hp]
    | true =>
      have e : (a :: m).takeWhile p = a :: m.takeWhile p := by rw [List.takeWhile_cons, if_pos hp]
      have h' : (m.takeWhile p).length < m.length := by rw [e] at h; simpa using h
      have := ih h'
      simp only [e, List.length_cons, List.getElem_cons_succ]
      exact this
theorem stop_at (p : UInt8 → Bool) (l : List UInt8) (i : Nat) (hs : stop p l i < l.length) : p l[stop p l i] = false := by
  have h : ((l.drop i).takeWhile p).length < (l.drop i).length := by rw [List.length_drop]; unfold stop at hs; omega
  have := while_at p (l.drop i) h
  rw [List.getElem_drop] at this
  exact this
theorem stop_stop (p : UInt8 → Bool) (l : List UInt8) (i : Nat) : stop p l (stop p l i) = stop p l i := by
  by_cases hs : stop p l i < l.length
  · exact stop_no p l _ hs (stop_at p l i hs)
  · exact stop_end p l _ (by omega)
theorem cut_len (l : List UInt8) (a b : Nat) (hb : b ≤ l.length) : (cut l a b).length = b - a := by
  unfold cut; rw [List.length_drop, List.length_take]; omega
/-- A number of 64 bits, as short as can be. -/
def longOf (t : List UInt8) : Option Int := match Lib.parseIntB 64 t with
  | .ok n => if Lib.itoa n = t then some n else none
  | _ => none
/-- A token. -/
structure Tk where
  pos : Nat
  text : List UInt8
  num : Bool
  n : Int
/-- The number that begins there. -/
def numAt (l : List UInt8) (i : Nat) : Option Tk := (longOf (cut l i (stop digit l (i + 1)))).map fun n => ⟨i, cut l i (stop digit l (i + 1)), true, n⟩
/-- The token that begins there. -/
def tokAt (l : List UInt8) (i : Nat) : Option Tk := match l[i]? with
  | none => none
  | some c =>
    if c.toNat = 40 ∨ c.toNat = 41 then some ⟨i, cut l i (i + 1), false, 0⟩
    else if letter c then some ⟨i, cut l i (stop letter l i), false, 0⟩
    else if c.toNat = 45 ∨ digit c = true then numAt l i
    else none
theorem tokAt_some {l : List UInt8} {i : Nat} {t : Tk} (h : tokAt l i = some t) : i < l.length ∧ t.pos = i ∧ 1 ≤ t.text.length ∧ i + t.text.length ≤ l.length := by
  unfold tokAt at h
  by_cases hi : i < l.length
  · rw [List.getElem?_eq_getElem hi] at h
    simp only at h
    split at h
    · cases h
      refine ⟨hi, rfl, ?_, ?_⟩ <;> simp only <;> rw [cut_len l i (i + 1) hi] <;> omega
    · split at h
      · rename_i hl
        cases h
        have e := stop_yes letter l i hi hl
        have h1 := le_stop letter l (i + 1)
        have h2 := stop_le letter l i (by omega)
        refine ⟨hi, rfl, ?_, ?_⟩ <;> simp only <;> rw [cut_len _ _ _ h2] <;> omega
      · split at h
        · unfold numAt at h
          obtain ⟨n, _, rfl⟩ := Option.map_eq_some_iff.1 h
          have h1 := le_stop digit l (i + 1)
          have h2 := stop_le digit l (i + 1) (by omega)
          refine ⟨hi, rfl, ?_, ?_⟩ <;> simp only <;> rw [cut_len _ _ _ h2] <;> omega
        · cases h
  · rw [List.getElem?_eq_none (by omega)] at h; cases h
/-- The tokens from there on, behind those that are told; or the fault. -/
def scanN (l : List UInt8) : Nat → Nat → List Tk → List Tk × Int × Int
  | 0, _, acc => (acc, 0, 0)
  | f + 1, i, acc =>
    if stop blank l i < l.length then
      match tokAt l (stop blank l i) with
      | none => (([], 7, ((stop blank l i : Nat) : Int)) : List Tk × Int × Int)
      | some t => scanN l f (stop blank l i + t.text.length) (acc ++ [t])
    else (acc, 0, 0)
theorem scanN_more (l : List UInt8) : ∀ (f g i : Nat) (acc : List Tk), l.length < f + i → l.length < g + i → scanN l f i acc = scanN l g i acc := by
  intro f
  induction f with
  | zero =>
    intro g i acc hf hg
    cases g with
    | zero => rfl
    | succ g => have := le_stop blank l i; rw [scanN, scanN, if_neg (by omega)]
  | succ f ih =>
    intro g i acc hf hg
    cases g with
    | zero => have := le_stop blank l i; rw [scanN, scanN, if_neg (by omega)]
    | succ g =>
      rw [scanN, scanN]
      split
      · cases ht : tokAt l (stop blank l i) with
        | none => rfl
        | some t =>
          have h1 := tokAt_some ht
          have h2 := le_stop blank l i
          exact ih g _ _ (by omega) (by omega)
      · rfl
def scanFrom (l : List UInt8) (i : Nat) (acc : List Tk) : List Tk × Int × Int := scanN l (l.length + 1) i acc
theorem scanFrom_eq (l : List UInt8) (i : Nat) (acc : List Tk) : scanFrom l i acc =
    (if stop blank l i < l.length then
      match tokAt l (stop blank l i) with
      | none => (([], 7, ((stop blank l i : Nat) : Int)) : List Tk × Int × Int)
      | some t => scanFrom l (stop blank l i + t.text.length) (acc ++ [t])
    else (acc, 0, 0) : List Tk × Int × Int) := by
  unfold scanFrom
  rw [scanN]
  split
  · cases ht : tokAt l (stop blank l i) with
    | none => rfl
    | some t =>
      have h1 := tokAt_some ht
      exact scanN_more l _ _ _ _ (by omega) (by omega)
  · rfl
theorem scanFrom_end {l : List UInt8} {i : Nat} (acc : List Tk) (h : l.length ≤ stop blank l i) : scanFrom l i acc = (acc, 0, 0) := by
  rw [scanFrom_eq, if_neg (by omega)]
theorem scanFrom_bad {l : List UInt8} {i : Nat} (acc : List Tk) (h : stop blank l i < l.length) (ht : tokAt l (stop blank l i) = none) : scanFrom l i acc = ([], 7, ((stop blank l i : Nat) : Int)) := by
  rw [scanFrom_eq, if_pos h, ht]
theorem scanFrom_tok {l : List UInt8} {i : Nat} (acc : List Tk) {t : Tk} (h : stop blank l i < l.length) (ht : tokAt l (stop blank l i) = some t) : scanFrom l i acc = scanFrom l (stop blank l i + t.text.length) (acc ++ [t]) := by
  rw [scanFrom_eq, if_pos h, ht]
theorem scanFrom_stop (l : List UInt8) (i : Nat) (acc : List Tk) : scanFrom l (stop blank l i) acc = scanFrom l i acc := by
  rw [scanFrom_eq, stop_stop, ← scanFrom_eq]
theorem scanFrom_blank {l : List UInt8} {i : Nat} (acc : List Tk) (h : i < l.length) (hb : blank l[i] = true) : scanFrom l i acc = scanFrom l (i + 1) acc := by
  rw [← scanFrom_stop l i, stop_yes blank l i h hb, scanFrom_stop]
/-- What is told of a text: its tokens, or a code and a place. -/
def scan (l : List UInt8) : List Tk × Int × Int := if 6000 < l.length then ([], 3, 6000) else scanFrom l 0 []
end Go.Proofs.YtbcfbelfeaakoadDoor
namespace Go.Proofs.YtbcfbelfeaakoadDoor
/-- What a token is. -/
def good (t : Tk) : Prop :=
  ((t.text = [40] ∨ t.text = [41]) ∧ t.num = false ∧ t.n = 0) ∨ (t.text ≠ [] ∧ (∀ c ∈ t.text, letter c = true) ∧ t.num = false ∧ t.n = 0) ∨
  (∃ c ds, t.text = c :: ds ∧ (c.toNat = 45 ∨ digit c = true) ∧ (∀ d ∈ ds, digit d = true) ∧ longOf t.text = some t.n ∧ t.num = true)
theorem while_take {α : Type} (p : α → Bool) (m : List α) : m.take (m.takeWhile p).length = m.takeWhile p := by
  induction m with
  | nil => rfl
  | cons a m ih =>
    rw [List.takeWhile_cons]
    split
    · simp [ih]
    · rfl
theorem while_all {α : Type} (p : α → Bool) (m : List α) : ∀ c ∈ m.takeWhile p, p c = true := by
  induction m with
  | nil => intro c hc; cases hc
  | cons a m ih =>
    rw [List.takeWhile_cons]
    split
    · rename_i h
      intro c hc
      rcases List.mem_cons.1 hc with rfl | hc
      · exact h
      · exact ih c hc
    · intro c hc; cases hc
theorem while_app {α : Type} (p : α → Bool) (m r : List α) (b : α) (h : ∀ c ∈ m, p c = true) (hb : p b = false) : (m ++ b :: r).takeWhile p = m := by
  induction m with
  | nil => simp [hb]
  | cons a m ih =>
    rw [List.cons_append, List.takeWhile_cons, if_pos (h a (by simp)), ih fun c hc => h c (by simp [hc])]
theorem cut_drop (l : List UInt8) (a n : Nat) : cut l a (a + n) = (l.drop a).take n := by
  unfold cut; rw [List.drop_take]; congr 1; omega
theorem cut_stop (p : UInt8 → Bool) (l : List UInt8) (i : Nat) : cut l i (stop p l i) = (l.drop i).takeWhile p := by
  unfold stop; rw [cut_drop, while_take]
theorem cut_stop1 (p : UInt8 → Bool) (l : List UInt8) (i : Nat) (hi : i < l.length) : cut l i (stop p l (i + 1)) = l[i] :: (l.drop (i + 1)).takeWhile p := by
  unfold stop
  rw [show i + 1 + ((l.drop (i + 1)).takeWhile p).length = i + (1 + ((l.drop (i + 1)).takeWhile p).length) by omega, cut_drop, List.drop_eq_getElem_cons hi, Nat.add_comm 1, List.take_succ_cons, while_take]
theorem tokAt_good {l : List UInt8} {i : Nat} {t : Tk} (h : tokAt l i = some t) : good t := by
  have hi := (tokAt_some h).1
  unfold tokAt at h
  rw [List.getElem?_eq_getElem hi] at h
  simp only at h
  split at h
  · rename_i hc
    cases h
    refine .inl ⟨?_, rfl, rfl⟩
    simp only
    rw [cut_drop, List.drop_eq_getElem_cons hi, List.take_succ_cons, List.take_zero]
    rcases hc with hc | hc
    · exact .inl (by rw [show l[i] = 40 from UInt8.toNat_inj.1 hc])
    · exact .inr (by rw [show l[i] = 41 from UInt8.toNat_inj.1 hc])
  · split at h
    · rename_i hc
      cases h
      refine .inr (.inl ⟨?_, ?_, rfl, rfl⟩)
      · simp only
        rw [cut_stop, List.drop_eq_getElem_cons hi, List.takeWhile_cons, if_pos hc]
        simp
      · simp only
        rw [cut_stop]
        exact while_all _ _
    · split at h
      · rename_i hc
        unfold numAt at h
        obtain ⟨n, hn, rfl⟩ := Option.map_eq_some_iff.1 h
        refine .inr (.inr ⟨l[i], (l.drop (i + 1)).takeWhile digit, ?_, hc, while_all _ _, hn, rfl⟩)
        exact cut_stop1 digit l i hi
      · cases h
theorem scanN_good (l : List UInt8) : ∀ (f i : Nat) (acc : List Tk), (∀ t ∈ acc, good t) → ∀ t ∈ (scanN l f i acc).1, good t := by
  intro f
  induction f with
  | zero => intro i acc h; exact h
  | succ f ih =>
    intro i acc h
    rw [scanN]
    split
    · cases ht : tokAt l (stop blank l i) with
      | none => intro t h; cases h
      | some t =>
        refine ih _ _ fun u hu => ?_
        rcases List.mem_append.1 hu with hu | hu
        · exact h u hu
        · rw [List.mem_singleton.1 hu]; exact tokAt_good ht
    · exact h
/-- How long the texts are together. -/
def total (ts : List Tk) : Nat := (ts.map fun t => t.text.length).sum
theorem total_app (a b : List Tk) : total (a ++ b) = total a + total b := by simp [total]
theorem scanN_total (l : List UInt8) : ∀ (f i : Nat) (acc : List Tk), i ≤ l.length → total acc ≤ i → total (scanN l f i acc).1 ≤ l.length := by
  intro f
  induction f with
  | zero => intro i acc h1 h2; exact Nat.le_trans h2 h1
  | succ f ih =>
    intro i acc h1 h2
    rw [scanN]
    split
    · cases ht : tokAt l (stop blank l i) with
      | none => exact Nat.zero_le _
      | some t =>
        have h3 := tokAt_some ht
        have h4 := le_stop blank l i
        refine ih _ _ h3.2.2.2 ?_
        rw [total_app]
        have : total [t] = t.text.length := by simp [total]
        omega
    · exact Nat.le_trans h2 h1
theorem scan_good (l : List UInt8) : ∀ t ∈ (scan l).1, good t := by
  unfold scan
  split
  · intro t h; cases h
  · exact scanN_good l _ _ _ fun t h => by cases h
theorem scan_total (l : List UInt8) : total (scan l).1 ≤ l.length := by
  unfold scan
  split
  · exact Nat.zero_le _
  · exact scanN_total l _ _ _ (Nat.zero_le _) (Nat.le_refl _)
theorem good_len {t : Tk} (h : good t) : 1 ≤ t.text.length := by
  rcases h with ⟨h | h, _⟩ | ⟨h, _⟩ | ⟨c, ds, h, _⟩
  · rw [h]; decide
  · rw [h]; decide
  · exact List.length_pos_iff.2 h
  · rw [h]; simp
/-- With blanks between. -/
def back (ts : List Tk) : List UInt8 := ts.flatMap fun t => t.text ++ [32, 10]
theorem back_app (a b : List Tk) : back (a ++ b) = back a ++ back b := by simp [back]
theorem back_one (t : Tk) : back [t] = t.text ++ [32, 10] := by simp [back]
theorem back_len (ts : List Tk) : (back ts).length = total ts + 2 * ts.length := by
  induction ts with
  | nil => rfl
  | cons t ts ih =>
    rw [show t :: ts = [t] ++ ts from rfl, back_app, List.length_append, ih, total_app, back_one]
    simp [total]; omega
theorem total_len {ts : List Tk} (h : ∀ t ∈ ts, good t) : ts.length ≤ total ts := by
  induction ts with
  | nil => exact Nat.zero_le _
  | cons t ts ih =>
    have h1 := good_len (h t (by simp))
    have h2 := ih fun u hu => h u (by simp [hu])
    rw [show t :: ts = [t] ++ ts from rfl, total_app]
    have : total [t] = t.text.length := by simp [total]
    simp; omega
/-- The same tokens, where they stand then. -/
def shift : Nat → List Tk → List Tk
  | _, [] => []
  | p, t :: ts => ⟨p, t.text, t.num, t.n⟩ :: shift (p + t.text.length + 2) ts
theorem shift_len (ts : List Tk) : ∀ p, (shift p ts).length = ts.length := by
  induction ts with
  | nil => intro p; rfl
  | cons t ts ih => intro p; rw [shift, List.length_cons, List.length_cons, ih]
theorem shift_get (ts : List Tk) : ∀ p i (h : i < ts.length) (h' : i < (shift p ts).length), (shift p ts)[i].text = ts[i].text ∧ (shift p ts)[i].num = ts[i].num ∧ (shift p ts)[i].n = ts[i].n := by
  induction ts with
  | nil => intro p i h; simp at h
  | cons t ts ih =>
    intro p i h h'
    cases i with
    | zero => exact ⟨rfl, rfl, rfl⟩
    | succ i => exact ih _ i (by simpa using h) (by simpa [shift] using h')
theorem stop_app (p : UInt8 → Bool) (pre x : List UInt8) : stop p (pre ++ x) pre.length = pre.length + (x.takeWhile p).length := by
  unfold stop; rw [List.drop_left]
theorem stop_app1 (p : UInt8 → Bool) (pre : List UInt8) (c : UInt8) (x : List UInt8) : stop p (pre ++ c :: x) (pre.length + 1) = pre.length + 1 + (x.takeWhile p).length := by
  unfold stop
  rw [show pre ++ c :: x = (pre ++ [c]) ++ x by simp, show pre.length + 1 = (pre ++ [c]).length by simp, List.drop_left]
theorem cut_app (pre x : List UInt8) (n : Nat) : cut (pre ++ x) pre.length (pre.length + n) = x.take n := by rw [cut_drop, List.drop_left]
theorem get_app (pre : List UInt8) (c : UInt8) (x : List UInt8) : (pre ++ c :: x)[pre.length]? = some c := by simp
/-- A token's text, and a blank behind it, is that token. -/
theorem tokAt_back (pre r : List UInt8) (t : Tk) (h : good t) : tokAt (pre ++ (t.text ++ 32 :: r)) pre.length = some ⟨pre.length, t.text, t.num, t.n⟩ ∧ ∃ c x, t.text ++ 32 :: r = c :: x ∧ blank c = false := by
  obtain ⟨pos, text, num, n⟩ := t
  simp only [good] at h
  simp only
  rcases h with ⟨h, rfl, rfl⟩ | ⟨h, h1, rfl, rfl⟩ | ⟨c, ds, h, h1, h2, h3, rfl⟩
  · rcases h with rfl | rfl
    · refine ⟨?_, 40, 32 :: r, rfl, rfl⟩
      rw [List.singleton_append, tokAt, get_app]
      simp only
      rw [if_pos (.inl rfl), cut_app]
      rfl
    · refine ⟨?_, 41, 32 :: r, rfl, rfl⟩
      rw [List.singleton_append, tokAt, get_app]
      simp only
      rw [if_pos (.inr rfl), cut_app]
      rfl
  · obtain ⟨c, x, rfl⟩ := List.exists_cons_of_ne_nil h
    have hc := h1 c (by simp)
    have hc2 : 97 ≤ c.toNat := by simp [letter, letterZ] at hc; omega
    refine ⟨?_, c, x ++ 32 :: r, rfl, ?_⟩
    · rw [tokAt, List.cons_append, get_app]
      simp only
      rw [if_neg (by omega), if_pos hc, ← List.cons_append, stop_app, while_app letter (c :: x) r 32 h1 rfl, cut_app, List.take_left]
    · simp [blank, blankZ]; omega
  · subst h
    have hc : 45 ≤ c.toNat ∧ c.toNat ≤ 57 := by
      rcases h1 with h | h
      · omega
      · simp [digit, digitZ] at h; omega
    refine ⟨?_, c, ds ++ 32 :: r, rfl, ?_⟩
    · rw [tokAt, List.cons_append, get_app]
      simp only
      rw [if_neg (by omega), if_neg (by simp [letter, letterZ]; omega), if_pos h1, numAt, stop_app1, while_app digit ds r 32 h2 rfl, Nat.add_assoc, cut_app, ← List.cons_append]
      rw [show 1 + ds.length = (c :: ds).length by simp; omega, List.take_left, h3]
      rfl
    · simp [blank, blankZ]; omega
theorem scan_back (ts : List Tk) : ∀ (pre : List UInt8) (acc : List Tk), (∀ t ∈ ts, good t) → scanFrom (pre ++ back ts) pre.length acc = (acc ++ shift pre.length ts, 0, 0) := by
  induction ts with
  | nil =>
    intro pre acc _
    rw [scanFrom_end acc (by rw [stop_app]; simp [back])]
    simp [shift]
  | cons t ts ih =>
    intro pre acc h
    have hb : back (t :: ts) = t.text ++ 32 :: (10 :: back ts) := by rw [show t :: ts = [t] ++ ts from rfl, back_app, back_one]; simp
    obtain ⟨h1, c, x, h2, h3⟩ := tokAt_back pre (10 :: back ts) t (h t (by simp))
    rw [hb]
    have hs : stop blank (pre ++ (t.text ++ 32 :: (10 :: back ts))) pre.length = pre.length := by rw [stop_app, h2, List.takeWhile_cons, if_neg (by simp [h3])]; rfl
    rw [scanFrom_tok (t := ⟨pre.length, t.text, t.num, t.n⟩) acc (by rw [hs]; simp; omega) (by rw [hs]; exact h1), hs]
    simp only
    have e1 : pre ++ (t.text ++ 32 :: (10 :: back ts)) = (pre ++ t.text) ++ 32 :: (10 :: back ts) := by simp
    have e2 : pre ++ (t.text ++ 32 :: (10 :: back ts)) = (pre ++ t.text ++ [32]) ++ 10 :: back ts := by simp
    have e3 : pre ++ (t.text ++ 32 :: (10 :: back ts)) = (pre ++ t.text ++ [32, 10]) ++ back ts := by simp
    have g : ∀ (L : List UInt8) (i : Nat) (b : UInt8) (a : List Tk), L[i]? = some b → blank b = true → scanFrom L i a = scanFrom L (i + 1) a := by
      intro L i b a hL hb
      obtain ⟨hi, rfl⟩ := List.getElem?_eq_some_iff.1 hL
      exact scanFrom_blank a hi hb
    rw [g _ _ 32 _ (by rw [e1, ← List.length_append, get_app]) rfl]
    rw [g _ _ 10 _ (by rw [e2, show pre.length + t.text.length + 1 = (pre ++ t.text ++ [32]).length by simp; omega, get_app]) rfl]
    rw [e3, show pre.length + t.text.length + 1 + 1 = (pre ++ t.text ++ [32, 10]).length by simp; omega, ih _ _ fun u hu => h u (by simp [hu])]
    simp [shift, Nat.add_assoc]
theorem scan_of_back (l : List UInt8) (hl : l.length ≤ 2000) : (back (scan l).1).length ≤ 6000 ∧ scan (back (scan l).1) = (shift 0 (scan l).1, 0, 0) := by
  have h1 := scan_good l
  have h2 := scan_total l
  have h3 := total_len h1
  have h4 := back_len (scan l).1
  have h5 : (back (scan l).1).length ≤ 6000 := by omega
  refine ⟨h5, ?_⟩
  rw [scan, if_neg (by omega)]
  have := scan_back (scan l).1 [] [] h1
  simpa using this
end Go.Proofs.YtbcfbelfeaakoadDoor
namespace Go.Proofs.YtbcfbelfeaakoadDoor
/-- The words of the kinds from 1 on; those of the arithmetics. -/
def wordL : List (List UInt8) := [[110, 105, 108], [110, 117, 109], [97, 114, 103], [118, 97, 114], [108, 101, 116], [98, 105, 110], [105, 102], [112, 97, 105, 114], [102, 115, 116], [115, 110, 100], [115, 101, 97, 108], [111, 112, 101, 110], [114, 101, 97, 100], [119, 114, 105, 116, 101], [110, 97, 114, 114, 111, 119], [119, 114, 97, 112], [99, 117, 116], [99, 97, 108, 108], [97, 115, 107], [107, 101, 101, 112], [107, 101, 112, 116]]
def binL : List (List UInt8) := [[97, 100, 100], [115, 117, 98], [109, 117, 108], [108, 101, 115, 115], [101, 113]]
/-- The word of a kind; none: empty. -/
def nameIn (L : List (List UInt8)) (k : Int) : List UInt8 := if 1 ≤ k then (L[(k - 1).toNat]?).getD [] else []
/-- The kind of a word; none: 0. -/
def kindIn (L : List (List UInt8)) (t : List UInt8) : Nat := if t ∈ L then L.idxOf t + 1 else 0
theorem kind_le (L : List (List UInt8)) (t : List UInt8) : kindIn L t ≤ L.length := by
  unfold kindIn
  split
  · rename_i h; have := List.idxOf_lt_length_of_mem h; omega
  · omega
theorem name_at (L : List (List UInt8)) (k : Nat) (h : 1 ≤ k) (hk : k ≤ L.length) : nameIn L (k : Int) = L[k - 1] := by
  unfold nameIn
  rw [if_pos (by omega), show ((k : Int) - 1).toNat = k - 1 by omega, List.getElem?_eq_getElem (by omega)]
  rfl
theorem name_iff {L : List (List UInt8)} (hL : L.Nodup) (t : List UInt8) (k : Nat) (h : 1 ≤ k) (hk : k ≤ L.length) : nameIn L (k : Int) = t ↔ kindIn L t = k := by
  rw [name_at L k h hk]
  unfold kindIn
  constructor
  · rintro rfl
    rw [if_pos (List.getElem_mem _), hL.idxOf_getElem]; omega
  · intro e
    split at e
    · rename_i hm
      have hi := List.idxOf_lt_length_of_mem hm
      have h2 : L[L.idxOf t] = t := List.getElem_idxOf hi
      have h3 : L.idxOf t = k - 1 := by omega
      simp only [h3] at h2
      exact h2
    · omega
theorem name_past (L : List (List UInt8)) (k : Int) (h : k < 1 ∨ (L.length : Int) < k) : nameIn L k = [] := by
  unfold nameIn
  split
  · rw [List.getElem?_eq_none (by omega)]; rfl
  · rfl
theorem wordL_nodup : wordL.Nodup := by decide
theorem binL_nodup : binL.Nodup := by decide
theorem wordL_len : wordL.length = 21 := rfl
theorem binL_len : binL.length = 5 := rfl
theorem wordL_full : ∀ x ∈ wordL, x ≠ [] ∧ ∀ c ∈ x, letter c = true := by decide
theorem binL_full : ∀ x ∈ binL, x ≠ [] ∧ ∀ c ∈ x, letter c = true := by decide
theorem name_full {L : List (List UInt8)} (hL : ∀ x ∈ L, x ≠ [] ∧ ∀ c ∈ x, letter c = true) (k : Nat) (h : 1 ≤ k) (hk : k ≤ L.length) : nameIn L (k : Int) ≠ [] := by
  rw [name_at L k h hk]; exact (hL _ (List.getElem_mem _)).1
/-- None of those before it. -/
theorem kind_found {L : List (List UInt8)} (hL : L.Nodup) {t : List UInt8} {k : Nat} (h : 1 ≤ k) (hk : k ≤ L.length) (e : nameIn L (k : Int) = t) : kindIn L t = k := (name_iff hL t k h hk).1 e
theorem kind_none {L : List (List UInt8)} (hL : L.Nodup) {t : List UInt8} (h : ∀ j : Nat, 1 ≤ j → j ≤ L.length → nameIn L (j : Int) ≠ t) : kindIn L t = 0 := by
  have h1 := kind_le L t
  rcases Nat.eq_zero_or_pos (kindIn L t) with h0 | h0
  · exact h0
  · exact absurd ((name_iff hL t _ h0 h1).2 rfl) (h _ h0 h1)
/-- A number's text is no word. -/
theorem good_num {t : Tk} (h : good t) (hn : t.num = true) : ∃ c r, t.text = c :: r ∧ letter c = false ∧ c.toNat ≠ 40 ∧ c.toNat ≠ 41 := by
  rcases h with ⟨_, h, _⟩ | ⟨_, _, h, _⟩ | ⟨c, ds, h, h1, _, _, _⟩
  · rw [hn] at h; cases h
  · rw [hn] at h; cases h
  · refine ⟨c, ds, h, ?_, ?_, ?_⟩
    · rcases h1 with h1 | h1
      · simp [letter, letterZ]; omega
      · simp [digit, digitZ] at h1; simp [letter, letterZ]; omega
    · rcases h1 with h1 | h1
      · omega
      · simp [digit, digitZ] at h1; omega
    · rcases h1 with h1 | h1
      · omega
      · simp [digit, digitZ] at h1; omega
theorem num_kind {L : List (List UInt8)} (hL : ∀ x ∈ L, x ≠ [] ∧ ∀ c ∈ x, letter c = true) {t : Tk} (h : good t) (hn : t.num = true) : kindIn L t.text = 0 := by
  obtain ⟨c, r, e, h1, _⟩ := good_num h hn
  unfold kindIn
  rw [if_neg]
  intro hm
  have := (hL _ hm).2 c (by rw [e]; simp)
  rw [h1] at this; cases this
def lpar : List UInt8 := [40]
def rpar : List UInt8 := [41]
def funB : List UInt8 := [102, 117, 110]
theorem num_mark {t : Tk} (h : good t) (hn : t.num = true) : t.text ≠ lpar ∧ t.text ≠ rpar ∧ t.text ≠ funB := by
  obtain ⟨c, r, e, h1, h2, h3⟩ := good_num h hn
  rw [e]
  refine ⟨?_, ?_, ?_⟩
  · intro h; simp [lpar] at h; rw [h.1] at h2; exact h2 rfl
  · intro h; simp [rpar] at h; rw [h.1] at h3; exact h3 rfl
  · intro h; simp [funB] at h; rw [h.1] at h1; cases h1
/-- What was read and what is left, or a code and a place. -/
abbrev Got (α : Type) := Except (Int × Int) (α × List Tk)
def andThen {α β : Type} (g : Got α) (f : α → List Tk → Got β) : Got β := match g with
  | .error x => .error x
  | .ok x => f x.1 x.2
theorem andThen_ok {α β : Type} (a : α) (r : List Tk) (f : α → List Tk → Got β) : andThen (.ok (a, r)) f = f a r := rfl
theorem andThen_error {α β : Type} (x : Int × Int) (f : α → List Tk → Got β) : andThen (.error x : Got α) f = .error x := rfl
/-- The next token. -/
def nextT (e : Int) (ts : List Tk) : Got Tk := match ts with
  | [] => .error (6, e)
  | t :: r => .ok (t, r)
/-- Where it begins, or where the text ends. -/
def atT (e : Int) (ts : List Tk) : Int := match ts with
  | [] => e
  | t :: _ => (t.pos : Int)
def mustT (e : Int) (s : List UInt8) (ts : List Tk) : Got Unit := andThen (nextT e ts) fun t r => if t.text = s then .ok ((), r) else .error (5, (t.pos : Int))
def oneT (L : List (List UInt8)) (e : Int) (ts : List Tk) : Got Int := andThen (nextT e ts) fun t r => if kindIn L t.text = 0 then .error (5, (t.pos : Int)) else .ok ((kindIn L t.text : Int), r)
def numT (e : Int) (ts : List Tk) : Got Tk := andThen (nextT e ts) fun t r => if t.num = true then .ok (t, r) else .error (5, (t.pos : Int))
def smallT (e : Int) (ts : List Tk) : Got Int := andThen (numT e ts) fun t r => if t.n < 0 ∨ 999 < t.n then .error (1, (t.pos : Int)) else .ok (t.n, r)
/-- A word, and its number or arithmetic. -/
def tailT (e kd : Int) (r : List Tk) : Got (Int × Int) :=
  if kd = 2 then andThen (numT e r) fun t r => .ok ((0, t.n), r)
  else if kd = 4 ∨ kd = 18 ∨ kd = 15 then andThen (smallT e r) fun k r => .ok ((k, 0), r)
  else if kd = 6 then andThen (oneT binL e r) fun k r => .ok ((k, 0), r)
  else .ok ((0, 0), r)
def headT (e : Int) (ts : List Tk) : Got (Int × Int × Int) := andThen (oneT wordL e ts) fun kd r => andThen (tailT e kd r) fun x r => .ok ((kd, x), r)
/-- So many, one behind the other. -/
def manyT (g : List Tk → Got V) : Nat → List V → List Tk → Got (List V)
  | 0, acc, r => .ok (acc, r)
  | n + 1, acc, r => andThen (g r) fun v r => manyT g n (acc ++ [v]) r
/-- An expression that may hold so many in one another. -/
def exprT (e : Int) : Nat → List Tk → Got V
  | 0, ts => .error (4, atT e ts)
  | f + 1, ts => andThen (mustT e lpar ts) fun _ r => andThen (headT e r) fun h r => andThen (manyT (exprT e f) (partsI h.1).toNat [] r) fun l r => andThen (mustT e rpar r) fun _ r => .ok (⟨h.1, h.2.1, h.2.2, l⟩, r)
/-- Functions, behind those that were read. -/
def modT (e : Int) : Nat → List V → List Tk → Got (List V)
  | 0, acc, ts => .ok (acc, ts)
  | f + 1, acc, ts => match ts with
    | [] => .ok (acc, [])
    | t :: r => andThen (mustT e funB (t :: r)) fun _ r => andThen (exprT e 31 r) fun v r => modT e f (acc ++ [v]) r
theorem next_ok {e : Int} {ts r : List Tk} {t : Tk} (h : nextT e ts = .ok (t, r)) : ts = t :: r := by
  cases ts with
  | nil => cases h
  | cons a b => cases h; rfl
theorem must_ok {e : Int} {s : List UInt8} {ts r : List Tk} {u : Unit} (h : mustT e s ts = .ok (u, r)) : ∃ t, ts = t :: r ∧ t.text = s := by
  cases ts with
  | nil => cases h
  | cons a b =>
    simp only [mustT, nextT, andThen] at h
    split at h
    · cases h; exact ⟨a, rfl, by assumption⟩
    · cases h
theorem one_ok {L : List (List UInt8)} {e : Int} {ts r : List Tk} {k : Int} (h : oneT L e ts = .ok (k, r)) : ∃ t, ts = t :: r ∧ kindIn L t.text ≠ 0 ∧ k = kindIn L t.text := by
  cases ts with
  | nil => cases h
  | cons a b =>
    simp only [oneT, nextT, andThen] at h
    split at h
    · cases h
    · cases h; exact ⟨a, rfl, by assumption, rfl⟩
theorem num_ok {e : Int} {ts r : List Tk} {t : Tk} (h : numT e ts = .ok (t, r)) : ts = t :: r ∧ t.num = true := by
  cases ts with
  | nil => cases h
  | cons a b =>
    simp only [numT, nextT, andThen] at h
    split at h
    · cases h; exact ⟨rfl, by assumption⟩
    · cases h
theorem small_ok {e : Int} {ts r : List Tk} {k : Int} (h : smallT e ts = .ok (k, r)) : ∃ t, ts = t :: r ∧ t.num = true ∧ k = t.n ∧ 0 ≤ k ∧ k ≤ 999 := by
  unfold smallT at h
  cases hn : numT e ts with
  | error x => rw [hn] at h; cases h
  | ok x =>
    obtain ⟨t, r'⟩ := x
    rw [hn] at h
    simp only [andThen] at h
    obtain ⟨h1, h2⟩ := num_ok hn
    split at h
    · cases h
    · cases h; exact ⟨t, h1, h2, rfl, by omega, by omega⟩
theorem tail_ok {e kd : Int} {ts r : List Tk} {x : Int × Int} (h : tailT e kd ts = .ok (x, r)) : ∃ p, ts = p ++ r := by
  unfold tailT at h
  split at h
  · cases hn : numT e ts with
    | error y => rw [hn] at h; cases h
    | ok y => rw [hn] at h; cases h; exact ⟨[y.1], by simpa using (num_ok hn).1⟩
  · split at h
    · cases hn : smallT e ts with
      | error y => rw [hn] at h; cases h
      | ok y => rw [hn] at h; cases h; obtain ⟨t, h1, _⟩ := small_ok hn; exact ⟨[t], by simpa using h1⟩
    · split at h
      · cases hn : oneT binL e ts with
        | error y => rw [hn] at h; cases h
        | ok y => rw [hn] at h; cases h; obtain ⟨t, h1, _⟩ := one_ok hn; exact ⟨[t], by simpa using h1⟩
      · cases h; exact ⟨[], rfl⟩
theorem then_ok {α β : Type} {g : Got α} {f : α → List Tk → Got β} {b : β} {r : List Tk} (h : andThen g f = .ok (b, r)) : ∃ a r1, g = .ok (a, r1) ∧ f a r1 = .ok (b, r) := by
  cases g with
  | error x => cases h
  | ok x => exact ⟨x.1, x.2, rfl, h⟩
theorem head_ok {e : Int} {ts r : List Tk} {x : Int × Int × Int} (h : headT e ts = .ok (x, r)) : (∃ t r1, ts = t :: r1 ∧ kindIn wordL t.text ≠ 0 ∧ x.1 = kindIn wordL t.text ∧ tailT e x.1 r1 = .ok (x.2, r)) := by
  unfold headT at h
  obtain ⟨kd, r1, h1, h2⟩ := then_ok h
  obtain ⟨y, r2, h3, h4⟩ := then_ok h2
  obtain ⟨t, rfl, h5, h6⟩ := one_ok h1
  cases h4
  exact ⟨t, r1, rfl, h5, h6, h3⟩
/-- An expression takes as many tokens as there are expressions in it, or more. -/
theorem many_ok {g : List Tk → Got V} (hg : ∀ ts v r, g ts = .ok (v, r) → ∃ p, ts = p ++ r ∧ v.size ≤ p.length) : ∀ (n : Nat) (acc : List V) (ts : List Tk) (l : List V) (r : List Tk), manyT g n acc ts = .ok (l, r) → ∃ p, ts = p ++ r ∧ sizes l ≤ sizes acc + p.length ∧ l.length = acc.length + n := by
  intro n
  induction n with
  | zero => intro acc ts l r h; rw [manyT] at h; cases h; exact ⟨[], rfl, Nat.le_refl _, rfl⟩
  | succ n ih =>
    intro acc ts l r h
    rw [manyT] at h
    obtain ⟨v, r1, h1, h2⟩ := then_ok h
    obtain ⟨p, rfl, hp⟩ := hg _ _ _ h1
    obtain ⟨q, rfl, hq, hl⟩ := ih _ _ _ _ h2
    refine ⟨p ++ q, by simp, ?_, ?_⟩
    · rw [sizes_append, sizes_one] at hq; rw [List.length_append]; omega
    · rw [hl, List.length_append, List.length_singleton]; omega
theorem expr_ok (e : Int) : ∀ (f : Nat) (ts : List Tk) (v : V) (r : List Tk), exprT e f ts = .ok (v, r) → ∃ p, ts = p ++ r ∧ v.size ≤ p.length := by
  intro f
  induction f with
  | zero => intro ts v r h; cases h
  | succ f ih =>
    intro ts v r h
    rw [exprT] at h
    obtain ⟨_, r1, h1, h⟩ := then_ok h
    obtain ⟨x, r2, h2, h⟩ := then_ok h
    obtain ⟨l, r3, h3, h⟩ := then_ok h
    obtain ⟨_, r4, h4, h⟩ := then_ok h
    cases h
    obtain ⟨t1, rfl, _⟩ := must_ok h1
    obtain ⟨t2, r5, rfl, _, _, h6⟩ := head_ok h2
    obtain ⟨p, rfl⟩ := tail_ok h6
    obtain ⟨q, rfl, hq, _⟩ := many_ok ih _ _ _ _ _ h3
    obtain ⟨t3, rfl, _⟩ := must_ok h4
    refine ⟨t1 :: t2 :: (p ++ q ++ [t3]), by simp, ?_⟩
    rw [size_eq]
    rw [sizes_nil] at hq
    simp only [List.length_cons, List.length_append, List.length_nil]
    omega
theorem mod_more (e : Int) : ∀ (f g : Nat) (acc : List V) (ts : List Tk), ts.length < f → ts.length < g → modT e f acc ts = modT e g acc ts := by
  intro f
  induction f with
  | zero => intro g acc ts h; omega
  | succ f ih =>
    intro g acc ts hf hg
    cases g with
    | zero => omega
    | succ g =>
      cases ts with
      | nil => rfl
      | cons t r =>
        rw [modT, modT]
        cases hm : mustT e funB (t :: r) with
        | error x => rfl
        | ok x =>
          obtain ⟨u, r1⟩ := x
          obtain ⟨t', h1, _⟩ := must_ok hm
          cases h1
          simp only [andThen]
          cases hx : exprT e 31 r with
          | error x => rfl
          | ok x =>
            obtain ⟨v, r2⟩ := x
            obtain ⟨p, rfl, hp⟩ := expr_ok e _ _ _ _ hx
            simp only [List.length_cons, List.length_append] at hf hg
            exact ih g _ _ (by show r2.length < f; omega) (by show r2.length < g; omega)
def modFrom (e : Int) (acc : List V) (ts : List Tk) : Got (List V) := modT e (ts.length + 1) acc ts
theorem modFrom_nil (e : Int) (acc : List V) : modFrom e acc [] = .ok (acc, []) := rfl
theorem modFrom_cons (e : Int) (acc : List V) (t : Tk) (r : List Tk) : modFrom e acc (t :: r) = andThen (mustT e funB (t :: r)) fun _ r => andThen (exprT e 31 r) fun v r => modFrom e (acc ++ [v]) r := by
  unfold modFrom
  rw [modT]
  cases hm : mustT e funB (t :: r) with
  | error x => rfl
  | ok x =>
    obtain ⟨u, r1⟩ := x
    obtain ⟨t', h1, _⟩ := must_ok hm
    cases h1
    simp only [andThen]
    cases hx : exprT e 31 r with
    | error x => rfl
    | ok x =>
      obtain ⟨v, r2⟩ := x
      obtain ⟨p, rfl, hp⟩ := expr_ok e _ _ _ _ hx
      simp only [List.length_cons, List.length_append]
      exact mod_more e _ _ _ _ (by omega) (by omega)
theorem mod_ok (e : Int) : ∀ (f : Nat) (acc : List V) (ts : List Tk) (l : List V) (r : List Tk), modT e f acc ts = .ok (l, r) → sizes l ≤ sizes acc + ts.length := by
  intro f
  induction f with
  | zero => intro acc ts l r h; cases h; omega
  | succ f ih =>
    intro acc ts l r h
    cases ts with
    | nil => cases h; omega
    | cons t r1 =>
      rw [modT] at h
      obtain ⟨_, r2, h1, h⟩ := then_ok h
      obtain ⟨v, r3, h2, h4⟩ := then_ok h
      obtain ⟨t', h3, _⟩ := must_ok h1
      cases h3
      obtain ⟨p, rfl, hp⟩ := expr_ok e _ _ _ _ h2
      have := ih _ _ _ _ h4
      rw [sizes_append, sizes_one] at this
      simp only [List.length_cons, List.length_append]
      omega
/-- What is told of tokens and of the module that they make. -/
def parseT (e : Int) (ts : List Tk) : List V × Int × Int := match modFrom e [] ts with
  | .error x => ([], x.1, x.2)
  | .ok x => if (modFault x.1).1 = 0 then (x.1, 0, 0) else ([], (modFault x.1).1, (modFault x.1).2)
def parseB (l : List UInt8) : List V × Int × Int := if (scan l).2.1 = 0 then parseT (l.length : Int) (scan l).1 else ([], (scan l).2.1, (scan l).2.2)
theorem parseT_size (e : Int) (ts : List Tk) : sizes (parseT e ts).1 ≤ ts.length := by
  unfold parseT
  cases h : modFrom e [] ts with
  | error x => simp [sizes_nil]
  | ok x =>
    obtain ⟨l, r⟩ := x
    simp only
    split
    · have := mod_ok e _ _ _ _ _ h; rw [sizes_nil] at this; simpa using this
    · simp [sizes_nil]
end Go.Proofs.YtbcfbelfeaakoadDoor
namespace Go.Proofs.YtbcfbelfeaakoadDoor
/-- What stands behind a word. -/
def tailX (v : V) : List UInt8 :=
  if v.kind = 2 then 32 :: Lib.itoa v.n else if v.kind = 4 ∨ v.kind = 18 ∨ v.kind = 15 then 32 :: Lib.itoa v.k
  else if v.kind = 6 then 32 :: nameIn binL v.k else []
/-- A word, and what stands behind it. -/
def headX (v : V) : List UInt8 := nameIn wordL v.kind ++ tailX v
/-- An expression's text; those of a list, a blank ahead of each. -/
def V.text : V → List UInt8
  | ⟨kind, k, n, l⟩ => 40 :: (headX ⟨kind, k, n, []⟩ ++ (texts l ++ [41]))
  where texts : List V → List UInt8
    | [] => []
    | v :: l => 32 :: (V.text v ++ texts l)
abbrev texts (l : List V) : List UInt8 := V.text.texts l
theorem head_bare (v : V) : headX ⟨v.kind, v.k, v.n, []⟩ = headX v := rfl
theorem text_eq (v : V) : v.text = 40 :: (headX v ++ (texts v.l ++ [41])) := by cases v; rw [V.text]; rfl
theorem texts_nil : texts [] = [] := by simp only [texts, V.text.texts]
theorem texts_cons (v : V) (l : List V) : texts (v :: l) = 32 :: (v.text ++ texts l) := by simp only [texts, V.text.texts]
theorem texts_app (a b : List V) : texts (a ++ b) = texts a ++ texts b := by
  induction a with
  | nil => rw [texts_nil]; rfl
  | cons x a ih => rw [List.cons_append, texts_cons, texts_cons, ih]; simp
theorem texts_take (l : List V) (j : Nat) (h : j < l.length) : texts (l.take (j + 1)) = texts (l.take j) ++ 32 :: l[j].text := by
  rw [List.take_add_one, texts_app, List.getElem?_eq_getElem h]
  simp [texts_cons, texts_nil]
/-- A function's line; a module's text. -/
def lineX (v : V) : List UInt8 := [102, 117, 110, 32] ++ (v.text ++ [10])
def linesX : List V → List UInt8
  | [] => []
  | v :: l => lineX v ++ linesX l
theorem lines_app (a b : List V) : linesX (a ++ b) = linesX a ++ linesX b := by
  induction a with
  | nil => rfl
  | cons x a ih => rw [List.cons_append, linesX, linesX, ih]; simp
theorem lines_take (l : List V) (j : Nat) (h : j < l.length) : linesX (l.take (j + 1)) = linesX (l.take j) ++ lineX l[j] := by
  rw [List.take_add_one, lines_app, List.getElem?_eq_getElem h]
  simp [linesX]
/-- What is printed, if that is what was found wrong. -/
def printX (f : Int × Int) (l : List V) : List UInt8 × Int × Int := if f.1 ≠ 0 then ([], f) else if 6000 < (linesX l).length then ([], (3, -1)) else (linesX l, (0, 0))
/- How long they are. -/
theorem name_len {L : List (List UInt8)} (hL : ∀ x ∈ L, x.length ≤ 6) (k : Int) : (nameIn L k).length ≤ 6 := by
  unfold nameIn
  split
  · cases h : L[(k - 1).toNat]? with
    | none => simp
    | some x => exact hL x (List.mem_of_getElem? h)
  · simp
theorem word_len (k : Int) : (nameIn wordL k).length ≤ 6 := name_len (by decide) k
theorem bin_len (k : Int) : (nameIn binL k).length ≤ 6 := name_len (by decide) k
theorem dec_len (u : Nat) : ∀ k, u < 10 ^ (k + 1) → (Lib.decDigits u).length ≤ k + 1 := by
  induction u using Nat.strongRecOn with
  | _ u ih =>
    intro k hk
    rw [Lib.decDigits]
    by_cases h : u < 10
    · rw [dif_pos h]; simp
    · rw [dif_neg h]
      cases k with
      | zero => omega
      | succ k =>
        have h1 := ih (u / 10) (by omega) k (by rw [Nat.pow_succ] at hk; omega)
        simp; omega
theorem itoa_len {n : Int} (h : -9223372036854775808 ≤ n ∧ n ≤ 9223372036854775807) : (Lib.itoa n).length ≤ 21 := by
  unfold Lib.itoa
  split
  · have := dec_len (-n).toNat 19 (by omega)
    simp only [List.length_cons] at this ⊢
    have e : (-n).toNat = n.natAbs := by omega
    rw [e] at this; omega
  · have := dec_len n.toNat 19 (by omega)
    omega
/- Another text. -/
def digB (c : UInt8) : Bool := decide (48 ≤ c.toNat ∧ c.toNat ≤ 57)
/-- Two lists of such, each behind it something that is none. -/
theorem split_at {p : UInt8 → Bool} {a b r s : List UInt8} {x y : UInt8} (ha : ∀ c ∈ a, p c = true) (hb : ∀ c ∈ b, p c = true) (hx : p x = false) (hy : p y = false) (h : a ++ x :: r = b ++ y :: s) : a = b ∧ x = y ∧ r = s := by
  induction a generalizing b with
  | nil =>
    cases b with
    | nil => simp only [List.nil_append, List.cons.injEq] at h; exact ⟨rfl, h.1, h.2⟩
    | cons z b =>
      exfalso
      simp only [List.nil_append, List.cons_append, List.cons.injEq] at h
      rw [h.1, hb z (by simp)] at hx; cases hx
  | cons z a ih =>
    cases b with
    | nil =>
      exfalso
      simp only [List.nil_append, List.cons_append, List.cons.injEq] at h
      rw [← h.1, ha z (by simp)] at hy; cases hy
    | cons u b =>
      simp only [List.cons_append, List.cons.injEq] at h
      obtain ⟨rfl, h⟩ := h
      obtain ⟨e1, e2⟩ := ih (fun c hc => ha c (by simp [hc])) (fun c hc => hb c (by simp [hc])) h
      exact ⟨by rw [e1], e2⟩
theorem dec_dig (u : Nat) : ∀ c ∈ Lib.decDigits u, digB c = true := by
  induction u using Nat.strongRecOn with
  | _ u ih =>
    rw [Lib.decDigits]
    have hd : ∀ r, r < 10 → digB (UInt8.ofNat (48 + r)) = true := by
      intro r hr
      have : (UInt8.ofNat (48 + r)).toNat = 48 + r := by simp; omega
      unfold digB; rw [this]; exact decide_eq_true (by omega)
    by_cases h : u < 10
    · rw [dif_pos h]
      intro c hc
      rw [List.mem_singleton] at hc
      subst hc
      exact hd u h
    · rw [dif_neg h]
      intro c hc
      rcases List.mem_append.1 hc with hc | hc
      · exact ih (u / 10) (by omega) c hc
      · rw [List.mem_singleton] at hc; subst hc; exact hd _ (by omega)
def valD (l : List UInt8) : Nat := l.foldl (fun a c => a * 10 + (c.toNat - 48)) 0
theorem dec_val (u : Nat) : valD (Lib.decDigits u) = u := by
  induction u using Nat.strongRecOn with
  | _ u ih =>
    rw [Lib.decDigits]
    have hd : ∀ r, r < 10 → (UInt8.ofNat (48 + r)).toNat = 48 + r := by intro r hr; simp; omega
    by_cases h : u < 10
    · rw [dif_pos h]
      simp only [valD, List.foldl_cons, List.foldl_nil, hd u h]; omega
    · rw [dif_neg h]
      have := ih (u / 10) (by omega)
      simp only [valD, List.foldl_append, List.foldl_cons, List.foldl_nil] at this ⊢
      rw [this, hd _ (by omega)]; omega
theorem dec_ne (u : Nat) : Lib.decDigits u ≠ [] := by
  rw [Lib.decDigits]; split <;> simp
theorem itoa_inj {n m : Int} (h : Lib.itoa n = Lib.itoa m) : n = m := by
  have key : ∀ u v : Nat, Lib.decDigits u = Lib.decDigits v → u = v := fun u v h => by
    have := congrArg valD h
    rwa [dec_val, dec_val] at this
  have hno : ∀ (u : Nat) (x : List UInt8), 45 :: x ≠ Lib.decDigits u := by
    intro u x h
    have := dec_dig u 45 (by rw [← h]; simp)
    simp [digB] at this
  unfold Lib.itoa at h
  by_cases hn : n < 0
  · by_cases hm : m < 0
    · rw [if_pos hn, if_pos hm] at h
      simp only [List.cons.injEq, true_and] at h
      have := key _ _ h; omega
    · rw [if_pos hn, if_neg hm] at h
      exact absurd h (hno _ _)
  · by_cases hm : m < 0
    · rw [if_neg hn, if_pos hm] at h
      exact absurd h.symm (hno _ _)
    · rw [if_neg hn, if_neg hm] at h
      have := key _ _ h; omega
/-- What a word or a number is made of. -/
def inWord (c : UInt8) : Bool := letter c || digB c || c == 45
theorem itoa_in (n : Int) : ∀ c ∈ Lib.itoa n, inWord c = true := by
  intro c hc
  unfold Lib.itoa at hc
  split at hc
  · rcases List.mem_cons.1 hc with rfl | hc
    · decide
    · simp [inWord, dec_dig _ c hc]
  · simp [inWord, dec_dig _ c hc]
theorem name_in {L : List (List UInt8)} (hL : ∀ x ∈ L, x ≠ [] ∧ ∀ c ∈ x, letter c = true) (k : Int) : ∀ c ∈ nameIn L k, inWord c = true := by
  intro c hc
  unfold nameIn at hc
  split at hc
  · cases h : L[(k - 1).toNat]? with
    | none => rw [h] at hc; simp at hc
    | some x =>
      rw [h] at hc
      simp [inWord, (hL x (List.mem_of_getElem? h)).2 c hc]
  · simp at hc
theorem name_inj {L : List (List UInt8)} (hL : L.Nodup) {k j : Int} (hk : 1 ≤ k ∧ k ≤ (L.length : Int)) (hj : 1 ≤ j ∧ j ≤ (L.length : Int)) (h : nameIn L k = nameIn L j) : k = j := by
  obtain ⟨a, rfl⟩ : ∃ a : Nat, k = a := ⟨k.toNat, by omega⟩
  obtain ⟨b, rfl⟩ : ∃ b : Nat, j = b := ⟨j.toNat, by omega⟩
  have h1 := (name_iff hL (nameIn L (b : Int)) a (by omega) (by omega)).1 h
  have h2 := (name_iff hL (nameIn L (b : Int)) b (by omega) (by omega)).1 rfl
  omega
/-- An expression in which nothing is wrong, somewhere. -/
def Ok (v : V) : Prop := ∃ F o, v.bad F o = 0
theorem bads_get {F kind : Int} {l : List V} {i : Nat} {o : Int} (h : bads F kind l i o = 0) : ∀ x ∈ l, Ok x := by
  induction l generalizing i with
  | nil => intro x hx; simp at hx
  | cons v l ih =>
    rw [bads_cons] at h
    by_cases h0 : v.bad F (opens kind o i) = 0
    · rw [if_pos h0] at h
      intro x hx
      rcases List.mem_cons.1 hx with rfl | hx
      · exact ⟨F, _, h0⟩
      · exact ih h x hx
    · rw [if_neg h0] at h; exact absurd h h0
theorem Ok.one {v : V} (h : Ok v) : ∃ F o, fault1 F v o = 0 ∧ ∀ x ∈ v.l, Ok x := by
  obtain ⟨F, o, h⟩ := h
  rw [bad_eq] at h
  by_cases h0 : fault1 F v o = 0
  · rw [if_pos h0] at h; exact ⟨F, o, h0, bads_get h⟩
  · rw [if_neg h0] at h; exact absurd h h0
theorem Ok.facts {v : V} (h : Ok v) : (1 ≤ v.kind ∧ v.kind ≤ 21) ∧ (v.l.length : Int) = partsI v.kind ∧ (v.kind ≠ 2 → v.n = 0) ∧ (v.kind = 6 → 1 ≤ v.k ∧ v.k ≤ 5) ∧ (¬ (v.kind = 4 ∨ v.kind = 18 ∨ v.kind = 15 ∨ v.kind = 6) → v.k = 0) := by
  obtain ⟨F, o, h, _⟩ := h.one
  unfold fault1 at h
  by_cases h1 : partsI v.kind < 0
  · rw [if_pos h1] at h; cases h
  rw [if_neg h1] at h
  by_cases h2 : (v.l.length : Int) ≠ partsI v.kind
  · rw [if_pos h2] at h; cases h
  rw [if_neg h2] at h
  by_cases h3 : v.n ≠ 0 ∧ v.kind ≠ 2
  · rw [if_pos h3] at h; cases h
  rw [if_neg h3] at h
  by_cases h4 : faultK F v.kind v.k o ≠ 0
  · rw [if_pos h4] at h; exact absurd h h4
  refine ⟨?_, by omega, fun e => ?_, fun e => ?_, fun e => ?_⟩
  · unfold partsI at h1
    generalize v.kind = x at h1
    repeat' split at h1
    all_goals omega
  · by_cases e2 : v.n = 0
    · exact e2
    · exact absurd ⟨e2, e⟩ h3
  · unfold faultK at h4
    rw [if_neg (by omega), if_pos e] at h4
    by_cases e2 : 1 ≤ v.k ∧ v.k ≤ 5
    · exact e2
    · rw [if_neg e2] at h4; exact absurd (by decide) h4
  · unfold faultK at h4
    rw [if_neg (by omega), if_neg (by omega), if_neg (by omega), if_neg (by omega)] at h4
    by_cases e2 : v.k = 0
    · exact e2
    · rw [if_neg e2] at h4; exact absurd (by decide) h4
theorem blank_out : inWord 32 = false := by decide
theorem close_out : inWord 41 = false := by decide
/-- Behind a word, or what stands behind it, comes a blank or the end. -/
theorem rest_head (l : List V) (r : List UInt8) : ∃ c t, texts l ++ 41 :: r = c :: t ∧ inWord c = false := by
  cases l with
  | nil => exact ⟨41, r, by rw [texts_nil]; rfl, close_out⟩
  | cons v l => exact ⟨32, _, by rw [texts_cons]; rfl, blank_out⟩
theorem tail_head (v : V) (r : List UInt8) : ∃ c t, tailX v ++ (texts v.l ++ 41 :: r) = c :: t ∧ inWord c = false := by
  unfold tailX
  split
  · exact ⟨32, _, rfl, blank_out⟩
  · split
    · exact ⟨32, _, rfl, blank_out⟩
    · split
      · exact ⟨32, _, rfl, blank_out⟩
      · exact rest_head v.l r
theorem tail_split {v u : V} (hv : Ok v) (hu : Ok u) (hk : v.kind = u.kind) {r s : List UInt8} (h : tailX v ++ (texts v.l ++ 41 :: r) = tailX u ++ (texts u.l ++ 41 :: s)) : v.k = u.k ∧ v.n = u.n ∧ texts v.l ++ 41 :: r = texts u.l ++ 41 :: s := by
  obtain ⟨_, _, v3, v4, v5⟩ := hv.facts
  obtain ⟨_, _, u3, u4, u5⟩ := hu.facts
  obtain ⟨c, t, e1, c1⟩ := rest_head v.l r
  obtain ⟨d, t', e2, d1⟩ := rest_head u.l s
  rw [e1, e2] at h ⊢
  unfold tailX at h
  rw [← hk] at h u3 u4 u5
  by_cases h2 : v.kind = 2
  · rw [if_pos h2, if_pos h2] at h
    simp only [List.cons_append, List.cons.injEq, true_and] at h
    obtain ⟨a1, a2, a3⟩ := split_at (itoa_in _) (itoa_in _) c1 d1 h
    rw [v5 (by omega), u5 (by omega)]
    exact ⟨rfl, itoa_inj a1, by rw [a2, a3]⟩
  rw [if_neg h2, if_neg h2] at h
  by_cases h4 : v.kind = 4 ∨ v.kind = 18 ∨ v.kind = 15
  · rw [if_pos h4, if_pos h4] at h
    simp only [List.cons_append, List.cons.injEq, true_and] at h
    obtain ⟨a1, a2, a3⟩ := split_at (itoa_in _) (itoa_in _) c1 d1 h
    rw [v3 (by omega), u3 (by omega)]
    exact ⟨itoa_inj a1, rfl, by rw [a2, a3]⟩
  rw [if_neg h4, if_neg h4] at h
  by_cases h6 : v.kind = 6
  · rw [if_pos h6, if_pos h6] at h
    simp only [List.cons_append, List.cons.injEq, true_and] at h
    obtain ⟨a1, a2, a3⟩ := split_at (name_in binL_full _) (name_in binL_full _) c1 d1 h
    rw [v3 (by omega), u3 (by omega)]
    have h1 := v4 h6
    have h1' := u4 h6
    exact ⟨name_inj binL_nodup (by rw [binL_len]; omega) (by rw [binL_len]; omega) a1, rfl, by rw [a2, a3]⟩
  rw [if_neg h6, if_neg h6] at h
  rw [v3 (by omega), u3 (by omega), v5 (by omega), u5 (by omega)]
  exact ⟨rfl, rfl, h⟩
theorem text_split (v : V) : ∀ (u : V) (r s : List UInt8), Ok v → Ok u → v.text ++ r = u.text ++ s → v = u ∧ r = s := by
  induction v using V.ind' with
  | h v ih =>
    intro u r s hv hu h
    have lists : ∀ (a b : List V), (∀ x ∈ a, ∀ (u : V) (r s : List UInt8), Ok x → Ok u → x.text ++ r = u.text ++ s → x = u ∧ r = s) → (∀ x ∈ a, Ok x) → (∀ x ∈ b, Ok x) → a.length = b.length → ∀ r s, texts a ++ r = texts b ++ s → a = b ∧ r = s := by
      intro a
      induction a with
      | nil =>
        intro b _ _ _ hl r s h
        cases b with
        | nil => exact ⟨rfl, h⟩
        | cons y b => simp at hl
      | cons x a iha =>
        intro b hx oa ob hl r s h
        cases b with
        | nil => simp at hl
        | cons y b =>
          rw [texts_cons, texts_cons] at h
          simp only [List.cons_append, List.append_assoc, List.cons.injEq, true_and] at h
          obtain ⟨rfl, h2⟩ := hx x (by simp) y _ _ (oa x (by simp)) (ob y (by simp)) h
          obtain ⟨rfl, h3⟩ := iha b (fun z hz => hx z (by simp [hz])) (fun z hz => oa z (by simp [hz])) (fun z hz => ob z (by simp [hz])) (by simpa using hl) r s h2
          exact ⟨rfl, h3⟩
    rw [text_eq, text_eq] at h
    simp only [headX, List.cons_append, List.append_assoc, List.cons.injEq, true_and, List.nil_append] at h
    obtain ⟨v1, v2, _⟩ := hv.facts
    obtain ⟨u1, u2, _⟩ := hu.facts
    obtain ⟨c, t, e1, c1⟩ := tail_head v r
    obtain ⟨d, t', e2, d1⟩ := tail_head u s
    have h' := h
    rw [e1, e2] at h'
    obtain ⟨a1, a2, a3⟩ := split_at (name_in wordL_full _) (name_in wordL_full _) c1 d1 h'
    have hk := name_inj wordL_nodup (by rw [wordL_len]; omega) (by rw [wordL_len]; omega) a1
    have ht : tailX v ++ (texts v.l ++ 41 :: r) = tailX u ++ (texts u.l ++ 41 :: s) := by rw [e1, e2, a2, a3]
    obtain ⟨k1, k2, k3⟩ := tail_split hv hu hk ht
    obtain ⟨_, _, _, ov⟩ := hv.one
    obtain ⟨_, _, _, ou⟩ := hu.one
    obtain ⟨l1, l2⟩ := lists v.l u.l ih ov ou (by rw [hk] at v2; omega) _ _ k3
    simp only [List.cons.injEq, true_and] at l2
    exact ⟨v_ext.2 ⟨⟨hk, k1, k2⟩, l1⟩, l2⟩
/-- What is another module has another text. -/
theorem lines_apart {a b : List V} (ha : ∀ x ∈ a, Ok x) (hb : ∀ x ∈ b, Ok x) (h : linesX a = linesX b) : a = b := by
  induction a generalizing b with
  | nil =>
    cases b with
    | nil => rfl
    | cons y b => simp [linesX, lineX] at h
  | cons x a ih =>
    cases b with
    | nil => simp [linesX, lineX] at h
    | cons y b =>
      simp only [linesX, lineX, List.cons_append, List.append_assoc, List.cons.injEq, true_and, List.nil_append] at h
      obtain ⟨rfl, h2⟩ := text_split x y _ _ (ha x (by simp)) (hb y (by simp)) h
      simp only [List.cons.injEq, true_and] at h2
      rw [ih (fun z hz => ha z (by simp [hz])) (fun z hz => hb z (by simp [hz])) h2]
end Go.Proofs.YtbcfbelfeaakoadDoor
