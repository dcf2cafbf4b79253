/- Values as trees, in plain mathematics: how many parts, the first fault, capabilities, gates, the text; and that another value has another text. -/
import Derived.Lib.ItoaLen
namespace Go.Proofs.YtekkecnhnaejlabDoor
/-- A value: its kind, its number, what is in it. -/
structure V where
  kind : Int
  n : Int
  l : List V
theorem V.ind {P : V → Prop} (h : ∀ k n l, (∀ x ∈ l, P x) → P ⟨k, n, l⟩) (v : V) : P v :=
  V.rec (motive_1 := P) (motive_2 := fun l => ∀ x ∈ l, P x) (fun k n l ih => h k n l ih) (by simp) (fun a l h1 h2 => by simp only [List.mem_cons, forall_eq_or_imp]; exact ⟨h1, h2⟩) v
theorem V.ind' {P : V → Prop} (h : ∀ v : V, (∀ x ∈ v.l, P x) → P v) (v : V) : P v := V.ind (fun k n l ih => h ⟨k, n, l⟩ ih) v
def V.size : V → Nat
  | ⟨_, _, l⟩ => 1 + sizes l
  where sizes : List V → Nat
    | [] => 0
    | v :: l => V.size v + sizes l
abbrev sizes (l : List V) : Nat := V.size.sizes l
theorem size_mk (k n : Int) (l : List V) : V.size ⟨k, n, l⟩ = 1 + sizes l := by rw [V.size]
theorem size_eq (v : V) : v.size = 1 + sizes v.l := by cases v; exact size_mk _ _ _
theorem sizes_nil : sizes [] = 0 := by simp only [sizes, V.size.sizes]
theorem sizes_cons (v : V) (l : List V) : sizes (v :: l) = v.size + sizes l := by simp only [sizes, V.size.sizes]
theorem sizes_append (a b : List V) : sizes (a ++ b) = sizes a + sizes b := by
  induction a with
  | nil => simp [sizes_nil]
  | cons x a ih => rw [List.cons_append, sizes_cons, sizes_cons, ih]; omega
theorem size_pos (v : V) : 1 ≤ v.size := by rw [size_eq]; omega
theorem sizes_one (v : V) : sizes [v] = v.size := by rw [sizes_cons, sizes_nil]; rfl
theorem sizes_len (l : List V) : l.length ≤ sizes l := by
  induction l with
  | nil => simp
  | cons x a ih => rw [sizes_cons, List.length_cons]; have := size_pos x; omega
theorem sizes_mem {l : List V} {v : V} (h : v ∈ l) : v.size ≤ sizes l := by
  induction l with
  | nil => simp at h
  | cons x a ih =>
    rw [sizes_cons]
    rcases List.mem_cons.1 h with rfl | h
    · omega
    · have := ih h; omega
theorem size_get (l : List V) (i : Nat) (h : i < l.length) : l[i].size ≤ sizes l := sizes_mem (List.getElem_mem h)
theorem sizes_take (l : List V) (i : Nat) (h : i < l.length) : sizes (l.take (i + 1)) = sizes (l.take i) + l[i].size := by
  rw [List.take_add_one, sizes_append, List.getElem?_eq_getElem h]
  simp [sizes_cons, sizes_nil]
theorem sizes_take_le (l : List V) (i : Nat) : sizes (l.take i) ≤ sizes l := by
  have h : sizes l = sizes (l.take i ++ l.drop i) := by rw [List.take_append_drop]
  rw [h, sizes_append]; omega

/-- The same? -/
def V.same : V → V → Bool
  | ⟨k, n, l⟩, ⟨k', n', l'⟩ => k == k' && n == n' && sames l l'
  where sames : List V → List V → Bool
    | [], [] => true
    | a :: l, b :: l' => V.same a b && sames l l'
    | [], _ :: _ => false
    | _ :: _, [] => false
abbrev sames (a b : List V) : Bool := V.same.sames a b
theorem same_mk (k n : Int) (l : List V) (k' n' : Int) (l' : List V) : V.same ⟨k, n, l⟩ ⟨k', n', l'⟩ = (k == k' && n == n' && sames l l') := by rw [V.same]
theorem same_eq (v u : V) : v.same u = (v.kind == u.kind && v.n == u.n && sames v.l u.l) := by cases v; cases u; exact same_mk _ _ _ _ _ _
theorem sames_cons (a b : V) (l l' : List V) : sames (a :: l) (b :: l') = (a.same b && sames l l') := by simp only [sames, V.same.sames]
theorem same_iff (v : V) : ∀ u, v.same u = true ↔ v = u := by
  induction v using V.ind with
  | h k n l ih =>
    intro u
    obtain ⟨k', n', l'⟩ := u
    rw [same_mk]
    have key : ∀ (a b : List V), (∀ x ∈ a, ∀ u, x.same u = true ↔ x = u) → (sames a b = true ↔ a = b) := by
      intro a
      induction a with
      | nil => intro b _; cases b <;> simp [sames, V.same.sames]
      | cons x a iha =>
        intro b hx
        cases b with
        | nil => simp [sames, V.same.sames]
        | cons y b =>
          rw [sames_cons, Bool.and_eq_true, hx x (by simp) y, iha b fun z hz => hx z (by simp [hz])]
          simp
    rw [Bool.and_eq_true, Bool.and_eq_true, key l l' ih]
    simp [and_assoc]
theorem same_refl (v : V) : v.same v = true := (same_iff v v).2 rfl
theorem sames_get {a b : List V} (hl : a.length = b.length) : sames a b = (List.range a.length).all fun i => match a[i]?, b[i]? with | some x, some y => x.same y | _, _ => true := by
  induction a generalizing b with
  | nil => cases b <;> simp_all [sames, V.same.sames]
  | cons x a ih =>
    cases b with
    | nil => simp at hl
    | cons y b =>
      rw [sames_cons, ih (by simpa using hl), List.length_cons, List.range_succ_eq_map, List.all_cons, List.all_map]
      rfl

theorem v_ext {x y : V} : x = y ↔ (x.kind = y.kind ∧ x.n = y.n) ∧ x.l = y.l := by cases x; cases y; simp [and_assoc]
theorem sames_iff (a b : List V) : sames a b = true ↔ a = b := by
  induction a generalizing b with
  | nil => cases b <;> simp [sames, V.same.sames]
  | cons x a ih =>
    cases b with
    | nil => simp [sames, V.same.sames]
    | cons y b => rw [sames_cons, Bool.and_eq_true, same_iff, ih]; simp
theorem sames_true {a b : List V} (h : a = b) : sames a b = true := (sames_iff a b).2 h
theorem sames_false {a b : List V} (h : ¬ a = b) : sames a b = false := by
  cases e : sames a b with
  | false => rfl
  | true => exact absurd ((sames_iff a b).1 e) h
theorem same_true {v u : V} (h : v = u) : v.same u = true := (same_iff v u).2 h
theorem same_false {v u : V} (h : ¬ v = u) : v.same u = false := by
  cases e : v.same u with
  | false => rfl
  | true => exact absurd ((same_iff v u).1 e) h
theorem take_eq {a b : List V} (hl : a.length = b.length) (j : Nat) (hj : j < a.length) : (a.take (j + 1) = b.take (j + 1)) ↔ (a.take j = b.take j ∧ a[j] = b[j]'(hl ▸ hj)) := by
  rw [List.take_add_one, List.take_add_one, List.getElem?_eq_getElem hj, List.getElem?_eq_getElem (hl ▸ hj)]
  constructor
  · intro h
    obtain ⟨h1, h2⟩ := List.append_inj h (by simp; omega)
    exact ⟨h1, by simpa using h2⟩
  · rintro ⟨h1, h2⟩; rw [h1, h2]
/-- A value and all that is in it, the outer one first, from the left. -/
def V.pre : V → List V
  | ⟨k, n, l⟩ => ⟨k, n, l⟩ :: pres l
  where pres : List V → List V
    | [] => []
    | v :: l => V.pre v ++ pres l
abbrev pres (l : List V) : List V := V.pre.pres l
theorem pre_mk (k n : Int) (l : List V) : V.pre ⟨k, n, l⟩ = ⟨k, n, l⟩ :: pres l := by rw [V.pre]
theorem pre_eq (v : V) : v.pre = v :: pres v.l := by cases v; exact pre_mk _ _ _
theorem pres_nil : pres [] = [] := by simp only [pres, V.pre.pres]
theorem pres_cons (v : V) (l : List V) : pres (v :: l) = v.pre ++ pres l := by simp only [pres, V.pre.pres]
theorem pres_append (a b : List V) : pres (a ++ b) = pres a ++ pres b := by
  induction a with
  | nil => simp [pres_nil]
  | cons x a ih => rw [List.cons_append, pres_cons, pres_cons, ih, List.append_assoc]
theorem pres_one (v : V) : pres [v] = v.pre := by rw [pres_cons, pres_nil, List.append_nil]
theorem pres_take (l : List V) (i : Nat) (h : i < l.length) : pres (l.take (i + 1)) = pres (l.take i) ++ l[i].pre := by
  rw [List.take_add_one, pres_append, List.getElem?_eq_getElem h]
  simp [pres_cons, pres_nil]
theorem pres_split (l : List V) (i : Nat) (h : i < l.length) : pres l = pres (l.take i) ++ (l[i].pre ++ pres (l.drop (i + 1))) := by
  rw [← pres_cons, ← pres_append, List.getElem_cons_drop, List.take_append_drop]

/-- How many are in one of a kind. -/
def partsB (k : Int) : Option Nat := if k = 2 then some 2 else if k = 3 then some 1 else if k = 0 ∨ k = 1 ∨ k = 4 ∨ k = 5 then some 0 else none
/-- What is wrong with a part by itself. -/
def V.fault1 (v : V) : Int :=
  match partsB v.kind with
  | none => 2
  | some p => if v.l.length ≠ p then 5 else if (v.kind = 0 ∨ v.kind = 2) ∧ v.n ≠ 0 then 5 else if (v.kind = 3 ∨ v.kind = 4 ∨ v.kind = 5) ∧ v.n < 0 then 1 else 0
/-- The first fault of several. -/
def first : List V → Int
  | [] => 0
  | v :: l => if v.fault1 = 0 then first l else v.fault1
def V.fault (v : V) : Int := first v.pre
def V.check (v : V) : Int := if 40 < v.size then 3 else v.fault
theorem first_append (a b : List V) : first (a ++ b) = if first a = 0 then first b else first a := by
  induction a with
  | nil => simp [first]
  | cons x a ih =>
    by_cases h : x.fault1 = 0
    · have e : first (x :: a) = first a := by rw [first, if_pos h]
      rw [List.cons_append, first, if_pos h, ih, e]
    · have e : first (x :: a) = x.fault1 := by rw [first, if_neg h]
      rw [List.cons_append, first, if_neg h, e, if_neg h]
theorem fault_eq (v : V) : v.fault = if v.fault1 = 0 then first (pres v.l) else v.fault1 := by rw [V.fault, pre_eq, first]
theorem first_pres (l : List V) (i : Nat) (h : i < l.length) (h0 : first (pres (l.take i)) = 0) : first (pres (l.take (i + 1))) = l[i].fault := by
  rw [pres_take l i h, first_append, if_pos h0, V.fault]
theorem first_stop (l : List V) (i : Nat) (h : i < l.length) (h0 : first (pres (l.take i)) = 0) (h1 : l[i].fault ≠ 0) : first (pres l) = l[i].fault := by
  rw [pres_split l i h, first_append, if_pos h0, first_append, ← V.fault, if_neg h1]
theorem fault_get {v : V} (h : v.fault = 0) (i : Nat) (hi : i < v.l.length) : v.l[i].fault = 0 := by
  rw [fault_eq] at h
  by_cases h1 : v.fault1 = 0
  · rw [if_pos h1, pres_split v.l i hi, first_append] at h
    by_cases h2 : first (pres (v.l.take i)) = 0
    · rw [if_pos h2, first_append] at h
      by_cases h3 : first v.l[i].pre = 0
      · exact h3
      · rw [if_neg h3] at h; exact h
    · rw [if_neg h2] at h; exact absurd h h2
  · rw [if_neg h1] at h; exact absurd h h1
theorem fault_one {v : V} (h : v.fault = 0) : v.fault1 = 0 := by
  rw [fault_eq] at h
  by_cases h1 : v.fault1 = 0
  · exact h1
  · rw [if_neg h1] at h; exact h
theorem check_size {v : V} (h : v.check = 0) : v.size ≤ 40 := by
  unfold V.check at h
  by_cases h1 : 40 < v.size
  · rw [if_pos h1] at h; simp at h
  · omega
theorem check_fault {v : V} (h : v.check = 0) : v.fault = 0 := by
  have h1 := check_size h
  unfold V.check at h
  rwa [if_neg (by omega)] at h
theorem check_get {v : V} (h : v.check = 0) (i : Nat) (hi : i < v.l.length) : v.l[i].check = 0 := by
  have h1 := check_size h
  have h2 := fault_get (check_fault h) i hi
  have h3 := size_get v.l i hi
  rw [size_eq] at h1
  unfold V.check
  rw [if_neg (by omega), h2]

/-- The capabilities in it. -/
def capsIn (l : List V) : List Int := l.filterMap fun v => if v.kind = 4 then some v.n else none
def V.caps (v : V) : List Int := capsIn v.pre
def gateIn (l : List V) : Bool := l.any fun v => v.kind == 5
def V.gate (v : V) : Bool := gateIn v.pre
theorem capsIn_append (a b : List V) : capsIn (a ++ b) = capsIn a ++ capsIn b := by simp [capsIn]
theorem gateIn_append (a b : List V) : gateIn (a ++ b) = (gateIn a || gateIn b) := by simp [gateIn]
theorem caps_eq (v : V) : v.caps = (if v.kind = 4 then [v.n] else []) ++ capsIn (pres v.l) := by
  rw [V.caps, pre_eq]
  by_cases h : v.kind = 4 <;> simp [capsIn, h]
theorem gate_eq (v : V) : v.gate = ((v.kind == 5) || gateIn (pres v.l)) := by rw [V.gate, pre_eq]; simp [gateIn]
theorem caps_take (l : List V) (i : Nat) (h : i < l.length) : capsIn (pres (l.take (i + 1))) = capsIn (pres (l.take i)) ++ l[i].caps := by rw [pres_take l i h, capsIn_append, V.caps]
theorem gate_take (l : List V) (i : Nat) (h : i < l.length) : gateIn (pres (l.take (i + 1))) = (gateIn (pres (l.take i)) || l[i].gate) := by rw [pres_take l i h, gateIn_append, V.gate]
theorem pre_len (v : V) : v.pre.length = v.size := by
  induction v using V.ind with
  | h k n l ih =>
    rw [pre_mk, size_mk]
    have key : ∀ l : List V, (∀ x ∈ l, x.pre.length = x.size) → (pres l).length = sizes l := by
      intro l
      induction l with
      | nil => intro _; simp [pres_nil, sizes_nil]
      | cons x l ihl => intro hx; rw [pres_cons, sizes_cons, List.length_append, hx x (by simp), ihl fun y hy => hx y (by simp [hy])]
    simp [key l ih]; omega
theorem caps_len (v : V) : v.caps.length ≤ v.size := by
  rw [← pre_len, V.caps, capsIn]; exact List.length_filterMap_le _ _

theorem pres_len (l : List V) : (pres l).length = sizes l := by
  induction l with
  | nil => simp [pres_nil, sizes_nil]
  | cons x l ih => rw [pres_cons, sizes_cons, List.length_append, pre_len, ih]
theorem caps_lens (l : List V) : (capsIn (pres l)).length ≤ sizes l := by
  rw [← pres_len, capsIn]; exact List.length_filterMap_le _ _
/-- Texts of several, with a blank between. -/
def V.text : V → List UInt8
  | ⟨k, n, l⟩ =>
    if k = 1 then Lib.itoa n else if k = 2 then 40 :: (texts l ++ [41]) else if k = 3 then 91 :: (Lib.itoa n ++ 32 :: (texts l ++ [93])) else if k = 4 then 35 :: Lib.itoa n else if k = 5 then 33 :: Lib.itoa n else [110, 105, 108]
  where texts : List V → List UInt8
    | [] => []
    | v :: l => V.text v ++ match l with | [] => [] | _ :: _ => 32 :: texts l
abbrev texts (l : List V) : List UInt8 := V.text.texts l
theorem text_eq (v : V) : v.text = if v.kind = 1 then Lib.itoa v.n else if v.kind = 2 then 40 :: (texts v.l ++ [41]) else if v.kind = 3 then 91 :: (Lib.itoa v.n ++ 32 :: (texts v.l ++ [93])) else if v.kind = 4 then 35 :: Lib.itoa v.n else if v.kind = 5 then 33 :: Lib.itoa v.n else [110, 105, 108] := by cases v; rw [V.text]
theorem texts_nil : texts [] = [] := by simp only [texts, V.text.texts]
theorem texts_one (v : V) : texts [v] = v.text := by simp only [texts, V.text.texts, List.append_nil]
theorem texts_two (v u : V) (l : List V) : texts (v :: u :: l) = v.text ++ 32 :: texts (u :: l) := by simp only [texts, V.text.texts]
end Go.Proofs.YtekkecnhnaejlabDoor
