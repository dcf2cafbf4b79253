/- Expressions as trees, in plain mathematics: how many, how deep, the same, the first fault. -/
namespace Go.Proofs.Ytjcniiojcigefad
/-- An expression: its kind, its K, its N, what is in it. -/
structure V where
  kind : Int
  k : Int
  n : Int
  l : List V
theorem V.ind' {P : V → Prop} (h : ∀ v : V, (∀ x ∈ v.l, P x) → P v) (v : V) : P v :=
  V.rec (motive_1 := P) (motive_2 := fun l => ∀ x ∈ l, P x) (fun k kk n l ih => h ⟨k, kk, n, l⟩ ih) (by simp) (fun a l h1 h2 => by simp only [List.mem_cons, forall_eq_or_imp]; exact ⟨h1, h2⟩) v
def V.size : V → Nat
  | ⟨_, _, _, l⟩ => 1 + sizes l
  where sizes : List V → Nat
    | [] => 0
    | v :: l => V.size v + sizes l
abbrev sizes (l : List V) : Nat := V.size.sizes l
theorem size_eq (v : V) : v.size = 1 + sizes v.l := by cases v; rw [V.size]
theorem sizes_nil : sizes [] = 0 := by simp only [sizes, V.size.sizes]
theorem sizes_cons (v : V) (l : List V) : sizes (v :: l) = v.size + sizes l := by simp only [sizes, V.size.sizes]
theorem sizes_append (a b : List V) : sizes (a ++ b) = sizes a + sizes b := by
  induction a with
  | nil => simp [sizes_nil]
  | cons x a ih => rw [List.cons_append, sizes_cons, sizes_cons, ih]; omega
theorem size_pos (v : V) : 1 ≤ v.size := by rw [size_eq]; omega
theorem sizes_one (v : V) : sizes [v] = v.size := by rw [sizes_cons, sizes_nil]; rfl
theorem sizes_len (l : List V) : l.length ≤ sizes l := by
  induction l with
  | nil => simp
  | cons x a ih => rw [sizes_cons, List.length_cons]; have := size_pos x; omega
theorem sizes_mem {l : List V} {v : V} (h : v ∈ l) : v.size ≤ sizes l := by
  induction l with
  | nil => simp at h
  | cons x a ih =>
    rw [sizes_cons]
    rcases List.mem_cons.1 h with rfl | h
    · omega
    · have := ih h; omega
theorem size_get (l : List V) (i : Nat) (h : i < l.length) : l[i].size ≤ sizes l := sizes_mem (List.getElem_mem h)
theorem sizes_take (l : List V) (i : Nat) (h : i < l.length) : sizes (l.take (i + 1)) = sizes (l.take i) + l[i].size := by
  rw [List.take_add_one, sizes_append, List.getElem?_eq_getElem h]
  simp [sizes_cons, sizes_nil]
theorem sizes_take_le (l : List V) (i : Nat) : sizes (l.take i) ≤ sizes l := by
  have h : sizes l = sizes (l.take i ++ l.drop i) := by rw [List.take_append_drop]
  rw [h, sizes_append]; omega

/-- The same? -/
def V.same : V → V → Bool
  | ⟨k, kk, n, l⟩, ⟨k', kk', n', l'⟩ => k == k' && kk == kk' && n == n' && sames l l'
  where sames : List V → List V → Bool
    | [], [] => true
    | a :: l, b :: l' => V.same a b && sames l l'
    | [], _ :: _ => false
    | _ :: _, [] => false
abbrev sames (a b : List V) : Bool := V.same.sames a b
theorem same_eq (v u : V) : v.same u = (v.kind == u.kind && v.k == u.k && v.n == u.n && sames v.l u.l) := by cases v; cases u; rw [V.same]
theorem sames_cons (a b : V) (l l' : List V) : sames (a :: l) (b :: l') = (a.same b && sames l l') := by simp only [sames, V.same.sames]
theorem v_ext {x y : V} : x = y ↔ (x.kind = y.kind ∧ x.k = y.k ∧ x.n = y.n) ∧ x.l = y.l := by cases x; cases y; simp [and_assoc]
theorem same_iff (v : V) : ∀ u, v.same u = true ↔ v = u := by
  induction v using V.ind' with
  | h v ih =>
    intro u
    have key : ∀ (a b : List V), (∀ x ∈ a, ∀ u, x.same u = true ↔ x = u) → (sames a b = true ↔ a = b) := by
      intro a
      induction a with
      | nil => intro b _; cases b <;> simp [sames, V.same.sames]
      | cons x a iha =>
        intro b hx
        cases b with
        | nil => simp [sames, V.same.sames]
        | cons y b =>
          rw [sames_cons, Bool.and_eq_true, hx x (by simp) y, iha b fun z hz => hx z (by simp [hz])]
          simp
    rw [same_eq, Bool.and_eq_true, key v.l u.l ih, v_ext]
    simp [and_assoc]
theorem same_refl (v : V) : v.same v = true := (same_iff v v).2 rfl
theorem sames_iff (a b : List V) : sames a b = true ↔ a = b := by
  induction a generalizing b with
  | nil => cases b <;> simp [sames, V.same.sames]
  | cons x a ih =>
    cases b with
    | nil => simp [sames, V.same.sames]
    | cons y b => rw [sames_cons, Bool.and_eq_true, same_iff, ih]; simp
theorem sames_true {a b : List V} (h : a = b) : sames a b = true := (sames_iff a b).2 h
theorem sames_false {a b : List V} (h : ¬ a = b) : sames a b = false := by
  cases e : sames a b with
  | false => rfl
  | true => exact absurd ((sames_iff a b).1 e) h
theorem same_true {v u : V} (h : v = u) : v.same u = true := (same_iff v u).2 h
theorem same_false {v u : V} (h : ¬ v = u) : v.same u = false := by
  cases e : v.same u with
  | false => rfl
  | true => exact absurd ((same_iff v u).1 e) h
theorem take_eq {a b : List V} (hl : a.length = b.length) (j : Nat) (hj : j < a.length) : (a.take (j + 1) = b.take (j + 1)) ↔ (a.take j = b.take j ∧ a[j] = b[j]'(hl ▸ hj)) := by
  rw [List.take_add_one, List.take_add_one, List.getElem?_eq_getElem hj, List.getElem?_eq_getElem (hl ▸ hj)]
  constructor
  · intro h
    obtain ⟨h1, h2⟩ := List.append_inj h (by simp; omega)
    exact ⟨h1, by simpa using h2⟩
  · rintro ⟨h1, h2⟩; rw [h1, h2]

/-- How deep expressions stand in one. -/
def V.deep : V → Nat
  | ⟨_, _, _, l⟩ => deeps l
  where deeps : List V → Nat
    | [] => 0
    | v :: l => max (1 + V.deep v) (deeps l)
abbrev deeps (l : List V) : Nat := V.deep.deeps l
theorem deep_eq (v : V) : v.deep = deeps v.l := by cases v; rw [V.deep]
theorem deeps_nil : deeps [] = 0 := by simp only [deeps, V.deep.deeps]
theorem deeps_cons (v : V) (l : List V) : deeps (v :: l) = max (1 + v.deep) (deeps l) := by simp only [deeps, V.deep.deeps]
theorem deeps_append (a b : List V) : deeps (a ++ b) = max (deeps a) (deeps b) := by
  induction a with
  | nil => simp [deeps_nil]
  | cons x a ih => rw [List.cons_append, deeps_cons, deeps_cons, ih]; omega
theorem deeps_take (l : List V) (i : Nat) (h : i < l.length) : deeps (l.take (i + 1)) = max (deeps (l.take i)) (1 + deeps l[i].l) := by
  rw [List.take_add_one, deeps_append, List.getElem?_eq_getElem h]
  simp [deeps_cons, deeps_nil, deep_eq]
theorem deeps_take_le (l : List V) (i : Nat) : deeps (l.take i) ≤ deeps l := by
  have h : deeps l = deeps (l.take i ++ l.drop i) := by rw [List.take_append_drop]
  rw [h, deeps_append]; omega
theorem deeps_pos {l : List V} (h : l ≠ []) : 1 ≤ deeps l := by
  cases l with
  | nil => exact absurd rfl h
  | cons v l => rw [deeps_cons]; omega
theorem deeps_zero {l : List V} : deeps l = 0 ↔ l = [] := by
  constructor
  · intro h; cases l with
    | nil => rfl
    | cons v l => rw [deeps_cons] at h; omega
  · rintro rfl; exact deeps_nil
theorem deeps_one (v : V) : deeps [v] = 1 + v.deep := by rw [deeps_cons, deeps_nil]; omega

/-- How many are in one of a kind. -/
def partsI (k : Int) : Int :=
  if k = 7 then 3 else if k = 5 ∨ k = 6 ∨ k = 8 ∨ k = 14 ∨ k = 19 then 2
  else if k = 9 ∨ k = 10 ∨ k = 11 ∨ k = 12 ∨ k = 13 ∨ k = 15 ∨ k = 16 ∨ k = 17 ∨ k = 18 ∨ k = 20 then 1
  else if k = 1 ∨ k = 2 ∨ k = 3 ∨ k = 4 ∨ k = 21 then 0 else -1
/-- What is wrong with K. -/
def faultK (F kind k o : Int) : Int :=
  if kind = 4 then (if 0 ≤ k ∧ k < o then 0 else 1)
  else if kind = 6 then (if 1 ≤ k ∧ k ≤ 5 then 0 else 1)
  else if kind = 15 then (if 0 ≤ k ∧ k ≤ 15 then 0 else 1)
  else if kind = 18 then (if 0 ≤ k ∧ k < F then 0 else 1)
  else if k = 0 then 0 else 5
/-- What is wrong with an expression by itself, among so many functions, with so many names open. -/
def fault1 (F : Int) (v : V) (o : Int) : Int :=
  if partsI v.kind < 0 then 2 else if (v.l.length : Int) ≠ partsI v.kind then 5 else if v.n ≠ 0 ∧ v.kind ≠ 2 then 5
  else if faultK F v.kind v.k o ≠ 0 then faultK F v.kind v.k o else if v.kind = 5 ∧ 12 ≤ o then 3 else 0
/-- How many names are open in the one at a place. -/
def opens (kind o : Int) (i : Nat) : Int := if kind = 5 ∧ i = 1 then o + 1 else o
/-- The first fault, outer ones first, from the left. -/
def V.bad (F : Int) : V → Int → Int
  | ⟨kind, k, n, l⟩, o => if fault1 F ⟨kind, k, n, l⟩ o = 0 then bads kind l 0 o else fault1 F ⟨kind, k, n, l⟩ o
  where bads (kind : Int) : List V → Nat → Int → Int
    | [], _, _ => 0
    | v :: l, i, o => if V.bad F v (opens kind o i) = 0 then bads kind l (i + 1) o else V.bad F v (opens kind o i)
abbrev bads (F kind : Int) (l : List V) (i : Nat) (o : Int) : Int := V.bad.bads F kind l i o
theorem bad_eq (F : Int) (v : V) (o : Int) : v.bad F o = if fault1 F v o = 0 then bads F v.kind v.l 0 o else fault1 F v o := by cases v; rw [V.bad]
theorem bads_nil (F kind : Int) (i : Nat) (o : Int) : bads F kind [] i o = 0 := by simp only [bads, V.bad.bads]
theorem bads_cons (F kind : Int) (v : V) (l : List V) (i : Nat) (o : Int) : bads F kind (v :: l) i o = if v.bad F (opens kind o i) = 0 then bads F kind l (i + 1) o else v.bad F (opens kind o i) := by simp only [bads, V.bad.bads]
/-- A module's fault in one function. -/
def fun1 (F : Int) (v : V) : Int := if 30 < v.deep then 4 else if 120 < v.size then 3 else v.bad F 0
/-- The first function with a fault: its code, its number. -/
def funs (F : Int) : List V → Nat → Int × Int
  | [], _ => (0, 0)
  | v :: l, i => if fun1 F v = 0 then funs F l (i + 1) else (fun1 F v, (i : Int))
/-- A module's fault. -/
def modFault (l : List V) : Int × Int := if l.length < 1 ∨ 6 < l.length then (3, -1) else funs (l.length : Int) l 0
end Go.Proofs.Ytjcniiojcigefad
