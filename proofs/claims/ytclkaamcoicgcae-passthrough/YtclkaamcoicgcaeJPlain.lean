/- Values as trees, in plain mathematics: how many parts, the first fault, capabilities, gates, the text; and that another value has another text. Plain mathematics: capabilities, ways, rights, gates, steps. No program. Plain mathematics of the document's net: the numbers of those on a way, and rights bit by bit. -/
import Derived.Lib.ItoaLen
import Derived.WalkKit
import Derived.ProofKit
import Derived.OpenShut
namespace Go.Proofs.Ytclkaamcoicgcae
/-- A value: its kind, its number, what is in it. -/
structure V where
  kind : Int
  n : Int
  l : List V
theorem V.ind {P : V → Prop} (h : ∀ k n l, (∀ x ∈ l, P x) → P ⟨k, n, l⟩) (v : V) : P v :=
  V.rec (motive_1 := P) (motive_2 := fun l => ∀ x ∈ l, P x) (fun k n l ih => h k n l ih) (by simp) (fun a l h1 h2 => by simp only [List.mem_cons, forall_eq_or_imp]; exact ⟨h1, h2⟩) v
theorem V.ind' {P : V → Prop} (h : ∀ v : V, (∀ x ∈ v.l, P x) → P v) (v : V) : P v := V.ind (fun k n l ih => h ⟨k, n, l⟩ ih) v
def V.size : V → Nat
  | ⟨_, _, l⟩ => 1 + sizes l
  where sizes : List V → Nat
    | [] => 0
    | v :: l => V.size v + sizes l
abbrev sizes (l : List V) : Nat := V.size.sizes l
theorem size_mk (k n : Int) (l : List V) : V.size ⟨k, n, l⟩ = 1 + sizes l := by rw [V.size]
theorem size_eq (v : V) : v.size = 1 + sizes v.l := by cases v; exact size_mk _ _ _
theorem sizes_nil : sizes [] = 0 := by simp only [sizes, V.size.sizes]
theorem sizes_cons (v : V) (l : List V) : sizes (v :: l) = v.size + sizes l := by simp only [sizes, V.size.sizes]
theorem sizes_append (a b : List V) : sizes (a ++ b) = sizes a + sizes b := by
  induction a with
  | nil => simp [sizes_nil]
  | cons x a ih => rw [List.cons_append, sizes_cons, sizes_cons, ih]; omega
theorem size_pos (v : V) : 1 ≤ v.size := by rw [size_eq]; omega
theorem sizes_one (v : V) : sizes [v] = v.size := by rw [sizes_cons, sizes_nil]; rfl
theorem sizes_len (l : List V) : l.length ≤ sizes l := by
  induction l with
  | nil => simp
  | cons x a ih => rw [sizes_cons, List.length_cons]; have := size_pos x; omega
theorem sizes_mem {l : List V} {v : V} (h : v ∈ l) : v.size ≤ sizes l := by
  induction l with
  | nil => simp at h
  | cons x a ih =>
    rw [sizes_cons]
    rcases List.mem_cons.1 h with rfl | h
    · omega
    · have := ih h; omega
theorem size_get (l : List V) (i : Nat) (h : i < l.length) : l[i].size ≤ sizes l := sizes_mem (List.getElem_mem h)
theorem sizes_take (l : List V) (i : Nat) (h : i < l.length) : sizes (l.take (i + 1)) = sizes (l.take i) + l[i].size := by
  rw [List.take_add_one, sizes_append, List.getElem?_eq_getElem h]
  simp [sizes_cons, sizes_nil]
theorem sizes_take_le (l : List V) (i : Nat) : sizes (l.take i) ≤ sizes l := by
  have h : sizes l = sizes (l.take i ++ l.drop i) := by rw [List.take_append_drop]
  rw [h, sizes_append]; omega

/-- The same? -/
def V.same : V → V → Bool
  | ⟨k, n, l⟩, ⟨k', n', l'⟩ => k == k' && n == n' && sames l l'
  where sames : List V → List V → Bool
    | [], [] => true
    | a :: l, b :: l' => V.same a b && sames l l'
    | [], _ :: _ => false
    | _ :: _, [] => false
abbrev sames (a b : List V) : Bool := V.same.sames a b
theorem same_mk (k n : Int) (l : List V) (k' n' : Int) (l' : List V) : V.same ⟨k, n, l⟩ ⟨k', n', l'⟩ = (k == k' && n == n' && sames l l') := by rw [V.same]
theorem same_eq (v u : V) : v.same u = (v.kind == u.kind && v.n == u.n && sames v.l u.l) := by cases v; cases u; exact same_mk _ _ _ _ _ _
theorem sames_cons (a b : V) (l l' : List V) : sames (a :: l) (b :: l') = (a.same b && sames l l') := by simp only [sames, V.same.sames]
theorem same_iff (v : V) : ∀ u, v.same u = true ↔ v = u := by
  induction v using V.ind with
  | h k n l ih =>
    intro u
    obtain ⟨k', n', l'⟩ := u
    rw [same_mk]
    have key : ∀ (a b : List V), (∀ x ∈ a, ∀ u, x.same u = true ↔ x = u) → (sames a b = true ↔ a = b) := by
      intro a
      induction a with
      | nil => intro b _; cases b <;> simp [sames, V.same.sames]
      | cons x a iha =>
        intro b hx
        cases b with
        | nil => simp [sames, V.same.sames]
        | cons y b =>
          rw [sames_cons, Bool.and_eq_true, hx x (by simp) y, iha b fun z hz => hx z (by simp [hz])]
          simp
    rw [Bool.and_eq_true, Bool.and_eq_true, key l l' ih]
    simp [and_assoc]
theorem same_refl (v : V) : v.same v = true := (same_iff v v).2 rfl
theorem sames_get {a b : List V} (hl : a.length = b.length) : sames a b = (List.range a.length).all fun i => match a[i]?, b[i]? with | some x, some y => x.same y | _, _ => true := by
  induction a generalizing b with
  | nil => cases b <;> simp_all [sames, V.same.sames]
  | cons x a ih =>
    cases b with
    | nil => simp at hl
    | cons y b =>
      rw [sames_cons, ih (by simpa using hl), List.length_cons, List.range_succ_eq_map, List.all_cons, List.all_map]
      rfl

theorem v_ext {x y : V} : x = y ↔ (x.kind = y.kind ∧ x.n = y.n) ∧ x.l = y.l := by cases x; cases y; simp [and_assoc]
theorem sames_iff (a b : List V) : sames a b = true ↔ a = b := by
  induction a generalizing b with
  | nil => cases b <;> simp [sames, V.same.sames]
  | cons x a ih =>
    cases b with
    | nil => simp [sames, V.same.sames]
    | cons y b => rw [sames_cons, Bool.and_eq_true, same_iff, ih]; simp
theorem sames_true {a b : List V} (h : a = b) : sames a b = true := (sames_iff a b).2 h
theorem sames_false {a b : List V} (h : ¬ a = b) : sames a b = false := by
  cases e : sames a b with
  | false => rfl
  | true => exact absurd ((sames_iff a b).1 e) h
theorem same_true {v u : V} (h : v = u) : v.same u = true := (same_iff v u).2 h
theorem same_false {v u : V} (h : ¬ v = u) : v.same u = false := by
  cases e : v.same u with
  | false => rfl
  | true => exact absurd ((same_iff v u).1 e) h
theorem take_eq {a b : List V} (hl : a.length = b.length) (j : Nat) (hj : j < a.length) : (a.take (j + 1) = b.take (j + 1)) ↔ (a.take j = b.take j ∧ a[j] = b[j]'(hl ▸ hj)) := by
  rw [List.take_add_one, List.take_add_one, List.getElem?_eq_getElem hj, List.getElem?_eq_getElem (hl ▸ hj)]
  constructor
  · intro h
    obtain ⟨h1, h2⟩ := List.append_inj h (by simp; omega)
    exact ⟨h1, by simpa using h2⟩
  · rintro ⟨h1, h2⟩; rw [h1, h2]
/-- A value and all that is in it, the outer one first, from the left. -/
def V.pre : V → List V
  | ⟨k, n, l⟩ => ⟨k, n, l⟩ :: pres l
  where pres : List V → List V
    | [] => []
    | v :: l => V.pre v ++ pres l
abbrev pres (l : List V) : List V := V.pre.pres l
theorem pre_mk (k n : Int) (l : List V) : V.pre ⟨k, n, l⟩ = ⟨k, n, l⟩ :: pres l := by rw [V.pre]
theorem pre_eq (v : V) : v.pre = v :: pres v.l := by cases v; exact pre_mk _ _ _
theorem pres_nil : pres [] = [] := by simp only [pres, V.pre.pres]
theorem pres_cons (v : V) (l : List V) : pres (v :: l) = v.pre ++ pres l := by simp only [pres, V.pre.pres]
theorem pres_append (a b : List V) : pres (a ++ b) = pres a ++ pres b := by
  induction a with
  | nil => simp [pres_nil]
  | cons x a ih => rw [List.cons_append, pres_cons, pres_cons, ih, List.append_assoc]
theorem pres_one (v : V) : pres [v] = v.pre := by rw [pres_cons, pres_nil, List.append_nil]
theorem pres_take (l : List V) (i : Nat) (h : i < l.length) : pres (l.take (i + 1)) = pres (l.take i) ++ l[i].pre := by
  rw [List.take_add_one, pres_append, List.getElem?_eq_getElem h]
  simp [pres_cons, pres_nil]
theorem pres_split (l : List V) (i : Nat) (h : i < l.length) : pres l = pres (l.take i) ++ (l[i].pre ++ pres (l.drop (i + 1))) := by
  rw [← pres_cons, ← pres_append, List.getElem_cons_drop, List.take_append_drop]

/-- How many are in one of a kind. -/
def partsB (k : Int) : Option Nat := if k = 2 then some 2 else if k = 3 then some 1 else if k = 0 ∨ k = 1 ∨ k = 4 ∨ k = 5 then some 0 else none
/-- What is wrong with a part by itself. -/
def V.fault1 (v : V) : Int :=
  match partsB v.kind with
  | none => 2
  | some p => if v.l.length ≠ p then 5 else if (v.kind = 0 ∨ v.kind = 2) ∧ v.n ≠ 0 then 5 else if (v.kind = 3 ∨ v.kind = 4 ∨ v.kind = 5) ∧ v.n < 0 then 1 else 0
/-- The first fault of several. -/
def first : List V → Int
  | [] => 0
  | v :: l => if v.fault1 = 0 then first l else v.fault1
def V.fault (v : V) : Int := first v.pre
def V.check (v : V) : Int := if 40 < v.size then 3 else v.fault
theorem first_append (a b : List V) : first (a ++ b) = if first a = 0 then first b else first a := by
  induction a with
  | nil => simp [first]
  | cons x a ih =>
    by_cases h : x.fault1 = 0
    · have e : first (x :: a) = first a := by rw [first, if_pos h]
      rw [List.cons_append, first, if_pos h, ih, e]
    · have e : first (x :: a) = x.fault1 := by rw [first, if_neg h]
      rw [List.cons_append, first, if_neg h, e, if_neg h]
theorem fault_eq (v : V) : v.fault = if v.fault1 = 0 then first (pres v.l) else v.fault1 := by rw [V.fault, pre_eq, first]
theorem first_pres (l : List V) (i : Nat) (h : i < l.length) (h0 : first (pres (l.take i)) = 0) : first (pres (l.take (i + 1))) = l[i].fault := by
  rw [pres_take l i h, first_append, if_pos h0, V.fault]
theorem first_stop (l : List V) (i : Nat) (h : i < l.length) (h0 : first (pres (l.take i)) = 0) (h1 : l[i].fault ≠ 0) : first (pres l) = l[i].fault := by
  rw [pres_split l i h, first_append, if_pos h0, first_append, ← V.fault, if_neg h1]
theorem fault_get {v : V} (h : v.fault = 0) (i : Nat) (hi : i < v.l.length) : v.l[i].fault = 0 := by
  rw [fault_eq] at h
  by_cases h1 : v.fault1 = 0
  · rw [if_pos h1, pres_split v.l i hi, first_append] at h
    by_cases h2 : first (pres (v.l.take i)) = 0
    · rw [if_pos h2, first_append] at h
      by_cases h3 : first v.l[i].pre = 0
      · exact h3
      · rw [if_neg h3] at h; exact h
    · rw [if_neg h2] at h; exact absurd h h2
  · rw [if_neg h1] at h; exact absurd h h1
theorem fault_one {v : V} (h : v.fault = 0) : v.fault1 = 0 := by
  rw [fault_eq] at h
  by_cases h1 : v.fault1 = 0
  · exact h1
  · rw [if_neg h1] at h; exact h
theorem check_size {v : V} (h : v.check = 0) : v.size ≤ 40 := by
  unfold V.check at h
  by_cases h1 : 40 < v.size
  · rw [if_pos h1] at h; simp at h
  · omega
theorem check_fault {v : V} (h : v.check = 0) : v.fault = 0 := by
  have h1 := check_size h
  unfold V.check at h
  rwa [if_neg (by omega)] at h
theorem check_get {v : V} (h : v.check = 0) (i : Nat) (hi : i < v.l.length) : v.l[i].check = 0 := by
  have h1 := check_size h
  have h2 := fault_get (check_fault h) i hi
  have h3 := size_get v.l i hi
  rw [size_eq] at h1
  unfold V.check
  rw [if_neg (by omega), h2]

/-- The capabilities in it. -/
def capsIn (l : List V) : List Int := l.filterMap fun v => if v.kind = 4 then some v.n else none
def V.caps (v : V) : List Int := capsIn v.pre
def gateIn (l : List V) : Bool := l.any fun v => v.kind == 5
def V.gate (v : V) : Bool := gateIn v.pre
theorem capsIn_append (a b : List V) : capsIn (a ++ b) = capsIn a ++ capsIn b := by simp [capsIn]
theorem gateIn_append (a b : List V) : gateIn (a ++ b) = (gateIn a || gateIn b) := by simp [gateIn]
theorem caps_eq (v : V) : v.caps = (if v.kind = 4 then [v.n] else []) ++ capsIn (pres v.l) := by
  rw [V.caps, pre_eq]
  by_cases h : v.kind = 4 <;> simp [capsIn, h]
theorem gate_eq (v : V) : v.gate = ((v.kind == 5) || gateIn (pres v.l)) := by rw [V.gate, pre_eq]; simp [gateIn]
theorem caps_take (l : List V) (i : Nat) (h : i < l.length) : capsIn (pres (l.take (i + 1))) = capsIn (pres (l.take i)) ++ l[i].caps := by rw [pres_take l i h, capsIn_append, V.caps]
theorem gate_take (l : List V) (i : Nat) (h : i < l.length) : gateIn (pres (l.take (i + 1))) = (gateIn (pres (l.take i)) || l[i].gate) := by rw [pres_take l i h, gateIn_append, V.gate]
theorem pre_len (v : V) : v.pre.length = v.size := by
  induction v using V.ind with
  | h k n l ih =>
    rw [pre_mk, size_mk]
    have key : ∀ l : List V, (∀ x ∈ l, x.pre.length = x.size) → (pres l).length = sizes l := by
      intro l
      induction l with
      | nil => intro _; simp [pres_nil, sizes_nil]
      | cons x l ihl => intro hx; rw [pres_cons, sizes_cons, List.length_append, hx x (by simp), ihl fun y hy => hx y (by simp [hy])]
    simp [key l ih]; omega
theorem caps_len (v : V) : v.caps.length ≤ v.size := by
  rw [← pre_len, V.caps, capsIn]; exact List.length_filterMap_le _ _

theorem pres_len (l : List V) : (pres l).length = sizes l := by
  induction l with
  | nil => simp [pres_nil, sizes_nil]
  | cons x l ih => rw [pres_cons, sizes_cons, List.length_append, pre_len, ih]
theorem caps_lens (l : List V) : (capsIn (pres l)).length ≤ sizes l := by
  rw [← pres_len, capsIn]; exact List.length_filterMap_le _ _
/-- Texts of several, with a blank between. -/
def V.text : V → List UInt8
  | ⟨k, n, l⟩ =>
    if k = 1 then Lib.itoa n else if k = 2 then 40 :: (texts l ++ [41]) else if k = 3 then 91 :: (Lib.itoa n ++ 32 :: (texts l ++ [93])) else if k = 4 then 35 :: Lib.itoa n else if k = 5 then 33 :: Lib.itoa n else [110, 105, 108]
  where texts : List V → List UInt8
    | [] => []
    | v :: l => V.text v ++ match l with | [] => [] | _ :: _ => 32 :: texts l
abbrev texts (l : List V) : List UInt8 := V.text.texts l
theorem text_eq (v : V) : v.text = if v.kind = 1 then Lib.itoa v.n else if v.kind = 2 then 40 :: (texts v.l ++ [41]) else if v.kind = 3 then 91 :: (Lib.itoa v.n ++ 32 :: (texts v.l ++ [93])) else if v.kind = 4 then 35 :: Lib.itoa v.n else if v.kind = 5 then 33 :: Lib.itoa v.n else [110, 105, 108] := by cases v; rw [V.text]
theorem texts_nil : texts [] = [] := by simp only [texts, V.text.texts]
theorem texts_one (v : V) : texts [v] = v.text := by simp only [texts, V.text.texts, List.append_nil]
theorem texts_two (v u : V) (l : List V) : texts (v :: u :: l) = v.text ++ 32 :: texts (u :: l) := by simp only [texts, V.text.texts]
end Go.Proofs.Ytclkaamcoicgcae
namespace Go.Proofs.Ytclkaamcoicgcae.Gr
open Go.ChangeShapes Go.WideShapes Go.ChangeAt Go.RowKit
theorem hid {p : Prop} (h : p) : Hid p := h
structure Nd where
  parent : Int
  gate : Int
  rights : Int
  cell : Int
  plugin : Int
  func : Int
def nd0 : Nd := ⟨0, 0, 0, 0, 0, 0⟩
def thereB (n : Nat) (k : Int) : Bool := decide (0 ≤ k ∧ k < n)
theorem there_yes {n : Nat} {k : Int} (h : thereB n k = true) : ∃ j : Nat, k = j ∧ j < n := by
  simp [thereB] at h
  exact ⟨k.toNat, by omega, by omega⟩
theorem there_nat {n j : Nat} (h : j < n) : thereB n j = true := by simp [thereB]; omega
theorem there_no {n : Nat} {k : Int} (h : thereB n k = false) : k < 0 ∨ (n : Int) ≤ k := by
  simp [thereB] at h
  omega
def openB (os : List Bool) (k : Int) : Bool := thereB os.length k && os.getD k.toNat false
/-- The node's own facts: at its number, with so many gates. -/
structure NdOk (g k : Nat) (n : Nd) : Prop where
  p0 : -1 ≤ n.parent
  p1 : n.parent < k
  g0 : n.gate = -1 ∨ thereB g n.gate = true
  r0 : 0 ≤ n.rights
  r1 : n.rights ≤ 15
  c0 : 0 ≤ n.cell
  c1 : n.cell < 12
  l0 : -1 ≤ n.plugin
  l1 : n.plugin < 4
  f0 : 0 ≤ n.func
  f1 : n.func < 6
theorem NdOk.more {g g' k : Nat} {n : Nd} (h : NdOk g k n) (hg : g ≤ g') : NdOk g' k n := by
  refine { h with g0 := ?_ }
  rcases h.g0 with e | e
  · exact .inl e
  · simp [thereB] at e ⊢; omega
def Wf (ns : List Nd) (g : Nat) : Prop := ∀ k (h : k < ns.length), NdOk g k ns[k]
theorem Wf.nil (g : Nat) : Wf [] g := fun k h => absurd h (by simp)
theorem Wf.snoc {ns : List Nd} {g : Nat} (h : Wf ns g) {n : Nd} (hn : NdOk g ns.length n) : Wf (ns ++ [n]) g := by
  intro k hk
  by_cases e : k < ns.length
  · rw [List.getElem_append_left e]; exact h k e
  · have : k = ns.length := by simp at hk; omega
    subst this
    simpa using hn
theorem Wf.more {ns : List Nd} {g g' : Nat} (h : Wf ns g) (hg : g ≤ g') : Wf ns g' := fun k hk => (h k hk).more hg
def wayF (ns : List Nd) : Nat → Int → List Nd
  | 0, _ => []
  | f + 1, n => if thereB ns.length n then ns.getD n.toNat nd0 :: wayF ns f (ns.getD n.toNat nd0).parent else []
def wayOf (ns : List Nd) (n : Int) : List Nd := wayF ns (n.toNat + 1) n
theorem wayF_no {ns : List Nd} {n : Int} (h : thereB ns.length n = false) (f : Nat) : wayF ns f n = [] := by
  cases f <;> simp [wayF, h]
theorem way_no {ns : List Nd} {n : Int} (h : thereB ns.length n = false) : wayOf ns n = [] := wayF_no h _
theorem getD_of {ns : List Nd} {k : Nat} (h : k < ns.length) : ns.getD k nd0 = ns[k] := by simp [h]
theorem wayF_same {ns : List Nd} {g : Nat} (hw : Wf ns g) : ∀ f f' (n : Int), n.toNat < f → n.toNat < f' → wayF ns f n = wayF ns f' n := by
  intro f
  induction f with
  | zero => intro f' n h _; omega
  | succ f ih =>
    intro f' n h1 h2
    cases f' with
    | zero => omega
    | succ f' =>
      simp only [wayF]
      cases ht : thereB ns.length n with
      | false => simp
      | true =>
        obtain ⟨j, rfl, hj⟩ := there_yes ht
        simp only [Int.toNat_natCast, if_true] at h1 h2 ⊢
        have hk := hw j hj
        rw [getD_of hj]
        congr 1
        have p0 := hk.p0
        have p1 := hk.p1
        by_cases hp : ns[j].parent < 0
        · have e : thereB ns.length ns[j].parent = false := by simp [thereB]; omega
          rw [wayF_no e, wayF_no e]
        · exact ih f' _ (by omega) (by omega)
theorem way_yes {ns : List Nd} {g : Nat} (hw : Wf ns g) {j : Nat} (hj : j < ns.length) : wayOf ns j = ns[j] :: wayOf ns ns[j].parent := by
  have hk := hw j hj
  have p0 := hk.p0
  have p1 := hk.p1
  have e : wayOf ns j = ns[j] :: wayF ns j ns[j].parent := by
    simp only [wayOf, wayF, there_nat hj, if_true, Int.toNat_natCast, getD_of hj]
  rw [e]
  congr 1
  by_cases hp : ns[j].parent < 0
  · have e : thereB ns.length ns[j].parent = false := by simp [thereB]; omega
    rw [wayF_no e, way_no e]
  · exact wayF_same hw _ _ _ (by omega) (by omega)
theorem way_len {ns : List Nd} {g : Nat} (hw : Wf ns g) (n : Int) : (wayOf ns n).length ≤ ns.length := by
  cases ht : thereB ns.length n with
  | false => rw [way_no ht]; simp
  | true =>
    obtain ⟨j, rfl, hj⟩ := there_yes ht
    have : ∀ m j, j < m → j < ns.length → (wayOf ns (j : Int)).length ≤ j + 1 := by
      intro m
      induction m with
      | zero => intro j h _; omega
      | succ m ih =>
        intro j hm hj
        rw [way_yes hw hj]
        have hk := hw j hj
        have p0 := hk.p0
        have p1 := hk.p1
        by_cases hp : ns[j].parent < 0
        · have e : thereB ns.length ns[j].parent = false := by simp [thereB]; omega
          rw [way_no e]; simp
        · obtain ⟨q, hq⟩ : ∃ q : Nat, ns[j].parent = q := ⟨ns[j].parent.toNat, by omega⟩
          rw [hq] at p1 ⊢
          have := ih q (by omega) (by omega)
          simp only [List.length_cons]; omega
    have := this (j + 1) j (by omega) hj
    omega
theorem way_old {ns : List Nd} {g : Nat} (hw : Wf ns g) {n : Nd} (hn : NdOk g ns.length n) : ∀ m j, j < m → j < ns.length → wayOf (ns ++ [n]) (j : Int) = wayOf ns (j : Int) := by
  intro m
  induction m with
  | zero => intro j h _; omega
  | succ m ih =>
    intro j hm hj
    have hw2 := hw.snoc hn
    have hj2 : j < (ns ++ [n]).length := by simp; omega
    rw [way_yes hw2 hj2, way_yes hw hj]
    have e0 : (ns ++ [n])[j] = ns[j] := List.getElem_append_left hj
    rw [e0]
    congr 1
    have hk := hw j hj
    have p0 := hk.p0
    have p1 := hk.p1
    by_cases hp : ns[j].parent < 0
    · have e : thereB ns.length ns[j].parent = false := by simp [thereB]; omega
      have e2 : thereB (ns ++ [n]).length ns[j].parent = false := by simp [thereB]; omega
      rw [way_no e, way_no e2]
    · obtain ⟨q, hq⟩ : ∃ q : Nat, ns[j].parent = q := ⟨ns[j].parent.toNat, by omega⟩
      rw [hq] at p1 ⊢
      exact ih q (by omega) (by omega)
theorem way_mem {ns : List Nd} {g : Nat} (hw : Wf ns g) (n : Int) : ∀ x ∈ wayOf ns n, ∃ k, NdOk g k x := by
  cases ht : thereB ns.length n with
  | false => rw [way_no ht]; simp
  | true =>
    obtain ⟨j, rfl, hj⟩ := there_yes ht
    have : ∀ m j, j < m → j < ns.length → ∀ x ∈ wayOf ns (j : Int), ∃ k, NdOk g k x := by
      intro m
      induction m with
      | zero => intro j h _; omega
      | succ m ih =>
        intro j hm hj x hx
        rw [way_yes hw hj] at hx
        have hk := hw j hj
        have p0 := hk.p0
        have p1 := hk.p1
        rcases List.mem_cons.1 hx with rfl | hx
        · exact ⟨j, hk⟩
        · by_cases hp : ns[j].parent < 0
          · have e : thereB ns.length ns[j].parent = false := by simp [thereB]; omega
            rw [way_no e] at hx; simp at hx
          · obtain ⟨q, hq⟩ : ∃ q : Nat, ns[j].parent = q := ⟨ns[j].parent.toNat, by omega⟩
            rw [hq] at p1 hx
            exact ih q (by omega) (by omega) x hx
    exact this (j + 1) j (by omega) hj
/-- Rights of a way. -/
def passB (os : List Bool) (n : Nd) : Bool := n.gate == -1 || openB os n.gate
def meetW (r : Nat) (ws : List Nd) : Nat := ws.foldl (fun r n => r &&& n.rights.toNat) r
def rightsN (ns : List Nd) (os : List Bool) (n : Int) : Nat := if thereB ns.length n && (wayOf ns n).all (passB os) then meetW 15 (wayOf ns n) else 0
def gatesW (ws : List Nd) : List Int := (ws.map Nd.gate).filter (· != -1)
def gatesOf (ns : List Nd) (n : Int) : List Int := gatesW (wayOf ns n)
def targetOf (ns : List Nd) (n : Int) : Nd := (wayOf ns n).getLastD nd0
theorem and_small (a b : Nat) (ha : a ≤ 15) (hb : b ≤ 15) : bits .and .i64 (a : Int) (b : Int) = ((a &&& b : Nat) : Int) := by
  have h : ∀ r : Fin 16, ∀ m : Fin 16, bits .and .i64 (r.val : Int) (m.val : Int) = ((r.val &&& m.val : Nat) : Int) := by decide +kernel
  exact h ⟨a, by omega⟩ ⟨b, by omega⟩
theorem and_le15 (a b : Nat) (ha : a ≤ 15) : a &&& b ≤ 15 := Nat.le_trans Nat.and_le_left ha
theorem meet_le : ∀ (ws : List Nd) (r : Nat), r ≤ 15 → meetW r ws ≤ 15
  | [], _, h => h
  | _ :: ws, _, h => meet_le ws _ (and_le15 _ _ h)
theorem rights_le (ns : List Nd) (os : List Bool) (n : Int) : rightsN ns os n ≤ 15 := by
  unfold rightsN
  split
  · exact meet_le _ _ (Nat.le_refl _)
  · omega
theorem rights_no {ns : List Nd} {os : List Bool} {n : Int} (h : thereB ns.length n = false) : rightsN ns os n = 0 := by simp [rightsN, h]
theorem gates_no {ns : List Nd} {n : Int} (h : thereB ns.length n = false) : gatesOf ns n = [] := by simp [gatesOf, way_no h, gatesW]
/-- What the steps do. -/
structure Res where
  num : Int
  code : Int
  ns : List Nd
  os : List Bool
def addOf (ns : List Nd) (os : List Bool) (n : Nd) : Res :=
  if ¬ (0 ≤ n.rights ∧ n.rights ≤ 15) then ⟨0, 1, ns, os⟩
  else if n.gate ≠ -1 ∧ thereB os.length n.gate = false then ⟨0, 8, ns, os⟩
  else if ns.length = 80 then ⟨0, 11, ns, os⟩
  else ⟨ns.length, 0, ns ++ [n], os⟩
def gateOf (ns : List Nd) (os : List Bool) : Res := if os.length = 20 then ⟨0, 11, ns, os⟩ else ⟨os.length, 0, ns, os ++ [true]⟩
def cutOf (ns : List Nd) (os : List Bool) (k : Int) : Res := if thereB os.length k then ⟨0, 0, ns, os.set k.toNat false⟩ else ⟨0, 8, ns, os⟩
def cellB (c : Int) : Bool := decide (0 ≤ c ∧ c < 12)
def cellOf (ns : List Nd) (os : List Bool) (c r g : Int) : Res := if cellB c then addOf ns os ⟨-1, g, r, c, -1, 0⟩ else ⟨0, 1, ns, os⟩
def funcB (p f : Int) : Bool := decide (0 ≤ p ∧ p < 4 ∧ 0 ≤ f ∧ f < 6)
def funcOf (ns : List Nd) (os : List Bool) (p f r g : Int) : Res := if funcB p f then addOf ns os ⟨-1, g, r, 0, p, f⟩ else ⟨0, 1, ns, os⟩
def deriveOf (ns : List Nd) (os : List Bool) (p r g : Int) : Res := if thereB ns.length p then addOf ns os ⟨p, g, r, 0, -1, 0⟩ else ⟨0, 8, ns, os⟩
structure Stp where
  d : Int
  a : Int
  b : Int
  c : Int
  e : Int
def stepOf (ns : List Nd) (os : List Bool) (x : Stp) : Res :=
  if x.d = 0 then gateOf ns os else if x.d = 1 then cutOf ns os x.a else if x.d = 2 then cellOf ns os x.a x.b x.c
  else if x.d = 3 then funcOf ns os x.a x.e x.b x.c else if x.d = 4 then deriveOf ns os x.a x.b x.c else ⟨0, 0, ns, os⟩
/-- How a state may go on. -/
structure Grows (ns : List Nd) (os : List Bool) (ns' : List Nd) (os' : List Bool) : Prop where
  nodes : ns' = ns ∨ ∃ n, ns' = ns ++ [n]
  gates : os.length ≤ os'.length
  shut : ∀ k : Nat, k < os.length → os.getD k false = false → os'.getD k false = false
  wf : Wf ns os.length → Wf ns' os'.length
theorem Grows.refl (ns : List Nd) (os : List Bool) : Grows ns os ns os := ⟨.inl rfl, Nat.le_refl _, fun _ _ h => h, id⟩
theorem add_grows (ns : List Nd) (os : List Bool) (n : Nd) (hp : -1 ≤ n.parent ∧ n.parent < ns.length) (hc : 0 ≤ n.cell ∧ n.cell < 12) (hl : -1 ≤ n.plugin ∧ n.plugin < 4) (hf : 0 ≤ n.func ∧ n.func < 6) :
    Grows ns os (addOf ns os n).ns (addOf ns os n).os := by
  unfold addOf
  split
  · exact Grows.refl _ _
  · rename_i h1
    split
    · exact Grows.refl _ _
    · rename_i h2
      split
      · exact Grows.refl _ _
      · refine ⟨.inr ⟨n, rfl⟩, Nat.le_refl _, fun _ _ h => h, fun hw => hw.snoc ?_⟩
        refine ⟨hp.1, hp.2, ?_, by omega, by omega, hc.1, hc.2, hl.1, hl.2, hf.1, hf.2⟩
        by_cases e : n.gate = -1
        · exact .inl e
        · right
          cases ht : thereB os.length n.gate
          · exact absurd ⟨e, ht⟩ h2
          · rfl
theorem step_grows (ns : List Nd) (os : List Bool) (x : Stp) : Grows ns os (stepOf ns os x).ns (stepOf ns os x).os := by
  unfold stepOf
  split
  · unfold gateOf
    split
    · exact Grows.refl _ _
    · refine ⟨.inl rfl, by simp, fun k hk h => ?_, fun hw => hw.more (by simp)⟩
      simp only [List.getD_eq_getElem?_getD] at h ⊢
      rw [List.getElem?_append_left hk]; exact h
  · split
    · unfold cutOf
      split
      · refine ⟨.inl rfl, by simp, fun k hk h => ?_, fun hw => hw.more (by simp)⟩
        simp only [List.getD_eq_getElem?_getD] at h ⊢
        rw [List.getElem?_set]
        split
        · split <;> simp
        · exact h
      · exact Grows.refl _ _
    · split
      · unfold cellOf
        split
        · rename_i h
          simp [cellB] at h
          exact add_grows _ _ _ ⟨by simp, by simp; omega⟩ h ⟨by simp, by simp⟩ ⟨by simp, by simp⟩
        · exact Grows.refl _ _
      · split
        · unfold funcOf
          split
          · rename_i h
            simp [funcB] at h
            exact add_grows _ _ _ ⟨by simp, by simp; omega⟩ ⟨by simp, by simp⟩ ⟨by simp; omega, by simp; omega⟩ ⟨by simp; omega, by simp; omega⟩
          · exact Grows.refl _ _
        · split
          · unfold deriveOf
            split
            · rename_i h
              simp [thereB] at h
              exact add_grows _ _ _ ⟨by simp; omega, by simp; omega⟩ ⟨by simp, by simp⟩ ⟨by simp, by simp⟩ ⟨by simp, by simp⟩
            · exact Grows.refl _ _
          · exact Grows.refl _ _
end Go.Proofs.Ytclkaamcoicgcae.Gr
namespace Go.Proofs.Ytclkaamcoicgcae.Gr
open Go.ChangeShapes Go.WideShapes Go.ChangeAt Go.RowKit
def idxF (ns : List Nd) : Nat → Int → List Int
  | 0, _ => []
  | f + 1, n => if thereB ns.length n then n :: idxF ns f (ns.getD n.toNat nd0).parent else []
def idxOf (ns : List Nd) (n : Int) : List Int := idxF ns (n.toNat + 1) n
def ndAt (ns : List Nd) (i : Int) : Nd := ns.getD i.toNat nd0
theorem idxF_map (ns : List Nd) : ∀ (f : Nat) (n : Int), (idxF ns f n).map (ndAt ns) = wayF ns f n
  | 0, _ => rfl
  | f + 1, n => by
    simp only [idxF, wayF]
    split
    · rw [List.map_cons, idxF_map ns f]; rfl
    · rfl
theorem idx_map (ns : List Nd) (n : Int) : (idxOf ns n).map (ndAt ns) = wayOf ns n := idxF_map ns _ n
theorem idxF_mem (ns : List Nd) : ∀ (f : Nat) (n i : Int), i ∈ idxF ns f n → thereB ns.length i = true
  | 0, _, _, h => by simp [idxF] at h
  | f + 1, n, i, h => by
    simp only [idxF] at h
    split at h
    · rename_i ht
      rcases List.mem_cons.1 h with rfl | h
      · exact ht
      · exact idxF_mem ns f _ i h
    · simp at h
theorem idxF_no {ns : List Nd} {n : Int} (h : thereB ns.length n = false) (f : Nat) : idxF ns f n = [] := by
  cases f <;> simp [idxF, h]
theorem idx_no {ns : List Nd} {n : Int} (h : thereB ns.length n = false) : idxOf ns n = [] := idxF_no h _
theorem idxF_same {ns : List Nd} {g : Nat} (hw : Wf ns g) : ∀ f f' (n : Int), n.toNat < f → n.toNat < f' → idxF ns f n = idxF ns f' n := by
  intro f
  induction f with
  | zero => intro f' n h _; omega
  | succ f ih =>
    intro f' n h1 h2
    cases f' with
    | zero => omega
    | succ f' =>
      simp only [idxF]
      cases ht : thereB ns.length n with
      | false => simp
      | true =>
        obtain ⟨j, rfl, hj⟩ := there_yes ht
        simp only [Int.toNat_natCast, if_true] at h1 h2 ⊢
        have hk := hw j hj
        rw [getD_of hj]
        congr 1
        have p0 := hk.p0
        have p1 := hk.p1
        by_cases hp : ns[j].parent < 0
        · have e : thereB ns.length ns[j].parent = false := by simp [thereB]; omega
          rw [idxF_no e, idxF_no e]
        · exact ih f' _ (by omega) (by omega)
theorem idx_yes {ns : List Nd} {g : Nat} (hw : Wf ns g) {j : Nat} (hj : j < ns.length) : idxOf ns j = (j : Int) :: idxOf ns ns[j].parent := by
  have hk := hw j hj
  have p0 := hk.p0
  have p1 := hk.p1
  have e : idxOf ns j = (j : Int) :: idxF ns j ns[j].parent := by
    simp only [idxOf, idxF, there_nat hj, if_true, Int.toNat_natCast, getD_of hj]
  rw [e]
  congr 1
  by_cases hp : ns[j].parent < 0
  · have e : thereB ns.length ns[j].parent = false := by simp [thereB]; omega
    rw [idxF_no e, idx_no e]
  · exact idxF_same hw _ _ _ (by omega) (by omega)
theorem idx_len (ns : List Nd) (n : Int) : (idxOf ns n).length = (wayOf ns n).length := by rw [← idx_map]; simp
/-- The k-th on a way. -/
theorem idx_at {ns : List Nd} {n : Int} {k : Nat} (hk : k < (idxOf ns n).length) (hk' : k < (wayOf ns n).length) : ∃ i : Nat, (idxOf ns n)[k] = (i : Int) ∧ ∃ hi : i < ns.length, ns[i] = (wayOf ns n)[k] := by
  have hm := idxF_mem ns _ n _ (List.getElem_mem hk)
  obtain ⟨i, e, hi⟩ := there_yes hm
  refine ⟨i, e, hi, ?_⟩
  have : (wayOf ns n)[k] = ndAt ns (idxOf ns n)[k] := by
    have h1 : ((idxOf ns n).map (ndAt ns))[k]? = (wayOf ns n)[k]? := by rw [idx_map]
    rw [List.getElem?_map, List.getElem?_eq_getElem hk, List.getElem?_eq_getElem hk', Option.map_some] at h1
    exact (Option.some.inj h1).symm
  rw [this, e]
  simp [ndAt, hi]
/-- Bit by bit. -/
def bitOk (os : List Bool) (k : Nat) (x : Nd) : Bool := x.rights.toNat.testBit k && passB os x
def sumTo (os : List Bool) (ws : List Nd) : Nat → Nat
  | 0 => 0
  | k + 1 => sumTo os ws k + if ws.all (bitOk os k) then 2 ^ k else 0
theorem meet_bit (k : Nat) : ∀ (ws : List Nd) (r : Nat), (meetW r ws).testBit k = (r.testBit k && ws.all fun x => x.rights.toNat.testBit k)
  | [], r => by simp [meetW]
  | x :: ws, r => by
    show (meetW (r &&& x.rights.toNat) ws).testBit k = _
    rw [meet_bit k ws, Nat.testBit_and, List.all_cons, Bool.and_assoc]
theorem sum_small (M : Nat) (h : M ≤ 15) : (((0 + if M.testBit 0 then 2 ^ 0 else 0) + if M.testBit 1 then 2 ^ 1 else 0) + if M.testBit 2 then 2 ^ 2 else 0) + (if M.testBit 3 then 2 ^ 3 else 0) = M := by
  have H : ∀ r : Fin 16, (((0 + if r.val.testBit 0 then 2 ^ 0 else 0) + if r.val.testBit 1 then 2 ^ 1 else 0) + if r.val.testBit 2 then 2 ^ 2 else 0) + (if r.val.testBit 3 then 2 ^ 3 else 0) = r.val := by decide +kernel
  exact H ⟨M, by omega⟩
theorem all_bit (os : List Bool) (ws : List Nd) (k : Nat) (hk : k < 4) : ws.all (bitOk os k) = (if ws.all (passB os) then meetW 15 ws else 0).testBit k := by
  have h1 : ws.all (bitOk os k) = ((ws.all fun x => x.rights.toNat.testBit k) && ws.all (passB os)) := by
    induction ws with
    | nil => rfl
    | cons x ws ih => simp only [List.all_cons, ih, bitOk]; cases x.rights.toNat.testBit k <;> cases passB os x <;> simp
  have h15 : (15 : Nat).testBit k = true := by
    have : ∀ k : Fin 4, (15 : Nat).testBit k.val = true := by decide
    exact this ⟨k, hk⟩
  rw [h1]
  split
  · rename_i h; rw [h, meet_bit, h15]; simp
  · rename_i h
    have : ws.all (passB os) = false := by simpa using h
    rw [this]; simp
theorem sum_rights {ns : List Nd} {os : List Bool} {n : Int} (ht : thereB ns.length n = true) : sumTo os (wayOf ns n) 4 = rightsN ns os n := by
  have e : rightsN ns os n = if (wayOf ns n).all (passB os) then meetW 15 (wayOf ns n) else 0 := by simp [rightsN, ht]
  have hle : (if (wayOf ns n).all (passB os) then meetW 15 (wayOf ns n) else 0) ≤ 15 := by rw [← e]; exact rights_le _ _ _
  rw [e]
  show (((0 + if (wayOf ns n).all (bitOk os 0) then 2 ^ 0 else 0) + if (wayOf ns n).all (bitOk os 1) then 2 ^ 1 else 0) + if (wayOf ns n).all (bitOk os 2) then 2 ^ 2 else 0) + (if (wayOf ns n).all (bitOk os 3) then 2 ^ 3 else 0) = _
  rw [all_bit os _ 0 (by decide), all_bit os _ 1 (by decide), all_bit os _ 2 (by decide), all_bit os _ 3 (by decide)]
  exact sum_small _ hle
theorem sum_le (os : List Bool) (ws : List Nd) : ∀ k, k ≤ 4 → sumTo os ws k ≤ 15
  | 0, _ => by simp [sumTo]
  | 1, _ => by simp only [sumTo]; split <;> simp
  | 2, _ => by simp only [sumTo]; split <;> split <;> simp
  | 3, _ => by simp only [sumTo]; split <;> split <;> split <;> simp
  | 4, _ => by simp only [sumTo]; split <;> split <;> split <;> split <;> simp
end Go.Proofs.Ytclkaamcoicgcae.Gr
