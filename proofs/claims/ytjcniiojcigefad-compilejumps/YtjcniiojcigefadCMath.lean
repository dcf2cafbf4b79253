/- Instructions of expressions, in plain mathematics: which they are, how many, where they go. -/
import Derived.Test.YtjcniiojcigefadTree
namespace Go.Proofs.Ytjcniiojcigefad
/-- Nothing is wrong with it by itself. -/
def Ok (v : V) : Prop := ∃ F o, v.bad F o = 0
theorem bads_get {F kind : Int} {l : List V} {i : Nat} {o : Int} (h : bads F kind l i o = 0) : ∀ x ∈ l, Ok x := by
  induction l generalizing i with
  | nil => intro x hx; simp at hx
  | cons v l ih =>
    rw [bads_cons] at h
    by_cases h0 : v.bad F (opens kind o i) = 0
    · rw [if_pos h0] at h
      intro x hx
      rcases List.mem_cons.1 hx with rfl | hx
      · exact ⟨F, _, h0⟩
      · exact ih h x hx
    · rw [if_neg h0] at h; exact absurd h h0
theorem bad_one {F : Int} {v : V} {o : Int} (h : v.bad F o = 0) : fault1 F v o = 0 ∧ bads F v.kind v.l 0 o = 0 := by
  rw [bad_eq] at h
  by_cases h0 : fault1 F v o = 0
  · rw [if_pos h0] at h; exact ⟨h0, h⟩
  · rw [if_neg h0] at h; exact absurd h h0
theorem bads_one {F kind : Int} {v : V} {l : List V} {i : Nat} {o : Int} (h : bads F kind (v :: l) i o = 0) : v.bad F (opens kind o i) = 0 ∧ bads F kind l (i + 1) o = 0 := by
  rw [bads_cons] at h
  by_cases h0 : v.bad F (opens kind o i) = 0
  · rw [if_pos h0] at h; exact ⟨h0, h⟩
  · rw [if_neg h0] at h; exact absurd h h0
theorem Ok.kids {v : V} (h : Ok v) : ∀ x ∈ v.l, Ok x := by
  obtain ⟨F, o, h⟩ := h
  exact bads_get (bad_one h).2
theorem fault_facts {F : Int} {v : V} {o : Int} (h : fault1 F v o = 0) : (1 ≤ v.kind ∧ v.kind ≤ 21) ∧ (v.l.length : Int) = partsI v.kind ∧ (v.kind = 4 → v.k < o) ∧ (v.kind = 5 → o < 12) := by
  unfold fault1 at h
  by_cases h1 : partsI v.kind < 0
  · rw [if_pos h1] at h; cases h
  rw [if_neg h1] at h
  by_cases h2 : (v.l.length : Int) ≠ partsI v.kind
  · rw [if_pos h2] at h; cases h
  rw [if_neg h2] at h
  by_cases h3 : v.n ≠ 0 ∧ v.kind ≠ 2
  · rw [if_pos h3] at h; cases h
  rw [if_neg h3] at h
  by_cases h4 : faultK F v.kind v.k o ≠ 0
  · rw [if_pos h4] at h; exact absurd h h4
  rw [if_neg h4] at h
  refine ⟨?_, by omega, fun e => ?_, fun e => ?_⟩
  · unfold partsI at h1
    generalize v.kind = x at h1
    repeat' split at h1
    all_goals omega
  · unfold faultK at h4
    rw [if_pos e] at h4
    by_cases e2 : 0 ≤ v.k ∧ v.k < o
    · exact e2.2
    · rw [if_neg e2] at h4; exact absurd (by decide) h4
  · by_cases e2 : 12 ≤ o
    · rw [if_pos ⟨e, e2⟩] at h; cases h
    · omega
theorem Ok.two {v : V} (h : Ok v) (hk : v.kind = 5) : ∃ a b, v.l = [a, b] := by
  obtain ⟨F, o, h⟩ := h
  have h1 := (fault_facts (bad_one h).1).2.1
  rw [hk, show partsI 5 = 2 by decide] at h1
  match h2 : v.l with
  | [a, b] => exact ⟨a, b, rfl⟩
  | [] => rw [h2] at h1; simp at h1
  | [_] => rw [h2] at h1; simp at h1
  | _ :: _ :: _ :: _ => rw [h2] at h1; simp only [List.length_cons] at h1; omega
theorem Ok.three {v : V} (h : Ok v) (hk : v.kind = 7) : ∃ a b c, v.l = [a, b, c] := by
  obtain ⟨F, o, h⟩ := h
  have h1 := (fault_facts (bad_one h).1).2.1
  rw [hk, show partsI 7 = 3 by decide] at h1
  match h2 : v.l with
  | [a, b, c] => exact ⟨a, b, c, rfl⟩
  | [] => rw [h2] at h1; simp at h1
  | [_] => rw [h2] at h1; simp at h1
  | [_, _] => rw [h2] at h1; simp at h1
  | _ :: _ :: _ :: _ :: _ => rw [h2] at h1; simp only [List.length_cons] at h1; omega

/-- An instruction. -/
structure Ik where
  op : Int
  k : Int
  n : Int
/-- What stands ahead of the expression at a place in one of a kind. -/
def preN (kind : Int) (i : Nat) : Nat := if kind = 5 ∧ i = 1 ∨ kind = 7 ∧ (i = 1 ∨ i = 2) then 1 else 0
def preC (kind : Int) (i len p : Nat) : List Ik :=
  if kind = 5 ∧ i = 1 then [⟨101, 0, 0⟩] else if kind = 7 ∧ i = 1 then [⟨103, (p + len + 2 : Nat), 0⟩] else if kind = 7 ∧ i = 2 then [⟨104, (p + len + 1 : Nat), 0⟩] else []
/-- What stands behind all. -/
def postC (kind k n : Int) : List Ik := if kind = 5 then [⟨102, 0, 0⟩] else if kind = 7 then [] else [⟨kind, k, n⟩]
/-- The instructions of an expression that begins at a place. -/
def V.code : V → Nat → List Ik
  | ⟨kind, k, n, l⟩, p => ⟨100, 0, 0⟩ :: (codes kind l 0 (p + 1) ++ postC kind k n)
  where codes (kind : Int) : List V → Nat → Nat → List Ik
    | [], _, _ => []
    | v :: l, i, p => preC kind i (V.code v (p + preN kind i)).length p ++ (V.code v (p + preN kind i) ++ codes kind l (i + 1) (p + preN kind i + (V.code v (p + preN kind i)).length))
abbrev codes (kind : Int) (l : List V) (i p : Nat) : List Ik := V.code.codes kind l i p
theorem code_eq (v : V) (p : Nat) : v.code p = ⟨100, 0, 0⟩ :: (codes v.kind v.l 0 (p + 1) ++ postC v.kind v.k v.n) := by cases v; rw [V.code]
theorem codes_nil (kind : Int) (i p : Nat) : codes kind [] i p = [] := by simp only [codes, V.code.codes]
theorem codes_cons (kind : Int) (v : V) (l : List V) (i p : Nat) : codes kind (v :: l) i p = preC kind i (v.code (p + preN kind i)).length p ++ (v.code (p + preN kind i) ++ codes kind l (i + 1) (p + preN kind i + (v.code (p + preN kind i)).length)) := by simp only [codes, V.code.codes]
theorem pre_len (kind : Int) (i len p : Nat) : (preC kind i len p).length = preN kind i := by
  unfold preC preN
  by_cases h1 : kind = 5 ∧ i = 1
  · rw [if_pos h1, if_pos (.inl h1)]; rfl
  · rw [if_neg h1]
    by_cases h2 : kind = 7 ∧ i = 1
    · rw [if_pos h2, if_pos (.inr ⟨h2.1, .inl h2.2⟩)]; rfl
    · rw [if_neg h2]
      by_cases h3 : kind = 7 ∧ i = 2
      · rw [if_pos h3, if_pos (.inr ⟨h3.1, .inr h3.2⟩)]; rfl
      · rw [if_neg h3, if_neg (by rintro (h | ⟨h, h' | h'⟩); exact h1 h; exact h2 ⟨h, h'⟩; exact h3 ⟨h, h'⟩)]; rfl
theorem pre_le (kind : Int) (i : Nat) : preN kind i ≤ 1 := by unfold preN; split <;> omega
theorem post_le (kind k n : Int) : (postC kind k n).length ≤ 1 := by
  unfold postC; repeat' split
  all_goals simp
theorem code_len (v : V) : ∀ p, (v.code p).length + 1 ≤ 3 * v.size := by
  induction v using V.ind' with
  | h v ih =>
    have key : ∀ (l : List V), (∀ x ∈ l, ∀ p, (x.code p).length + 1 ≤ 3 * x.size) → ∀ i p, (codes v.kind l i p).length ≤ 3 * sizes l := by
      intro l
      induction l with
      | nil => intro _ i p; rw [codes_nil]; simp
      | cons x l ihl =>
        intro hx i p
        rw [codes_cons, List.length_append, List.length_append, pre_len, sizes_cons]
        have h1 := hx x (by simp) (p + preN v.kind i)
        have h2 := ihl (fun y hy => hx y (by simp [hy])) (i + 1) (p + preN v.kind i + (x.code (p + preN v.kind i)).length)
        have h3 := pre_le v.kind i
        omega
    intro p
    rw [code_eq, List.length_cons, List.length_append, size_eq]
    have h1 := key v.l ih 0 (p + 1)
    have h2 := post_le v.kind v.k v.n
    omega
theorem code_pos (v : V) (p : Nat) : 1 ≤ (v.code p).length := by rw [code_eq, List.length_cons]; omega
theorem codes_len (kind : Int) (l : List V) : ∀ i p, (codes kind l i p).length ≤ 3 * sizes l := by
  induction l with
  | nil => intro i p; rw [codes_nil]; simp
  | cons x l ih =>
    intro i p
    rw [codes_cons, List.length_append, List.length_append, pre_len, sizes_cons]
    have h1 := code_len x (p + preN kind i)
    have h2 := ih (i + 1) (p + preN kind i + (x.code (p + preN kind i)).length)
    have h3 := pre_le kind i
    omega
/-- Those of a let. -/
def letC (a b : V) (p : Nat) : List Ik := a.code p ++ ([⟨101, 0, 0⟩] ++ (b.code (p + (a.code p).length + 1) ++ [⟨102, 0, 0⟩]))
theorem code_let {v a b : V} (hk : v.kind = 5) (hl : v.l = [a, b]) (p : Nat) : v.code p = [⟨100, 0, 0⟩] ++ letC a b (p + 1) := by
  rw [code_eq, hl, hk, codes_cons, codes_cons, codes_nil]
  simp [preC, preN, postC, letC]
/-- Those of an if. -/
def elseAt (a b : V) (p : Nat) : Nat := p + (a.code p).length + 1 + (b.code (p + (a.code p).length + 1)).length + 1
def ifC (a b c : V) (p : Nat) : List Ik :=
  a.code p ++ ([⟨103, (elseAt a b p : Nat), 0⟩] ++ (b.code (p + (a.code p).length + 1) ++ ([⟨104, (elseAt a b p + (c.code (elseAt a b p)).length : Nat), 0⟩] ++ c.code (elseAt a b p))))
theorem code_if {v a b c : V} (hk : v.kind = 7) (hl : v.l = [a, b, c]) (p : Nat) : v.code p = [⟨100, 0, 0⟩] ++ ifC a b c (p + 1) := by
  rw [code_eq, hl, hk, codes_cons, codes_cons, codes_cons, codes_nil]
  simp [preC, preN, postC, ifC, elseAt]
  omega
/-- Those of others. -/
def codesP (l : List V) (p : Nat) : List Ik := codes 0 l 0 p
theorem codes_plain {kind : Int} (h5 : kind ≠ 5) (h7 : kind ≠ 7) (l : List V) : ∀ i p, codes kind l i p = codes 0 l 0 p := by
  have e : ∀ (x : Int), x ≠ 5 → x ≠ 7 → ∀ i len p, preC x i len p = [] ∧ preN x i = 0 := by
    intro x h5 h7 i len p
    unfold preC preN
    rw [if_neg (by omega), if_neg (by omega), if_neg (by omega), if_neg (by omega)]
    exact ⟨rfl, rfl⟩
  have key : ∀ l i j p, codes kind l i p = codes 0 l j p := by
    intro l
    induction l with
    | nil => intro i j p; rw [codes_nil, codes_nil]
    | cons x l ih =>
      intro i j p
      rw [codes_cons, codes_cons, (e kind h5 h7 i _ p).1, (e kind h5 h7 i 0 p).2, (e 0 (by decide) (by decide) j _ p).1, (e 0 (by decide) (by decide) j 0 p).2, ih (i + 1) (j + 1)]
  exact fun i p => key l i 0 p
theorem codesP_nil (p : Nat) : codesP [] p = [] := by unfold codesP; exact codes_nil _ _ _
theorem codesP_cons (v : V) (l : List V) (p : Nat) : codesP (v :: l) p = v.code p ++ codesP l (p + (v.code p).length) := by
  unfold codesP
  rw [codes_cons, codes_plain (by decide) (by decide) l 1]
  simp [preC, preN]
theorem codesP_app (a b : List V) : ∀ p, codesP (a ++ b) p = codesP a p ++ codesP b (p + (codesP a p).length) := by
  induction a with
  | nil => intro p; simp [codesP_nil]
  | cons x a ih => intro p; rw [List.cons_append, codesP_cons, codesP_cons, ih, List.append_assoc, List.length_append, Nat.add_assoc]
theorem codesP_take (l : List V) (j : Nat) (h : j < l.length) (p : Nat) : codesP (l.take (j + 1)) p = codesP (l.take j) p ++ l[j].code (p + (codesP (l.take j) p).length) := by
  rw [List.take_add_one, List.getElem?_eq_getElem h, codesP_app]
  simp [codesP_cons, codesP_nil]
theorem codesP_len (l : List V) (p : Nat) : (codesP l p).length ≤ 3 * sizes l := codes_len 0 l 0 p
theorem code_other {v : V} (h5 : v.kind ≠ 5) (h7 : v.kind ≠ 7) (p : Nat) : v.code p = [⟨100, 0, 0⟩] ++ (codesP v.l (p + 1) ++ [⟨v.kind, v.k, v.n⟩]) := by
  rw [code_eq, codes_plain h5 h7, postC, if_neg h5, if_neg h7]
  rfl
/-- Those of a function. -/
def funC (v : V) : List Ik := v.code 0 ++ [⟨105, 0, 0⟩]
theorem funC_len (v : V) : (funC v).length ≤ 3 * v.size := by unfold funC; rw [List.length_append]; exact code_len v 0
theorem funC_pos (v : V) : 2 ≤ (funC v).length := by unfold funC; rw [List.length_append]; have := code_pos v 0; simp; omega
end Go.Proofs.Ytjcniiojcigefad
