/- Parts. -/
import Derived.Test.YtkpckmcaeljocaaGreatUV0
import Derived.Lib.OthersKept
import Derived.Deep.RegionLaw
import Derived.Laws.OwnMore
import Derived.StillTailTactics
import Derived.Laws.ResultCell
import Derived.MapKept
import Derived.WideKeyRuns
import Derived.LaidEql
import Derived.Laws.StructEq
namespace Go.Proofs.YtkpckmcaeljocaaGreat.Ex
structure V where
  kind : Int
  k : Int
  n : Int
  l : List V
theorem V.ind' {P : V → Prop} (h : ∀ v : V, (∀ x ∈ v.l, P x) → P v) (v : V) : P v :=
  V.rec (motive_1 := P) (motive_2 := fun l => ∀ x ∈ l, P x) (fun k kk n l ih => h ⟨k, kk, n, l⟩ ih) (by simp) (fun a l h1 h2 => by simp only [List.mem_cons, forall_eq_or_imp]; exact ⟨h1, h2⟩) v
def V.size : V → Nat
  | ⟨_, _, _, l⟩ => 1 + sizes l
  where sizes : List V → Nat
    | [] => 0
    | v :: l => V.size v + sizes l
abbrev sizes (l : List V) : Nat := V.size.sizes l
theorem size_eq (v : V) : v.size = 1 + sizes v.l := by cases v; rw [V.size]
theorem sizes_nil : sizes [] = 0 := by simp only [sizes, V.size.sizes]
theorem sizes_cons (v : V) (l : List V) : sizes (v :: l) = v.size + sizes l := by simp only [sizes, V.size.sizes]
theorem sizes_append (a b : List V) : sizes (a ++ b) = sizes a + sizes b := by
  induction a with
  | nil => simp [sizes_nil]
  | cons x a ih => rw [List.cons_append, sizes_cons, sizes_cons, ih]; omega
theorem size_pos (v : V) : 1 ≤ v.size := by rw [size_eq]; omega
theorem sizes_one (v : V) : sizes [v] = v.size := by rw [sizes_cons, sizes_nil]; rfl
theorem sizes_len (l : List V) : l.length ≤ sizes l := by
  induction l with
  | nil => simp
  | cons x a ih => rw [sizes_cons, List.length_cons]; have := size_pos x; omega
theorem sizes_mem {l : List V} {v : V} (h : v ∈ l) : v.size ≤ sizes l := by
  induction l with
  | nil => simp at h
  | cons x a ih =>
    rw [sizes_cons]
    rcases List.mem_cons.1 h with rfl | h
    · omega
    · have := ih h; omega
theorem size_get (l : List V) (i : Nat) (h : i < l.length) : l[i].size ≤ sizes l := sizes_mem (List.getElem_mem h)
theorem sizes_take (l : List V) (i : Nat) (h : i < l.length) : sizes (l.take (i + 1)) = sizes (l.take i) + l[i].size := by
  rw [List.take_add_one, sizes_append, List.getElem?_eq_getElem h]
  simp [sizes_cons, sizes_nil]
theorem sizes_take_le (l : List V) (i : Nat) : sizes (l.take i) ≤ sizes l := by
  have h : sizes l = sizes (l.take i ++ l.drop i) := by rw [List.take_append_drop]
  rw [h, sizes_append]; omega
def V.same : V → V → Bool
  | ⟨k, kk, n, l⟩, ⟨k', kk', n', l'⟩ => k == k' && kk == kk' && n == n' && sames l l'
  where sames : List V → List V → Bool
    | [], [] => true
    | a :: l, b :: l' => V.same a b && sames l l'
    | [], _ :: _ => false
    | _ :: _, [] => false
abbrev sames (a b : List V) : Bool := V.same.sames a b
theorem v_ext {x y : V} : x = y ↔ (x.kind = y.kind ∧ x.k = y.k ∧ x.n = y.n) ∧ x.l = y.l := by cases x; cases y; simp [and_assoc]
def V.deep : V → Nat
  | ⟨_, _, _, l⟩ => deeps l
  where deeps : List V → Nat
    | [] => 0
    | v :: l => max (1 + V.deep v) (deeps l)
abbrev deeps (l : List V) : Nat := V.deep.deeps l
theorem deep_eq (v : V) : v.deep = deeps v.l := by cases v; rw [V.deep]
theorem deeps_nil : deeps [] = 0 := by simp only [deeps, V.deep.deeps]
theorem deeps_cons (v : V) (l : List V) : deeps (v :: l) = max (1 + v.deep) (deeps l) := by simp only [deeps, V.deep.deeps]
theorem deeps_append (a b : List V) : deeps (a ++ b) = max (deeps a) (deeps b) := by
  induction a with
  | nil => simp [deeps_nil]
  | cons x a ih => rw [List.cons_append, deeps_cons, deeps_cons, ih]; omega
theorem deeps_take (l : List V) (i : Nat) (h : i < l.length) : deeps (l.take (i + 1)) = max (deeps (l.take i)) (1 + deeps l[i].l) := by
  rw [List.take_add_one, deeps_append, List.getElem?_eq_getElem h]
  simp [deeps_cons, deeps_nil, deep_eq]
theorem deeps_pos {l : List V} (h : l ≠ []) : 1 ≤ deeps l := by
  cases l with
  | nil => exact absurd rfl h
  | cons v l => rw [deeps_cons]; omega
theorem deeps_one (v : V) : deeps [v] = 1 + v.deep := by rw [deeps_cons, deeps_nil]; omega
def partsI (k : Int) : Int :=
  if k = 7 then 3 else if k = 5 ∨ k = 6 ∨ k = 8 ∨ k = 14 ∨ k = 19 then 2
  else if k = 9 ∨ k = 10 ∨ k = 11 ∨ k = 12 ∨ k = 13 ∨ k = 15 ∨ k = 16 ∨ k = 17 ∨ k = 18 ∨ k = 20 then 1
  else if k = 1 ∨ k = 2 ∨ k = 3 ∨ k = 4 ∨ k = 21 then 0 else -1
def faultK (F kind k o : Int) : Int :=
  if kind = 4 then (if 0 ≤ k ∧ k < o then 0 else 1)
  else if kind = 6 then (if 1 ≤ k ∧ k ≤ 5 then 0 else 1)
  else if kind = 15 then (if 0 ≤ k ∧ k ≤ 15 then 0 else 1)
  else if kind = 18 then (if 0 ≤ k ∧ k < F then 0 else 1)
  else if k = 0 then 0 else 5
def fault1 (F : Int) (v : V) (o : Int) : Int :=
  if partsI v.kind < 0 then 2 else if (v.l.length : Int) ≠ partsI v.kind then 5 else if v.n ≠ 0 ∧ v.kind ≠ 2 then 5
  else if faultK F v.kind v.k o ≠ 0 then faultK F v.kind v.k o else if v.kind = 5 ∧ 12 ≤ o then 3 else 0
def opens (kind o : Int) (i : Nat) : Int := if kind = 5 ∧ i = 1 then o + 1 else o
def V.bad (F : Int) : V → Int → Int
  | ⟨kind, k, n, l⟩, o => if fault1 F ⟨kind, k, n, l⟩ o = 0 then bads kind l 0 o else fault1 F ⟨kind, k, n, l⟩ o
  where bads (kind : Int) : List V → Nat → Int → Int
    | [], _, _ => 0
    | v :: l, i, o => if V.bad F v (opens kind o i) = 0 then bads kind l (i + 1) o else V.bad F v (opens kind o i)
abbrev bads (F kind : Int) (l : List V) (i : Nat) (o : Int) : Int := V.bad.bads F kind l i o
theorem bad_eq (F : Int) (v : V) (o : Int) : v.bad F o = if fault1 F v o = 0 then bads F v.kind v.l 0 o else fault1 F v o := by cases v; rw [V.bad]
theorem bads_nil (F kind : Int) (i : Nat) (o : Int) : bads F kind [] i o = 0 := by simp only [bads, V.bad.bads]
theorem bads_cons (F kind : Int) (v : V) (l : List V) (i : Nat) (o : Int) : bads F kind (v :: l) i o = if v.bad F (opens kind o i) = 0 then bads F kind l (i + 1) o else v.bad F (opens kind o i) := by simp only [bads, V.bad.bads]
def fun1 (F : Int) (v : V) : Int := if 30 < v.deep then 4 else if 120 < v.size then 3 else v.bad F 0
def funs (F : Int) : List V → Nat → Int × Int
  | [], _ => (0, 0)
  | v :: l, i => if fun1 F v = 0 then funs F l (i + 1) else (fun1 F v, (i : Int))
def modFault (l : List V) : Int × Int := if l.length < 1 ∨ 6 < l.length then (3, -1) else funs (l.length : Int) l 0
def Ok (v : V) : Prop := ∃ F o, v.bad F o = 0
theorem bads_get {F kind : Int} {l : List V} {i : Nat} {o : Int} (h : bads F kind l i o = 0) : ∀ x ∈ l, Ok x := by
  induction l generalizing i with
  | nil => intro x hx; simp at hx
  | cons v l ih =>
    rw [bads_cons] at h
    by_cases h0 : v.bad F (opens kind o i) = 0
    · rw [if_pos h0] at h
      intro x hx
      rcases List.mem_cons.1 hx with rfl | hx
      · exact ⟨F, _, h0⟩
      · exact ih h x hx
    · rw [if_neg h0] at h; exact absurd h h0
theorem bad_one {F : Int} {v : V} {o : Int} (h : v.bad F o = 0) : fault1 F v o = 0 ∧ bads F v.kind v.l 0 o = 0 := by
  rw [bad_eq] at h
  by_cases h0 : fault1 F v o = 0
  · rw [if_pos h0] at h; exact ⟨h0, h⟩
  · rw [if_neg h0] at h; exact absurd h h0
theorem bads_one {F kind : Int} {v : V} {l : List V} {i : Nat} {o : Int} (h : bads F kind (v :: l) i o = 0) : v.bad F (opens kind o i) = 0 ∧ bads F kind l (i + 1) o = 0 := by
  rw [bads_cons] at h
  by_cases h0 : v.bad F (opens kind o i) = 0
  · rw [if_pos h0] at h; exact ⟨h0, h⟩
  · rw [if_neg h0] at h; exact absurd h h0
theorem Ok.kids {v : V} (h : Ok v) : ∀ x ∈ v.l, Ok x := by
  obtain ⟨F, o, h⟩ := h
  exact bads_get (bad_one h).2
theorem fault_facts {F : Int} {v : V} {o : Int} (h : fault1 F v o = 0) : (1 ≤ v.kind ∧ v.kind ≤ 21) ∧ (v.l.length : Int) = partsI v.kind ∧ (v.kind = 4 → v.k < o) ∧ (v.kind = 5 → o < 12) := by
  unfold fault1 at h
  by_cases h1 : partsI v.kind < 0
  · rw [if_pos h1] at h; cases h
  rw [if_neg h1] at h
  by_cases h2 : (v.l.length : Int) ≠ partsI v.kind
  · rw [if_pos h2] at h; cases h
  rw [if_neg h2] at h
  by_cases h3 : v.n ≠ 0 ∧ v.kind ≠ 2
  · rw [if_pos h3] at h; cases h
  rw [if_neg h3] at h
  by_cases h4 : faultK F v.kind v.k o ≠ 0
  · rw [if_pos h4] at h; exact absurd h h4
  rw [if_neg h4] at h
  refine ⟨?_, by omega, fun e => ?_, fun e => ?_⟩
  · unfold partsI at h1
    generalize v.kind = x at h1
    repeat' split at h1
    all_goals omega
  · unfold faultK at h4
    rw [if_pos e] at h4
    by_cases e2 : 0 ≤ v.k ∧ v.k < o
    · exact e2.2
    · rw [if_neg e2] at h4; exact absurd (by decide) h4
  · by_cases e2 : 12 ≤ o
    · rw [if_pos ⟨e, e2⟩] at h; cases h
    · omega
theorem Ok.two {v : V} (h : Ok v) (hk : v.kind = 5) : ∃ a b, v.l = [a, b] := by
  obtain ⟨F, o, h⟩ := h
  have h1 := (fault_facts (bad_one h).1).2.1
  rw [hk, show partsI 5 = 2 by decide] at h1
  match h2 : v.l with
  | [a, b] => exact ⟨a, b, rfl⟩
  | [] => rw [h2] at h1; simp at h1
  | [_] => rw [h2] at h1; simp at h1
  | _ :: _ :: _ :: _ => rw [h2] at h1; simp only [List.length_cons] at h1; omega
theorem Ok.three {v : V} (h : Ok v) (hk : v.kind = 7) : ∃ a b c, v.l = [a, b, c] := by
  obtain ⟨F, o, h⟩ := h
  have h1 := (fault_facts (bad_one h).1).2.1
  rw [hk, show partsI 7 = 3 by decide] at h1
  match h2 : v.l with
  | [a, b, c] => exact ⟨a, b, c, rfl⟩
  | [] => rw [h2] at h1; simp at h1
  | [_] => rw [h2] at h1; simp at h1
  | [_, _] => rw [h2] at h1; simp at h1
  | _ :: _ :: _ :: _ :: _ => rw [h2] at h1; simp only [List.length_cons] at h1; omega
structure Ik where
  op : Int
  k : Int
  n : Int
def preN (kind : Int) (i : Nat) : Nat := if kind = 5 ∧ i = 1 ∨ kind = 7 ∧ (i = 1 ∨ i = 2) then 1 else 0
def preC (kind : Int) (i len p : Nat) : List Ik :=
  if kind = 5 ∧ i = 1 then [⟨101, 0, 0⟩] else if kind = 7 ∧ i = 1 then [⟨103, (p + len + 2 : Nat), 0⟩] else if kind = 7 ∧ i = 2 then [⟨104, (p + len + 1 : Nat), 0⟩] else []
def postC (kind k n : Int) : List Ik := if kind = 5 then [⟨102, 0, 0⟩] else if kind = 7 then [] else [⟨kind, k, n⟩]
def V.code : V → Nat → List Ik
  | ⟨kind, k, n, l⟩, p => ⟨100, 0, 0⟩ :: (codes kind l 0 (p + 1) ++ postC kind k n)
  where codes (kind : Int) : List V → Nat → Nat → List Ik
    | [], _, _ => []
    | v :: l, i, p => preC kind i (V.code v (p + preN kind i)).length p ++ (V.code v (p + preN kind i) ++ codes kind l (i + 1) (p + preN kind i + (V.code v (p + preN kind i)).length))
abbrev codes (kind : Int) (l : List V) (i p : Nat) : List Ik := V.code.codes kind l i p
theorem code_eq (v : V) (p : Nat) : v.code p = ⟨100, 0, 0⟩ :: (codes v.kind v.l 0 (p + 1) ++ postC v.kind v.k v.n) := by cases v; rw [V.code]
theorem codes_nil (kind : Int) (i p : Nat) : codes kind [] i p = [] := by simp only [codes, V.code.codes]
theorem codes_cons (kind : Int) (v : V) (l : List V) (i p : Nat) : codes kind (v :: l) i p = preC kind i (v.code (p + preN kind i)).length p ++ (v.code (p + preN kind i) ++ codes kind l (i + 1) (p + preN kind i + (v.code (p + preN kind i)).length)) := by simp only [codes, V.code.codes]
theorem pre_len (kind : Int) (i len p : Nat) : (preC kind i len p).length = preN kind i := by
  unfold preC preN
  by_cases h1 : kind = 5 ∧ i = 1
  · rw [if_pos h1, if_pos (.inl h1)]; rfl
  · rw [if_neg h1]
    by_cases h2 : kind = 7 ∧ i = 1
    · rw [if_pos h2, if_pos (.inr ⟨h2.1, .inl h2.2⟩)]; rfl
    · rw [if_neg h2]
      by_cases h3 : kind = 7 ∧ i = 2
      · rw [if_pos h3, if_pos (.inr ⟨h3.1, .inr h3.2⟩)]; rfl
      · rw [if_neg h3, if_neg (by rintro (h | ⟨h, h' | h'⟩); exact h1 h; exact h2 ⟨h, h'⟩; exact h3 ⟨h, h'⟩)]; rfl
theorem pre_le (kind : Int) (i : Nat) : preN kind i ≤ 1 := by unfold preN; split <;> omega
theorem post_le (kind k n : Int) : (postC kind k n).length ≤ 1 := by
  unfold postC; repeat' split
  all_goals simp
theorem code_len (v : V) : ∀ p, (v.code p).length + 1 ≤ 3 * v.size := by
  induction v using V.ind' with
  | h v ih =>
    have key : ∀ (l : List V), (∀ x ∈ l, ∀ p, (x.code p).length + 1 ≤ 3 * x.size) → ∀ i p, (codes v.kind l i p).length ≤ 3 * sizes l := by
      intro l
      induction l with
      | nil => intro _ i p; rw [codes_nil]; simp
      | cons x l ihl =>
        intro hx i p
        rw [codes_cons, List.length_append, List.length_append, pre_len, sizes_cons]
        have h1 := hx x (by simp) (p + preN v.kind i)
        have h2 := ihl (fun y hy => hx y (by simp [hy])) (i + 1) (p + preN v.kind i + (x.code (p + preN v.kind i)).length)
        have h3 := pre_le v.kind i
        omega
    intro p
    rw [code_eq, List.length_cons, List.length_append, size_eq]
    have h1 := key v.l ih 0 (p + 1)
    have h2 := post_le v.kind v.k v.n
    omega
theorem code_pos (v : V) (p : Nat) : 1 ≤ (v.code p).length := by rw [code_eq, List.length_cons]; omega
theorem codes_len (kind : Int) (l : List V) : ∀ i p, (codes kind l i p).length ≤ 3 * sizes l := by
  induction l with
  | nil => intro i p; rw [codes_nil]; simp
  | cons x l ih =>
    intro i p
    rw [codes_cons, List.length_append, List.length_append, pre_len, sizes_cons]
    have h1 := code_len x (p + preN kind i)
    have h2 := ih (i + 1) (p + preN kind i + (x.code (p + preN kind i)).length)
    have h3 := pre_le kind i
    omega
def letC (a b : V) (p : Nat) : List Ik := a.code p ++ ([⟨101, 0, 0⟩] ++ (b.code (p + (a.code p).length + 1) ++ [⟨102, 0, 0⟩]))
theorem code_let {v a b : V} (hk : v.kind = 5) (hl : v.l = [a, b]) (p : Nat) : v.code p = [⟨100, 0, 0⟩] ++ letC a b (p + 1) := by
  rw [code_eq, hl, hk, codes_cons, codes_cons, codes_nil]
  simp [preC, preN, postC, letC]
def elseAt (a b : V) (p : Nat) : Nat := p + (a.code p).length + 1 + (b.code (p + (a.code p).length + 1)).length + 1
def ifC (a b c : V) (p : Nat) : List Ik :=
  a.code p ++ ([⟨103, (elseAt a b p : Nat), 0⟩] ++ (b.code (p + (a.code p).length + 1) ++ ([⟨104, (elseAt a b p + (c.code (elseAt a b p)).length : Nat), 0⟩] ++ c.code (elseAt a b p))))
theorem code_if {v a b c : V} (hk : v.kind = 7) (hl : v.l = [a, b, c]) (p : Nat) : v.code p = [⟨100, 0, 0⟩] ++ ifC a b c (p + 1) := by
  rw [code_eq, hl, hk, codes_cons, codes_cons, codes_cons, codes_nil]
  simp [preC, preN, postC, ifC, elseAt]
  omega
def codesP (l : List V) (p : Nat) : List Ik := codes 0 l 0 p
theorem codes_plain {kind : Int} (h5 : kind ≠ 5) (h7 : kind ≠ 7) (l : List V) : ∀ i p, codes kind l i p = codes 0 l 0 p := by
  have e : ∀ (x : Int), x ≠ 5 → x ≠ 7 → ∀ i len p, preC x i len p = [] ∧ preN x i = 0 := by
    intro x h5 h7 i len p
    unfold preC preN
    rw [if_neg (by omega), if_neg (by omega), if_neg (by omega), if_neg (by omega)]
    exact ⟨rfl, rfl⟩
  have key : ∀ l i j p, codes kind l i p = codes 0 l j p := by
    intro l
    induction l with
    | nil => intro i j p; rw [codes_nil, codes_nil]
    | cons x l ih =>
      intro i j p
      rw [codes_cons, codes_cons, (e kind h5 h7 i _ p).1, (e kind h5 h7 i 0 p).2, (e 0 (by decide) (by decide) j _ p).1, (e 0 (by decide) (by decide) j 0 p).2, ih (i + 1) (j + 1)]
  exact fun i p => key l i 0 p
theorem codesP_nil (p : Nat) : codesP [] p = [] := by unfold codesP; exact codes_nil _ _ _
theorem codesP_cons (v : V) (l : List V) (p : Nat) : codesP (v :: l) p = v.code p ++ codesP l (p + (v.code p).length) := by
  unfold codesP
  rw [codes_cons, codes_plain (by decide) (by decide) l 1]
  simp [preC, preN]
theorem codesP_app (a b : List V) : ∀ p, codesP (a ++ b) p = codesP a p ++ codesP b (p + (codesP a p).length) := by
  induction a with
  | nil => intro p; simp [codesP_nil]
  | cons x a ih => intro p; rw [List.cons_append, codesP_cons, codesP_cons, ih, List.append_assoc, List.length_append, Nat.add_assoc]
theorem codesP_take (l : List V) (j : Nat) (h : j < l.length) (p : Nat) : codesP (l.take (j + 1)) p = codesP (l.take j) p ++ l[j].code (p + (codesP (l.take j) p).length) := by
  rw [List.take_add_one, List.getElem?_eq_getElem h, codesP_app]
  simp [codesP_cons, codesP_nil]
theorem codesP_len (l : List V) (p : Nat) : (codesP l p).length ≤ 3 * sizes l := codes_len 0 l 0 p
theorem code_other {v : V} (h5 : v.kind ≠ 5) (h7 : v.kind ≠ 7) (p : Nat) : v.code p = [⟨100, 0, 0⟩] ++ (codesP v.l (p + 1) ++ [⟨v.kind, v.k, v.n⟩]) := by
  rw [code_eq, codes_plain h5 h7, postC, if_neg h5, if_neg h7]
  rfl
def funC (v : V) : List Ik := v.code 0 ++ [⟨105, 0, 0⟩]
open Go.ChangeShapes Go.WideShapes Go.ChangeAt Go.RowKit
def V.fits (v : V) : Prop := In64 v.kind ∧ In64 v.k ∧ In64 v.n
def V.head (w : World) (v : V) (b off : Nat) : Prop := w.cell? ⟨b, off, none⟩ = some (.int .i64 v.kind) ∧ w.cell? ⟨b, off + 1, none⟩ = some (.int .i64 v.k) ∧ w.cell? ⟨b, off + 2, none⟩ = some (.int .i64 v.n)
def V.at (w : World) : V → Nat → Nat → Prop
  | ⟨k, kk, n, l⟩, b, off => V.fits ⟨k, kk, n, l⟩ ∧ V.head w ⟨k, kk, n, l⟩ b off ∧
      ∃ ao cap, w.cell? ⟨b, off + 3, none⟩ = some (.slice ao l.length cap) ∧ (l = [] ∨ ∃ b' off', ao = some ⟨b', off', none⟩ ∧ ats l b' off')
  where ats : List V → Nat → Nat → Prop
    | [], _, _ => True
    | v :: l, b, off => V.at w v b off ∧ ats l b (off + 4)
def Fo (w : World) (l : List V) (ao : Option Addr) : Prop := ∀ i (h : i < l.length), ∃ b off, ao = some ⟨b, off, none⟩ ∧ l[i].at w b (off + i * 4)
structure Is (w : World) (v : V) (ao : Option Addr) : Prop where
  fit : v.fits
  fo : Fo w v.l ao
theorem ats_iff (w : World) (l : List V) (b off : Nat) : V.at.ats w l b off ↔ ∀ i (h : i < l.length), l[i].at w b (off + i * 4) := by
  induction l generalizing off with
  | nil => simp [V.at.ats]
  | cons v l ih =>
    rw [V.at.ats, ih]
    constructor
    · rintro ⟨h0, h1⟩ i hi
      cases i with
      | zero => simpa using h0
      | succ i => have := h1 i (by simpa using hi); rw [show off + 4 + i * 4 = off + (i + 1) * 4 by omega] at this; simpa using this
    · intro h
      refine ⟨h 0 (by simp), fun i hi => ?_⟩
      have := h (i + 1) (by simpa using hi)
      rw [show off + 4 + i * 4 = off + (i + 1) * 4 by omega]; simpa using this
theorem fo_iff (w : World) (l : List V) (ao : Option Addr) : Fo w l ao ↔ (l = [] ∨ ∃ b' off', ao = some ⟨b', off', none⟩ ∧ V.at.ats w l b' off') := by
  constructor
  · intro h
    cases l with
    | nil => exact .inl rfl
    | cons v l =>
      obtain ⟨b, off, e, _⟩ := h 0 (by simp)
      refine .inr ⟨b, off, e, (ats_iff w _ b off).2 fun i hi => ?_⟩
      obtain ⟨b', off', e', h'⟩ := h i hi
      rw [e] at e'; cases e'; exact h'
  · rintro (rfl | ⟨b, off, e, h⟩)
    · intro i hi; simp at hi
    · intro i hi; exact ⟨b, off, e, (ats_iff w l b off).1 h i hi⟩
theorem at_iff (w : World) (v : V) (b off : Nat) : v.at w b off ↔ v.head w b off ∧ ∃ ao cap, w.cell? ⟨b, off + 3, none⟩ = some (.slice ao v.l.length cap) ∧ Is w v ao := by
  obtain ⟨k, kk, n, l⟩ := v
  rw [V.at]
  constructor
  · rintro ⟨hf, hh, ao, cap, c2, h⟩
    exact ⟨hh, ao, cap, c2, hf, (fo_iff w l ao).2 h⟩
  · rintro ⟨hh, ao, cap, c2, hf, h⟩
    exact ⟨hf, hh, ao, cap, c2, (fo_iff w l ao).1 h⟩
theorem Fo.nil (w : World) (ao : Option Addr) : Fo w [] ao := fun i hi => by simp at hi
theorem Fo.get {w : World} {l : List V} {ao : Option Addr} (h : Fo w l ao) (i : Nat) (hi : i < l.length) :
    ∃ b off, ao = some ⟨b, off, none⟩ ∧ l[i].head w b (off + i * 4) ∧ ∃ ai cap, w.cell? ⟨b, off + i * 4 + 3, none⟩ = some (.slice ai l[i].l.length cap) ∧ Is w l[i] ai := by
  obtain ⟨b, off, e, h⟩ := h i hi
  exact ⟨b, off, e, (at_iff w _ _ _).1 h⟩
theorem Is.get {w : World} {v : V} {ao : Option Addr} (h : Is w v ao) (i : Nat) (hi : i < v.l.length) :
    ∃ b off, ao = some ⟨b, off, none⟩ ∧ v.l[i].head w b (off + i * 4) ∧ ∃ ai cap, w.cell? ⟨b, off + i * 4 + 3, none⟩ = some (.slice ai v.l[i].l.length cap) ∧ Is w v.l[i] ai := h.fo.get i hi
theorem head_kept {w w' : World} (hk : ∀ (a : Addr) (x : Value), w.cell? a = some x → w'.cell? a = some x) {v : V} {b off : Nat} (h : v.head w b off) : v.head w' b off :=
  ⟨hk _ _ h.1, hk _ _ h.2.1, hk _ _ h.2.2⟩
theorem at_kept {w w' : World} (hk : ∀ (a : Addr) (x : Value), w.cell? a = some x → w'.cell? a = some x) (v : V) : ∀ b off, v.at w b off → v.at w' b off := by
  induction v using V.ind' with
  | h v ih =>
    intro b off h
    rw [at_iff] at h ⊢
    obtain ⟨c0, ao, cap, c2, i⟩ := h
    refine ⟨head_kept hk c0, ao, cap, hk _ _ c2, i.fit, fun j hj => ?_⟩
    obtain ⟨b', off', e, h'⟩ := i.fo j hj
    exact ⟨b', off', e, ih _ (List.getElem_mem hj) _ _ h'⟩
theorem Fo.kept {w w' : World} {l : List V} {ao : Option Addr} (h : Fo w l ao) (hk : ∀ (a : Addr) (x : Value), w.cell? a = some x → w'.cell? a = some x) : Fo w' l ao :=
  fun j hj => by obtain ⟨b', off', e, h'⟩ := h j hj; exact ⟨b', off', e, at_kept hk _ _ _ h'⟩
theorem Is.kept {w w' : World} {v : V} {ao : Option Addr} (h : Is w v ao) (hk : ∀ (a : Addr) (x : Value), w.cell? a = some x → w'.cell? a = some x) : Is w' v ao := ⟨h.fit, h.fo.kept hk⟩
theorem low_kept {w w' : World} (hb : Below w.heap.size w w') : ∀ (a : Addr) (x : Value), w.cell? a = some x → w'.cell? a = some x := fun a _ hc => (World.cell?_of_block (hb.block a.block (World.block_lt_of_cell? w a hc))).trans hc
theorem Fo.low {w w' : World} {l : List V} {ao : Option Addr} (h : Fo w l ao) (hb : Below w.heap.size w w') : Fo w' l ao := h.kept (low_kept hb)
theorem Is.low {w w' : World} {v : V} {ao : Option Addr} (h : Is w v ao) (hb : Below w.heap.size w w') : Is w' v ao := h.kept (low_kept hb)
theorem Fo.quiet {w w' : World} {l : List V} {ao : Option Addr} (h : Fo w l ao) (hq : Quiet w w') : Fo w' l ao := h.low hq.low
theorem Is.quiet {w w' : World} {v : V} {ao : Option Addr} (h : Is w v ao) (hq : Quiet w w') : Is w' v ao := h.low hq.low
theorem Is.leaf (w : World) (v : V) (hf : v.fits) (hl : v.l = []) (ao : Option Addr) : Is w v ao := ⟨hf, by rw [hl]; exact Fo.nil w ao⟩
theorem info_parts' {P : Program} {t : TypeId} {z : Value} {s b : Nat} (h : (P.info? t).map (fun i => (i.zero, i.size, i.bytes)) = some (some z, s, b)) : ∃ i, P.info? t = some i ∧ i.zero = some z ∧ i.size = s ∧ i.bytes = b := by
  cases hi : P.info? t with
  | none => simp [hi] at h
  | some i => simp [hi] at h; exact ⟨i, rfl, h.1, h.2.1, h.2.2⟩
theorem Tryz.infoI : (Tryz.prog.info? 3).map (fun i => (i.zero, i.size, i.bytes)) = some (some (.int .i64 0), 1, 8) := by kernel_rfl
theorem Tryz.infoV : (Tryz.prog.info? 105).map (fun i => (i.zero, i.size, i.bytes)) = some (some (.agg #[.int .i64 0, .int .i64 0, .int .i64 0, .slice none 0 0]), 4, 48) := by kernel_rfl
theorem Tryz.undV : Tryz.prog.underlying 43 = some (.slice 105) := by kernel_rfl
theorem Tryz.infoL : (Tryz.prog.info? 43).map (fun i => (i.zero, i.size, i.bytes)) = some (some (.slice none 0 0), 1, 24) := by kernel_rfl
theorem Tryz.undL : Tryz.prog.underlying 203 = some (.slice 43) := by kernel_rfl
theorem news_at (w : World) (l : List Value) (t : TypeId) : ∀ j u, l[j]? = some u → (w.alloc (.cells l.toArray t)).cell? ((⟨w.heap.size, 0, none⟩ : Addr).add j) = some u := by
  intro j u hu
  rw [Addr.add_lit, cell_of_row _ _ _ _ t (0, 0) (heap_alloc_new w _)]
  simpa using hu
theorem heap_two (w : World) (o1 o2 : Obj) : ((w.alloc o1).alloc o2).heap[w.heap.size + 1]? = some o2 := by
  have h := heap_alloc_new (w.alloc o1) o2
  rwa [World.size_alloc] at h
theorem news_from {w : World} {x : Nat} {l : List Value} {t : TypeId} (h : w.heap[x]? = some (.cells l.toArray t (0, 0))) : ∀ j u, l[j]? = some u → w.cell? ((⟨x, 0, none⟩ : Addr).add j) = some u := by
  intro j u hu
  rw [Addr.add_lit, cell_of_row _ _ _ _ t (0, 0) h]
  simpa using hu
theorem grown_quiet {w wr w1 : World} {o : Obj} {e : TypeId} {size : Nat} {v : Value} {n : Nat} {xs : List Value} (hk : Quiet w wr) (hr : wr.ownsRow w.heap.size e size v n xs) (hg : (wr.alloc o).grownBy w1 v.ownBlock) : Quiet w w1 :=
  hk.fresh ((Kp.alloc _ o).trans (Kp.grown hg fun k _ e => (hr.lt k e.symm).1))
def ints (l : List Int) : List Value := l.map (Value.int .i64)
theorem box_cells {w : World} {x : Nat} {a b c d : Value} {t : TypeId} (h : w.heap[x]? = some (.cells #[a, b, c, d] t (0, 0))) : w.cell? ⟨x, 0, none⟩ = some a ∧ w.cell? ⟨x, 1, none⟩ = some b ∧ w.cell? ⟨x, 2, none⟩ = some c ∧ w.cell? ⟨x, 3, none⟩ = some d := by
  refine ⟨?_, ?_, ?_, ?_⟩ <;> simp [World.cell?, h]
theorem owns_pop {w : World} {base : Nat} {e : TypeId} {size g n cap : Nat} {xs ys : List Value} (h : w.ownsRow base e size (.slice (some ⟨g, 0, none⟩) (n + 1) cap) (n + 1) (xs ++ ys)) (hy : ys.length = size) :
    w.ownsRow base e size (.slice (some ⟨g, 0, none⟩) n cap) n xs ∧ ∀ j, j < size → w.cell? ⟨g, n * size + j, none⟩ = ys[j]? := by
  have hl : xs.length = n * size := by
    have := h.1
    rw [List.length_append, hy, Nat.add_mul] at this
    omega
  obtain ⟨g', e', d⟩ := owns_at h (by omega)
  cases e'
  refine ⟨⟨hl, ?_⟩, fun j hj => ?_⟩
  · rcases h.2 with ⟨h', _⟩ | ⟨g', cap', cur, h', hb, hg, hc, hm, hs, ht⟩
    · simp at h'
    · simp only [Value.slice.injEq, Option.some.injEq, Addr.mk.injEq, true_and] at h'
      obtain ⟨⟨rfl, _⟩, rfl⟩ := h'
      refine .inr ⟨g, cap, cur, rfl, hb, hg, by omega, hm, hs, ?_⟩
      have h2 := congrArg (List.take (n * size)) ht
      rw [List.take_take, Nat.min_eq_left (by rw [Nat.add_mul]; omega), List.take_append_of_le_length (by omega), show xs.take (n * size) = xs from List.take_of_length_le (by omega)] at h2
      exact h2
  · rw [d _ (by rw [Nat.add_mul]; omega), List.getElem?_append_right (by omega)]
    congr 1; omega
theorem owns_cap {w : World} {base : Nat} {e : TypeId} {size g n cap : Nat} {xs : List Value} (h : w.ownsRow base e size (.slice (some ⟨g, 0, none⟩) n cap) n xs) : n ≤ cap := by
  rcases h.2 with ⟨h', _⟩ | ⟨g', cap', cur, h', hb, hg, hc, _⟩
  · simp at h'
  · simp only [Value.slice.injEq, Option.some.injEq, Addr.mk.injEq, true_and] at h'
    omega
theorem low_cell {B : Nat} {w w' : World} (hb : Below B w w') {a : Addr} {x : Value} (hc : w.cell? a = some x) (ha : a.block < B) : w'.cell? a = some x :=
  (World.cell?_of_block (hb.block a.block ha)).trans hc
theorem low_of {B : Nat} {W a b : World} (h : Below B W a) (q : Quiet a b) (hB : B ≤ a.heap.size) : Below B W b := h.trans (q.below hB fun _ e => e.elim)
theorem row_one (w : World) (t : TypeId) (x : Value) : (w.alloc (.cells #[x] t)).ownsRow w.heap.size t 1 (.slice (some ⟨w.heap.size, 0, none⟩) 1 1) 1 [x] :=
  ⟨by simp, .inr ⟨w.heap.size, 1, #[x], rfl, Nat.le_refl _, heap_alloc_new w _, Nat.le_refl _, by decide, by simp, by simp⟩⟩
theorem take_snoc {α : Type} (l : List α) (k : Nat) (hk : k < l.length) : l.take (k + 1) = l.take k ++ [l[k]] := by
  rw [List.take_add_one]; simp [hk]
theorem grown_undrew {w w1 : World} {r : Option Nat} (h : w.drew.grownBy w1 r) : w.grownBy w1 r := ⟨h.os, h.tape, h.output, h.size, h.block⟩
abbrev Pl := List V × Option Addr × Nat
def slv (x : Pl) : Value := .slice x.2.1 x.1.length x.2.2
def tsz (ts : List Pl) : Nat := (ts.map fun x => 1 + sizes x.1).sum
theorem tsz_nil : tsz [] = 0 := rfl
theorem tsz_app (a b : List Pl) : tsz (a ++ b) = tsz a + tsz b := by simp [tsz]
theorem tsz_one (x : Pl) : tsz [x] = 1 + sizes x.1 := by simp [tsz]
theorem tsz_len (ts : List Pl) : ts.length ≤ tsz ts := by
  induction ts with
  | nil => simp [tsz]
  | cons x ts ih => simp [tsz] at ih ⊢; omega
def trs (ts : List Pl) : Nat := (ts.map fun x => sizes x.1 - x.1.length).sum
theorem trs_nil : trs [] = 0 := rfl
theorem trs_app (a b : List Pl) : trs (a ++ b) = trs a + trs b := by simp [trs]
theorem trs_one (x : Pl) : trs [x] = sizes x.1 - x.1.length := by simp [trs]
def Lie (w : World) (ts : List Pl) : Prop := ∀ x ∈ ts, Fo w x.1 x.2.1
theorem Lie.app {w : World} {a b : List Pl} (h : Lie w a) (k : Lie w b) : Lie w (a ++ b) := by
  intro x hx
  rcases List.mem_append.1 hx with h' | h'
  · exact h x h'
  · exact k x h'
theorem push_row {W wr w1 : World} {B n : Nat} {x : Pl} {ts : List Pl} {sv : Value} {g cap : Nat} {o : Obj} (hB : Below B W wr) (hBB : B ≤ wr.heap.size) (hr : wr.ownsRow B 43 1 sv n (ts.map slv)) (hn : n = ts.length)
    (hr1 : w1.ownsRow B 43 1 (.slice (some ⟨g, 0, none⟩) (n + 1) cap) (n + 1) (ts.map slv ++ [slv x])) (hg : (wr.alloc o).grownBy w1 sv.ownBlock) :
    w1.ownsRow B 43 1 (.slice (some ⟨g, 0, none⟩) (n + 1) cap) (ts ++ [x]).length ((ts ++ [x]).map slv) ∧ Below B W w1 := by
  subst hn
  refine ⟨by simpa using hr1, hB.trans ?_⟩
  refine ((Below.refl _ _).alloc hBB o).trans ?_
  refine (Kp.grown (F := fun k => B ≤ k) hg fun k _ e => (hr.lt k e.symm).1).below (by simp; omega) fun k hk => hk
theorem inside_any (v : V) (ao : Option Addr) (cap : Nat) (w : World) : Calls Tryz.prog 118 #[.agg #[.int .i64 v.kind, .int .i64 v.k, .int .i64 v.n, .slice ao v.l.length cap]] w fun e w' => e = .returned (.slice ao v.l.length cap) ∧ Quiet w w' := by
  go_enter Tryz.func118, Tryz.ntmps118
  go_wp2
  go_ret
  exact ⟨rfl, Kp.alloc _ _⟩
theorem kp_set (w : World) (b o : Nat) (y : Value) : Kp (fun k => k = b) w (w.setCell ⟨b, o, none⟩ y) := Kp.setCell w ⟨b, o, none⟩ y rfl
def Ik.cells (x : Ik) : List Value := [.int .i64 x.op, .int .i64 x.k, .int .i64 x.n]
def insC (c : List Ik) : List Value := c.flatMap Ik.cells
theorem insC_app (a b : List Ik) : insC (a ++ b) = insC a ++ insC b := by simp [insC]
theorem insC_one (x : Ik) : insC [x] = x.cells := by simp [insC]
theorem insC_len (c : List Ik) : (insC c).length = c.length * 3 := by
  induction c with
  | nil => rfl
  | cons x c ih => rw [show x :: c = [x] ++ c from rfl, insC_app, List.length_append, ih, insC_one]; simp [Ik.cells]; omega
theorem insC_get (c : List Ik) (i j : Nat) (hi : i < c.length) (hj : j < 3) : (insC c)[i * 3 + j]? = c[i].cells[j]? := by
  induction c generalizing i with
  | nil => simp at hi
  | cons x c ih =>
    rw [show insC (x :: c) = x.cells ++ insC c from rfl]
    have h3 : x.cells.length = 3 := rfl
    cases i with
    | zero => rw [List.getElem?_append_left (by omega)]; simp
    | succ i =>
      rw [List.getElem?_append_right (by omega), h3, show (i + 1) * 3 + j - 3 = i * 3 + j by omega]
      simpa using ih i (by simpa using hi)
theorem ik_one (x : Ik) : ∀ u ∈ x.cells, u.oneCell' = true := by
  intro u hu
  simp only [Ik.cells, List.mem_cons, List.not_mem_nil, or_false] at hu
  rcases hu with rfl | rfl | rfl <;> rfl
theorem ins_at {w : World} {B : Nat} {e : TypeId} {ao : Option Addr} {n cap : Nat} {c : List Ik} (h : w.ownsRow B e 3 (.slice ao n cap) n (insC c)) (hn : c.length = n) (i : Nat) (hi : i < c.length) :
    ∃ g, ao = some ⟨g, 0, none⟩ ∧ w.cell? ⟨g, i * 3, none⟩ = some (.int .i64 c[i].op) ∧ w.cell? ⟨g, i * 3 + 1, none⟩ = some (.int .i64 c[i].k) ∧ w.cell? ⟨g, i * 3 + 2, none⟩ = some (.int .i64 c[i].n) := by
  subst hn
  obtain ⟨g, e, h⟩ := owns_at h (by omega)
  refine ⟨g, e, ?_, ?_, ?_⟩
  · rw [h (i * 3) (by omega), show i * 3 = i * 3 + 0 from rfl, insC_get c i 0 hi (by omega)]; rfl
  · rw [h _ (by omega), insC_get c i 1 hi (by omega)]; rfl
  · rw [h _ (by omega), insC_get c i 2 hi (by omega)]; rfl
structure KI (b : Nat) (w w' : World) : Prop where
  low : Below b w w'
  kept : Lib.OthersKept 165 (some b) w w'
theorem KI.refl (b : Nat) (w : World) : KI b w w := ⟨Below.refl _ _, Lib.OthersKept.refl _ _ _⟩
theorem KI.trans {b : Nat} {x y z : World} (h : KI b x y) (k : KI b y z) : KI b x z := ⟨h.low.trans k.low, h.kept.trans k.kept⟩
theorem KI.quiet {b : Nat} {w w' : World} (q : Quiet w w') (hb : b ≤ w.heap.size) : KI b w w' :=
  ⟨q.below hb fun _ h => h.elim, fun k _ hk _ _ => (q.block k (Array.getElem?_eq_some_iff.1 hk).1 fun h => h).trans hk⟩
theorem KI.box {b : Nat} {w w' : World} (h : KI b w w') {x : Nat} {c : Array Value} {t : TypeId} (hx : w.heap[x]? = some (.cells c t (0, 0))) (hb : x ≠ b) (ht : t ≠ 165) : w'.heap[x]? = some (.cells c t (0, 0)) :=
  h.kept x _ hx (fun e => hb (Option.some.inj e)) fun c fz e => ht (by cases e; rfl)
def Lst (b : Nat) (c : List Ik) (w : World) : Prop :=
  ∃ ao cap, w.heap[b]? = some (.cells #[.slice ao c.length cap] 161 (0, 0)) ∧ w.ownsRow (b + 1) 165 3 (.slice ao c.length cap) c.length (insC c)
theorem Lst.lt {b : Nat} {c : List Ik} {w : World} (h : Lst b c w) : b < w.heap.size := by obtain ⟨_, _, h, _⟩ := h; exact lt_of_block h
theorem Lst.quiet {b : Nat} {c : List Ik} {w w' : World} (h : Lst b c w) (q : Quiet w w') : Lst b c w' := by
  obtain ⟨ao, cap, h1, h2⟩ := h
  exact ⟨ao, cap, (q.block _ (lt_of_block h1) fun e => e).trans h1, q.row h2 fun _ _ e => e⟩
theorem lst_new (w : World) : Lst w.heap.size [] (w.alloc (.cells #[.slice none 0 0] 161)) := ⟨none, 0, heap_alloc_new w _, World.ownsRow_nil _ _ _ _⟩
theorem ki_grown {b : Nat} {w w' : World} {v : Value} {n : Nat} {xs : List Value} (hr : w.ownsRow (b + 1) 165 3 v n xs) (hb : b ≤ w.heap.size) (hg : w.grownBy w' v.ownBlock) : KI b w w' := by
  refine ⟨(Kp.grown (F := fun k => b ≤ k) hg fun k _ e => by have := (hr.lt k e.symm).1; omega).below hb fun k hk => hk, (Lib.OthersKept.refl _ _ _).grown hg fun g e => ?_⟩
  rcases hr.2 with ⟨rfl, _⟩ | ⟨g', cap, cur, rfl, _, h, _⟩
  · simp [Value.ownBlock] at e
  · simp [Value.ownBlock] at e; subst e; exact ⟨_, _, h⟩
theorem ki_set (b o : Nat) (w : World) (x : Value) (hb : b ≤ w.heap.size) : KI b w (w.setCell ⟨b, o, none⟩ x) :=
  ⟨(Kp.setCell (F := fun k => b ≤ k) w ⟨b, o, none⟩ x (Nat.le_refl b)).below hb fun _ h => h, (Lib.OthersKept.refl _ _ _).setCell ⟨b, o, none⟩ rfl x⟩
theorem lst_push {b m g cap cap2 : Nat} {c d : List Ik} {w w1 w2 : World} {ao : Option Addr} (hm : c.length = m) (h1 : w.heap[b]? = some (.cells #[.slice ao m cap] 161 (0, 0))) (h2 : w.ownsRow (b + 1) 165 3 (.slice ao m cap) m (insC c)) (q : Quiet w w1)
    (hr : w2.ownsRow (b + 1) 165 3 (.slice (some ⟨g, 0, none⟩) (m + d.length) cap2) (m + d.length) (insC c ++ insC d)) (hg : w1.grownBy w2 (Value.slice ao m cap).ownBlock) :
    (w2.cell? ⟨b, 0, none⟩ = some (.slice ao m cap) ∧ w2.frozen? ⟨b, 0, none⟩ = false) ∧ Lst b (c ++ d) (w2.setCell ⟨b, 0, none⟩ (.slice (some ⟨g, 0, none⟩) (m + d.length) cap2)) ∧ KI b w (w2.setCell ⟨b, 0, none⟩ (.slice (some ⟨g, 0, none⟩) (m + d.length) cap2)) ∧ b < w2.heap.size := by
  have hb := lt_of_block h1
  have hb1 : b < w1.heap.size := Nat.lt_of_lt_of_le hb q.size
  have hb2 : b < w2.heap.size := Nat.lt_of_lt_of_le hb1 hg.size
  have hr1 := q.row h2 fun _ _ e => e
  have hbx : w2.heap[b]? = some (.cells #[.slice ao m cap] 161 (0, 0)) := by
    rw [hg.block b hb1 (fun e => by have := (hr1.lt b e.symm).1; omega)]
    exact (q.block b hb fun e => e).trans h1
  refine ⟨⟨by simp [World.cell?, hbx], frozen_of_row w2 b 0 _ _ hbx⟩, ?_, ((KI.quiet q (by omega)).trans (ki_grown hr1 (by omega) hg)).trans (ki_set b 0 w2 _ (by omega)), hb2⟩
  refine ⟨some ⟨g, 0, none⟩, cap2, ?_, ?_⟩
  · rw [List.length_append, hm]; simp [World.setCell, Array.getElem?_modify, hbx]
  · rw [List.length_append, hm, insC_app]
    exact (Kp.setCell (F := fun k => k = b) w2 ⟨b, 0, none⟩ _ rfl).row hr (fun k e => by have := (hr.lt k e).1; omega)
theorem Tryz.infoIns : (Tryz.prog.info? 165).map (fun i => (i.zero, i.size, i.bytes)) = some (some (.agg #[.int .i64 0, .int .i64 0, .int .i64 0]), 3, 24) := by kernel_rfl
theorem Tryz.undIns : Tryz.prog.underlying 159 = some (.slice 165) := by kernel_rfl
theorem two_quiet (w : World) (o1 o2 : Obj) : Quiet w ((w.alloc o1).alloc o2).drew := ((Kp.alloc w o1).trans (Kp.alloc _ o2)).trans (Kp.drew _)
theorem new_two (w : World) (o1 o2 : Obj) : ((w.alloc o1).alloc o2).drew.heap[w.heap.size + 1]? = some o2 := heap_two w o1 o2
set_option maxRecDepth 8000 in
set_option maxHeartbeats 4000000 in
theorem lput_any (b : Nat) (c : List Ik) (x : Ik) (w : World) (h : Lst b c w) (hl : c.length ≤ 9000000) :
    Calls Tryz.prog 89 #[.pointer (some ⟨b, 0, none⟩), .agg #[.int .i64 x.op, .int .i64 x.k, .int .i64 x.n]] w fun e w' => e = .returned (.int .i64 c.length) ∧ Lst b (c ++ [x]) w' ∧ KI b w w' := by
  obtain ⟨i0, hi, hz0, hz1, hz2⟩ := info_parts' Tryz.infoIns
  obtain ⟨ao, cap, h1, h2⟩ := h
  have hb := lt_of_block h1
  obtain ⟨m, hm⟩ : ∃ m, c.length = m := ⟨_, rfl⟩
  rw [hm] at h1 h2 hl ⊢
  obtain ⟨xo, xk, xn⟩ := x
  have c0 : (w.alloc (.cells #[.int .i64 xo, .int .i64 xk, .int .i64 xn] 165)).cell? ⟨b, 0, none⟩ = some (.slice ao m cap) := by
    have := (Below.heap_alloc w (.cells #[.int .i64 xo, .int .i64 xk, .int .i64 xn] 165) b hb).trans h1
    simp [World.cell?, this]
  have c1 : ((w.alloc (.cells #[.int .i64 xo, .int .i64 xk, .int .i64 xn] 165)).alloc (.cells #[.int .i64 xo, .int .i64 xk, .int .i64 xn] 165)).cell? ⟨b, 0, none⟩ = some (.slice ao m cap) := (Kp.alloc (F := fun _ => False) _ _).cell c0 fun e => e
  have H1 := hid h1
  have H2 := hid h2
  have HM := hid hm
  clear h1 h2 hm
  go_enter Tryz.func89, Tryz.ntmps89
  go_wp2
  go_region_law ((refine step_append_lies _ (by rfl) _ _ _ (by rfl) (b + 1) 165 i0 _ 3 24 Tryz.undIns hi hz0 hz1 hz2 rfl (by omega) (.slice ao m cap) m (insC c) (by rfl) (((H2.out.alloc _).alloc _).drew) ⟨w.heap.size + 1, 0, none⟩ 1 1 [.int .i64 xo, .int .i64 xk, .int .i64 xn] (by rfl) (by rfl) (news_from (t := 165) (new_two w _ _)) (ik_one ⟨xo, xk, xn⟩) (by omega) (by unfold maxLen; omega) (by omega) (by simp; omega) (w.heap.size + 2) (by simp) ?_; intro gg cap2 w1 hown1 hgrow hat hlt; have hD0 := lst_push (d := [⟨xo, xk, xn⟩]) HM.out H1.out H2.out (two_quiet w _ _) (by rw [insC_one]; exact hown1) hgrow; have cc := hD0.1.1; have ff := hD0.1.2; have ss := hD0.2.2.2; have hD := hid (And.intro hD0.2.1 hD0.2.2.1); clear hown1 hgrow hat hlt hD0))
  all_goals
    go_wp2
    go_ret
    exact ⟨by simp, hD.out.1, hD.out.2⟩
def ExprL (w0 : World) (b : Nat) (v : V) : Prop := ∀ (ao : Option Addr) (cap : Nat) (c : List Ik) (w : World), Is w0 v ao → Ok v → Below w0.heap.size w0 w → w0.heap.size ≤ b → Lst b c w → c.length + 3 * v.size ≤ 8000000 →
    Calls Tryz.prog 88 #[.pointer (some ⟨b, 0, none⟩), .agg #[.int .i64 v.kind, .int .i64 v.k, .int .i64 v.n, .slice ao v.l.length cap]] w fun e w' => e = .returned (.tuple #[]) ∧ Lst b (c ++ v.code c.length) w' ∧ KI b w w'
theorem Lst.ex {b : Nat} {c : List Ik} {w : World} (h : Lst b c w) : ∃ d, d = c ∧ Lst b d w := ⟨c, rfl, h⟩
theorem low_ki {w0 w w' : World} {b : Nat} (h : Below w0.heap.size w0 w) (k : KI b w w') (hb : w0.heap.size ≤ b) : Below w0.heap.size w0 w' := h.trans (k.low.mono hb)
set_option maxRecDepth 8000 in
set_option maxHeartbeats 2000000 in
theorem llet_of (w0 : World) (b : Nat) (v u : V) (hv : ExprL w0 b v) (hu : ExprL w0 b u) (va ua : Option Addr) (vc uc : Nat) (c : List Ik) (w : World) (iv : Is w0 v va) (iu : Is w0 u ua) (ov : Ok v) (ou : Ok u)
    (hB : Below w0.heap.size w0 w) (hb : w0.heap.size ≤ b) (h : Lst b c w) (hl : c.length + 3 * v.size + 3 * u.size + 2 ≤ 8000000) :
    Calls Tryz.prog 99 #[.pointer (some ⟨b, 0, none⟩), .agg #[.int .i64 v.kind, .int .i64 v.k, .int .i64 v.n, .slice va v.l.length vc], .agg #[.int .i64 u.kind, .int .i64 u.k, .int .i64 u.n, .slice ua u.l.length uc]] w fun e w' => e = .returned (.tuple #[]) ∧ Lst b (c ++ letC v u c.length) w' ∧ KI b w w' := by
  obtain ⟨W, hW⟩ : ∃ W, W = (w.alloc (.cells #[.int .i64 v.kind, .int .i64 v.k, .int .i64 v.n, .slice va v.l.length vc] 105)).alloc (.cells #[.int .i64 u.kind, .int .i64 u.k, .int .i64 u.n, .slice ua u.l.length uc] 105) := ⟨_, rfl⟩
  have q : Quiet w W := by rw [hW]; exact (Kp.alloc _ _).trans (Kp.alloc _ _)
  have hlt := h.lt
  have b1 : W.heap[w.heap.size + 1]? = some (.cells #[.int .i64 u.kind, .int .i64 u.k, .int .i64 u.n, .slice ua u.l.length uc] 105 (0, 0)) := by rw [hW]; exact heap_two w _ _
  have HBX := hid (fun (w' : World) (k : KI b W w') => box_cells (k.box b1 (by omega) (by decide)))
  have HW := hid (And.intro hW (KI.quiet q (Nat.le_of_lt hlt)))
  have HV := hid (hv va vc c W iv ov (low_ki hB (KI.quiet q (Nat.le_of_lt hlt)) hb) hb (h.quiet q) (by omega))
  have HB := hid (low_ki hB (KI.quiet q (Nat.le_of_lt hlt)) hb)
  have HU := hid (fun (d : List Ik) (w' : World) (k : Below w0.heap.size w0 w') (h : Lst b d w') (hd : d.length + 3 * u.size ≤ 8000000) => hu ua uc d w' iu ou k hb h hd)
  have hcl := code_len v c.length
  have hcu := code_len u (c.length + (v.code c.length).length + 1)
  have HE := hid (show letC v u c.length = _ from rfl)
  rw [hW] at HV
  clear hv hu iv iu q b1 hW h
  go_enter Tryz.func99, Tryz.ntmps99
  go_wp2_with (first
    | (go_at_call 89; refine (lput_any b c5 ⟨102, 0, 0⟩ _ h5 l5).mono ?_; rintro e w6 ⟨rfl, h6, k6⟩)
    | (go_at_call 88; refine (HU.out c4 w4 (low_ki HB.out k4 hb) h4 l4).mono ?_; rintro e w5 ⟨rfl, h5, k5⟩; replace k5 := k4.trans k5; obtain ⟨c5, E5, h5⟩ := h5.ex; replace E5 := hid E5; have l5 : c5.length ≤ 9000000 := (by rw [E5.out, E4.out, E3.out]; simp only [List.length_append, List.length_singleton]; omega))
    | (go_at_call 89; refine (lput_any b c3 ⟨101, 0, 0⟩ _ h3 l3).mono ?_; rintro e w4 ⟨rfl, h4, k4⟩; replace k4 := k3.trans k4; obtain ⟨c4, E4, h4⟩ := h4.ex; replace E4 := hid E4; obtain ⟨z0, z9, z1, z2⟩ := HBX.out _ k4; have l4 : c4.length + 3 * u.size ≤ 8000000 := (by rw [E4.out, E3.out]; simp only [List.length_append, List.length_singleton]; omega))
    | (go_at_call 88; refine HV.out.mono ?_; rintro e w3 ⟨rfl, h3, k3⟩; rw [← HW.out.1] at k3; obtain ⟨c3, E3, h3⟩ := h3.ex; replace E3 := hid E3; have l3 : c3.length ≤ 9000000 := (by rw [E3.out]; simp only [List.length_append]; omega)))
  go_end0
  refine ⟨rfl, ?_, HW.out.2.trans (k5.trans k6)⟩
  have e5 : c5 ++ [⟨102, 0, 0⟩] = c ++ letC v u c.length := by
    rw [E5.out, E4.out, E3.out]
    unfold letC
    simp only [List.length_append, List.length_singleton, List.append_assoc, Nat.add_assoc]
  rw [← e5]; exact h6
theorem insC_set (A R : List Ik) (x : Ik) (z : Int) : (insC (A ++ ([x] ++ R))).set (A.length * 3 + 1) (.int .i64 z) = insC (A ++ ([⟨x.op, z, x.n⟩] ++ R)) := by
  rw [insC_app, insC_app, insC_app, insC_app, List.set_append_right _ _ (by rw [insC_len]; omega), insC_len, show A.length * 3 + 1 - A.length * 3 = 1 by omega, insC_one, insC_one]
  rfl
theorem lst_set {b : Nat} {A R : List Ik} {x : Ik} {w : World} (h : Lst b (A ++ ([x] ++ R)) w) : ∃ g cap, (w.cell? ⟨b, 0, none⟩ = some (.slice (some ⟨g, 0, none⟩) (A ++ ([x] ++ R)).length cap) ∧ w.frozen? ⟨g, A.length * 3 + 1, none⟩ = false ∧ w.cell? ⟨g, A.length * 3 + 1, none⟩ = some (.int .i64 x.k) ∧ g < w.heap.size) ∧
    ∀ z, Lst b (A ++ ([⟨x.op, z, x.n⟩] ++ R)) (w.setCell ⟨g, A.length * 3 + 1, none⟩ (.int .i64 z)) ∧ KI b w (w.setCell ⟨g, A.length * 3 + 1, none⟩ (.int .i64 z)) := by
  obtain ⟨ao, cap, h1, h2⟩ := h
  have hi : A.length < (A ++ ([x] ++ R)).length := by simp
  obtain ⟨g, rfl, d0, d1, d2⟩ := ins_at h2 rfl A.length hi
  have e : (A ++ ([x] ++ R))[A.length] = x := by simp
  rw [e] at d1
  refine ⟨g, cap, ⟨by simp [World.cell?, h1], h2.frozenAt _, d1, (h2.lt g rfl).2⟩, fun z => ?_⟩
  obtain ⟨s1, s2⟩ := h2.stored (A.length * 3 + 1) (.int .i64 z)
  have hb := lt_of_block h1
  have hl : (A ++ ([(⟨x.op, z, x.n⟩ : Ik)] ++ R)).length = (A ++ ([x] ++ R)).length := by simp
  have hk := ki_grown h2 (Nat.le_of_lt hb) s2
  refine ⟨⟨some ⟨g, 0, none⟩, cap, ?_, ?_⟩, hk⟩
  · rw [hl]
    have hg := (h2.lt g rfl).1
    rw [s2.block b hb (fun e => by have := Option.some.inj e; omega)]; exact h1
  · rw [hl, ← insC_set]; exact s1
theorem three_at (w : World) (o1 o2 o3 : Obj) : (((w.alloc o1).alloc o2).alloc o3).heap[w.heap.size + 1]? = some o2 ∧ (((w.alloc o1).alloc o2).alloc o3).heap[w.heap.size + 1 + 1]? = some o3 := by
  refine ⟨?_, ?_⟩
  · rw [Below.heap_alloc _ _ _ (by simp)]; exact heap_two w o1 o2
  · have := heap_two (w.alloc o1) o2 o3
    simpa using this
set_option maxRecDepth 8000 in
set_option maxHeartbeats 4000000 in
theorem lchoice_of (w0 : World) (b : Nat) (v u t : V) (hv : ExprL w0 b v) (hu : ExprL w0 b u) (ht : ExprL w0 b t) (va ua ta : Option Addr) (vc uc tc : Nat) (c : List Ik) (w : World) (iv : Is w0 v va) (iu : Is w0 u ua) (it : Is w0 t ta) (ov : Ok v) (ou : Ok u) (ot : Ok t)
    (hB : Below w0.heap.size w0 w) (hb : w0.heap.size ≤ b) (h : Lst b c w) (hl : c.length + 3 * v.size + 3 * u.size + 3 * t.size + 2 ≤ 8000000) :
    Calls Tryz.prog 100 #[.pointer (some ⟨b, 0, none⟩), .agg #[.int .i64 v.kind, .int .i64 v.k, .int .i64 v.n, .slice va v.l.length vc], .agg #[.int .i64 u.kind, .int .i64 u.k, .int .i64 u.n, .slice ua u.l.length uc], .agg #[.int .i64 t.kind, .int .i64 t.k, .int .i64 t.n, .slice ta t.l.length tc]] w fun e w' => e = .returned (.tuple #[]) ∧ Lst b (c ++ ifC v u t c.length) w' ∧ KI b w w' := by
  obtain ⟨W, hW⟩ : ∃ W, W = ((w.alloc (.cells #[.int .i64 v.kind, .int .i64 v.k, .int .i64 v.n, .slice va v.l.length vc] 105)).alloc (.cells #[.int .i64 u.kind, .int .i64 u.k, .int .i64 u.n, .slice ua u.l.length uc] 105)).alloc (.cells #[.int .i64 t.kind, .int .i64 t.k, .int .i64 t.n, .slice ta t.l.length tc] 105) := ⟨_, rfl⟩
  have q : Quiet w W := by rw [hW]; exact (Kp.alloc _ _).trans ((Kp.alloc _ _).trans (Kp.alloc _ _))
  have hlt := h.lt
  have b12 := three_at w (.cells #[.int .i64 v.kind, .int .i64 v.k, .int .i64 v.n, .slice va v.l.length vc] 105) (.cells #[.int .i64 u.kind, .int .i64 u.k, .int .i64 u.n, .slice ua u.l.length uc] 105) (.cells #[.int .i64 t.kind, .int .i64 t.k, .int .i64 t.n, .slice ta t.l.length tc] 105)
  rw [← hW] at b12
  have HBU := hid (fun (w' : World) (k : KI b W w') => box_cells (k.box b12.1 (by omega) (by decide)))
  have HBT := hid (fun (w' : World) (k : KI b W w') => box_cells (k.box b12.2 (by omega) (by decide)))
  have HW := hid (And.intro hW (KI.quiet q (Nat.le_of_lt hlt)))
  have HV := hid (hv va vc c W iv ov (low_ki hB (KI.quiet q (Nat.le_of_lt hlt)) hb) hb (h.quiet q) (by omega))
  have HB := hid (low_ki hB (KI.quiet q (Nat.le_of_lt hlt)) hb)
  have HU := hid (fun (d : List Ik) (w' : World) (k : Below w0.heap.size w0 w') (h : Lst b d w') (hd : d.length + 3 * u.size ≤ 8000000) => hu ua uc d w' iu ou k hb h hd)
  have HT := hid (fun (d : List Ik) (w' : World) (k : Below w0.heap.size w0 w') (h : Lst b d w') (hd : d.length + 3 * t.size ≤ 8000000) => ht ta tc d w' it ot k hb h hd)
  have hcl := code_len v c.length
  have hcu := code_len u (c.length + (v.code c.length).length + 1)
  rw [hW] at HV
  clear hv hu ht iv iu it q b12 hW h
  go_enter Tryz.func100, Tryz.ntmps100
  go_wp2_with (first
    | (go_at_call 89; refine (lput_any b c5 ⟨104, 0, 0⟩ _ h5 l5).mono ?_; rintro e w6 ⟨rfl, h6, k6⟩; replace k6 := k5.trans k6; obtain ⟨c6, E6, h6⟩ := h6.ex; replace E6 := hid E6)
    | (go_at_call 88; refine (HU.out c4 w4 (low_ki HB.out k4 hb) h4 l4).mono ?_; rintro e w5 ⟨rfl, h5, k5⟩; replace k5 := k4.trans k5; obtain ⟨c5, E5, h5⟩ := h5.ex; replace E5 := hid E5; have l5 : c5.length ≤ 9000000 := (by rw [E5.out, E4.out, E3.out]; simp only [List.length_append, List.length_singleton]; omega))
    | (go_at_call 89; refine (lput_any b c3 ⟨103, 0, 0⟩ _ h3 l3).mono ?_; rintro e w4 ⟨rfl, h4, k4⟩; replace k4 := k3.trans k4; obtain ⟨c4, E4, h4⟩ := h4.ex; replace E4 := hid E4; obtain ⟨z0, z9, z1, z2⟩ := HBU.out _ k4; have l4 : c4.length + 3 * u.size ≤ 8000000 := (by rw [E4.out, E3.out]; simp only [List.length_append, List.length_singleton]; omega))
    | (go_at_call 88; refine HV.out.mono ?_; rintro e w3 ⟨rfl, h3, k3⟩; rw [← HW.out.1] at k3; obtain ⟨c3, E3, h3⟩ := h3.ex; replace E3 := hid E3; have l3 : c3.length ≤ 9000000 := (by rw [E3.out]; simp only [List.length_append]; omega)))
  clear z0 z9 z1 z2
  have e6 : c6 = c3 ++ ([⟨103, 0, 0⟩] ++ (u.code c4.length ++ [⟨104, 0, 0⟩])) := by rw [E6.out, E5.out, E4.out]; simp only [List.append_assoc]
  obtain ⟨n6, hn6⟩ : ∃ n, c6.length = n := ⟨_, rfl⟩
  obtain ⟨g, cap, ⟨s0, s1, s2, s3⟩, hs⟩ := lst_set (e6 ▸ h6)
  rw [← e6, hn6] at s0
  obtain ⟨m3, hm3⟩ : ∃ n, c3.length = n := ⟨_, rfl⟩
  rw [hm3] at s1 s2 hs ⊢
  have hlt6 : m3 < n6 := by rw [← hn6, e6, ← hm3]; simp
  have hn6b : n6 + 3 * t.size ≤ 8000000 := by
    have h1 := code_len u c4.length
    rw [← hn6, E6.out, E5.out, List.length_append, List.length_append, List.length_singleton]
    rw [E4.out, E3.out] at h1 ⊢
    simp only [List.length_append, List.length_singleton] at h1 ⊢
    omega
  have HS := hid hs
  have HN := hid (And.intro hn6 (And.intro hm3 e6))
  have H6 := hid (And.intro h6 k6)
  clear hs hn6 hm3 e6 h6 k6 h5 h4 h3
  obtain ⟨w7, hw7⟩ : ∃ w7, w7 = (w6.setCell ⟨g, m3 * 3 + 1, none⟩ (.int .i64 (n6 : Int))).drew := ⟨_, rfl⟩
  have h7 : Lst b (c3 ++ ([⟨103, (n6 : Int), 0⟩] ++ (u.code c4.length ++ [⟨104, 0, 0⟩]))) w7 := by rw [hw7]; exact (HS.out n6).1.quiet (Kp.drew _)
  have k7 : KI b W w7 := by rw [hw7]; exact H6.out.2.trans (((HS.out n6).2).trans (KI.quiet (Kp.drew (F := fun _ => False) _) (by have := H6.out.1.lt; simp; omega)))
  obtain ⟨z0, z9, z1, z2⟩ := HBT.out _ k7
  obtain ⟨c7, E7, h7⟩ := h7.ex
  replace E7 := hid E7
  have l7 : c7.length + 3 * t.size ≤ 8000000 := by
    have : c7.length = c6.length := by rw [E7.out, HN.out.2.2]; simp
    rw [this, HN.out.1]; exact hn6b
  have HH7 := hid h7
  clear HS h7
  go_region
  rw [← hw7]
  replace hw7 := hid hw7
  clear s0 s1 s2 s3
  go_wp2_with (go_at_call 88; refine (HT.out c7 w7 (low_ki HB.out k7 hb) HH7.out l7).mono ?_; rintro e w8 ⟨rfl, h8, k8⟩)
  replace k8 := k7.trans k8
  clear z0 z9 z1 z2
  have e8 : c7 ++ t.code c7.length = (c3 ++ ([(⟨103, (n6 : Int), 0⟩ : Ik)] ++ u.code c4.length)) ++ ([(⟨104, 0, 0⟩ : Ik)] ++ t.code n6) := by
    have : c7.length = n6 := by rw [E7.out, ← HN.out.1, HN.out.2.2]; simp
    rw [this, E7.out]; simp only [List.append_assoc]
  have e5 : (c3 ++ ([(⟨103, (n6 : Int), 0⟩ : Ik)] ++ u.code c4.length)).length = c5.length := by rw [E5.out, E4.out]; simp only [List.append_assoc, List.length_append, List.length_singleton]
  have l8 : (c7 ++ t.code c7.length).length ≤ 8000000 := by
    have := code_len t c7.length
    rw [List.length_append]; omega
  rw [e8] at h8 l8
  obtain ⟨g8, cap8, ⟨s0, s1, s2, s3⟩, hs⟩ := lst_set h8
  obtain ⟨n8, hn8⟩ : ∃ n, ((c3 ++ ([(⟨103, (n6 : Int), 0⟩ : Ik)] ++ u.code c4.length)) ++ ([(⟨104, 0, 0⟩ : Ik)] ++ t.code n6)).length = n := ⟨_, rfl⟩
  have hlt8 : c5.length < n8 := by rw [← hn8, List.length_append, e5]; simp
  rw [e5] at s1 s2 hs
  rw [hn8] at s0 l8
  have HS := hid hs
  have H8 := hid (And.intro h8 k8)
  have HN8 := hid (And.intro hn8 (And.intro e8 e5))
  clear hs h8 k8 hn8 e8 e5
  go_region
  go_wp2
  go_end0
  refine ⟨rfl, ?_, HW.out.2.trans (H8.out.2.trans (((HS.out n8).2).trans (KI.quiet (Kp.drew (F := fun _ => False) _) (by have := H8.out.1.lt; simp; omega))))⟩
  have h9 := (HS.out n8).1.quiet (Kp.drew (F := fun _ => False) _)
  have f3 : c3.length = c.length + (v.code c.length).length := by rw [E3.out, List.length_append]
  have f4 : c4.length = c.length + (v.code c.length).length + 1 := by rw [E4.out, List.length_append, f3]; rfl
  have f6 : n6 = elseAt v u c.length := by
    rw [← HN.out.1, HN.out.2.2]
    simp only [List.length_append, List.length_singleton, f3, f4]
    unfold elseAt; omega
  have f8 : n8 = elseAt v u c.length + (t.code (elseAt v u c.length)).length := by
    rw [← HN8.out.1]
    have h1 := HN8.out.2.2
    have h2 := HN.out.1
    rw [E6.out] at h2
    simp only [List.length_append, List.length_singleton] at h1 h2 ⊢
    rw [← f6]; omega
  have e9 : (c3 ++ ([(⟨103, (n6 : Int), 0⟩ : Ik)] ++ u.code c4.length)) ++ ([⟨104, (n8 : Int), 0⟩] ++ t.code n6) = c ++ ifC v u t c.length := by
    unfold ifC
    rw [f8, f6, f4, E3.out]
    simp only [List.append_assoc]
  rw [← e9]; exact h9
theorem Tryz.mixedL : Tryz.prog.follows .mixedOrders = true := by kernel_rfl
set_option maxRecDepth 8000 in
set_option maxHeartbeats 2000000 in
theorem lplain_of (w0 : World) (b : Nat) (v : V) (ih : ∀ x ∈ v.l, ExprL w0 b x) (ao : Option Addr) (cap : Nat) (c : List Ik) (w : World) (hI : Is w0 v ao) (ho : Ok v)
    (hB : Below w0.heap.size w0 w) (hb : w0.heap.size ≤ b) (h : Lst b c w) (hl : c.length + 3 * sizes v.l + 1 ≤ 8000000) :
    Calls Tryz.prog 101 #[.pointer (some ⟨b, 0, none⟩), .agg #[.int .i64 v.kind, .int .i64 v.k, .int .i64 v.n, .slice ao v.l.length cap]] w fun e w' => e = .returned (.tuple #[]) ∧ Lst b (c ++ (codesP v.l c.length ++ [⟨v.kind, v.k, v.n⟩])) w' ∧ KI b w w' := by
  obtain ⟨W, hW⟩ : ∃ W, W = w.alloc (.cells #[.int .i64 v.kind, .int .i64 v.k, .int .i64 v.n, .slice ao v.l.length cap] 105) := ⟨_, rfl⟩
  have q : Quiet w W := by rw [hW]; exact Kp.alloc _ _
  have hlt := h.lt
  have b0 : W.heap[w.heap.size]? = some (.cells #[.int .i64 v.kind, .int .i64 v.k, .int .i64 v.n, .slice ao v.l.length cap] 105 (0, 0)) := by rw [hW]; exact heap_alloc_new w _
  have HBX := hid (fun (w' : World) (k : KI b W w') => box_cells (k.box b0 (by omega) (by decide)))
  have HW := hid (And.intro hW (And.intro (KI.quiet q (Nat.le_of_lt hlt)) (h.quiet q)))
  have HB := hid (low_ki hB (KI.quiet q (Nat.le_of_lt hlt)) hb)
  have HI := hid (And.intro hI (And.intro ih ho.kids))
  have hvl := sizes_len v.l
  have hvl5 : v.l.length ≤ 8000000 := by omega
  clear hI ih ho q b0 h
  go_enter Tryz.func101, Tryz.ntmps101
  go_wp2
  go_loopw [9] (fun i wr => ∃ j : Nat, j ≤ v.l.length ∧ i = .int .i64 j ∧ Lst b (c ++ codesP (v.l.take j) c.length) wr ∧ KI b W wr) (fun i _ => v.l.length - (intOf i).toNat)
  case atStart =>
    refine ⟨0, Nat.zero_le _, rfl, ?_, ?_⟩
    · rw [List.take_zero, codesP_nil, List.append_nil, ← hW]; exact HW.out.2.2
    · rw [← hW]; exact KI.refl _ _
  case round =>
    obtain ⟨j, hj, rfl, h, hk⟩ := hrel
    have hstl := sizes_take_le v.l j
    have hcj := codesP_len (v.l.take j) c.length
    obtain ⟨z0, z9, z1, z2⟩ := HBX.out _ hk
    by_cases hlt2 : j < v.l.length
    · obtain ⟨bb, oo, rfl, dh, ca, cc, ds, hki⟩ := HI.out.1.get j hlt2
      have hBr := low_ki HB.out hk hb
      obtain ⟨d0, d1, d2⟩ := head_kept (low_kept hBr) dh
      have dsk := low_kept hBr _ _ ds
      have HC := hid (HI.out.2.1 v.l[j] (List.getElem_mem hlt2) ca cc)
      have HO := hid (HI.out.2.2 v.l[j] (List.getElem_mem hlt2))
      have HN := hid (codesP_take v.l j hlt2 c.length)
      have hst := sizes_take v.l j hlt2
      have hst2 := sizes_take_le v.l (j + 1)
      generalize v.l[j] = u at *
      have qa : Quiet wr (wr.alloc (.cells #[.int .i64 u.kind, .int .i64 u.k, .int .i64 u.n, .slice ca u.l.length cc] 105)) := Kp.alloc _ _
      have kq := KI.quiet (b := b) qa (Nat.le_of_lt h.lt)
      have HQ := hid (HC.out (c ++ codesP (v.l.take j) c.length) _ hki HO.out (low_ki hBr kq hb) hb (h.quiet qa) (by rw [List.length_append]; omega))
      have HK := hid (hk.trans kq)
      clear h hk dh ds hki hBr qa kq HC HO hcj
      go_wp2_with (go_at_call 88; refine HQ.out.mono ?_; rintro e w6 ⟨rfl, h6, k6⟩)
      refine ⟨⟨j + 1, by omega, by go_num, ?_, HK.out.trans k6⟩, by simp [intOf]; omega⟩
      rw [HN.out, ← List.append_assoc]
      rw [List.length_append] at h6
      exact h6
    · have hjl : j = v.l.length := by omega
      subst hjl
      rw [List.take_length] at h hcj
      have HP := hid (lput_any b (c ++ codesP v.l c.length) ⟨v.kind, v.k, v.n⟩ _ h (by rw [List.length_append]; omega))
      have HK := hid hk
      clear h hk hcj
      go_wp2_with (go_at_call 89; refine HP.out.mono ?_; rintro e w6 ⟨rfl, h6, k6⟩)
      go_end0
      refine ⟨rfl, ?_, HW.out.2.1.trans (HK.out.trans k6)⟩
      rw [← List.append_assoc]; exact h6
theorem fo_at {w w' : World} {l : List V} {ao : Option Addr} (h : Fo w l ao) (hk : ∀ (a : Addr) (x : Value), w.cell? a = some x → w'.cell? a = some x) (i : Nat) (x : V) (hi : l[i]? = some x) :
    ∃ b off, ao = some ⟨b, off, none⟩ ∧ ∃ ai cap, (w'.cell? ⟨b, off + i * 4, none⟩ = some (.int .i64 x.kind) ∧ w'.cell? ⟨b, off + i * 4 + 1, none⟩ = some (.int .i64 x.k) ∧ w'.cell? ⟨b, off + i * 4 + 2, none⟩ = some (.int .i64 x.n) ∧ w'.cell? ⟨b, off + i * 4 + 3, none⟩ = some (.slice ai x.l.length cap)) ∧ Is w x ai := by
  obtain ⟨hi2, rfl⟩ := List.getElem?_eq_some_iff.1 hi
  obtain ⟨b, off, e, dh, ai, cap, ds, hI⟩ := h.get i hi2
  obtain ⟨d0, d1, d2⟩ := head_kept hk dh
  exact ⟨b, off, e, ai, cap, ⟨d0, d1, d2, hk _ _ ds⟩, hI⟩
set_option maxRecDepth 8000 in
set_option maxHeartbeats 4000000 in
theorem lexpr_let (w0 : World) (b : Nat) (x y : V) (k n : Int) (hx : ExprL w0 b x) (hy : ExprL w0 b y) (ao : Option Addr) (cap : Nat) (c : List Ik) (w : World) (hI : Fo w0 [x, y] ao) (ox : Ok x) (oy : Ok y)
    (hB : Below w0.heap.size w0 w) (hb : w0.heap.size ≤ b) (h : Lst b c w) (hl : c.length + 3 + 3 * x.size + 3 * y.size ≤ 8000000) :
    Calls Tryz.prog 88 #[.pointer (some ⟨b, 0, none⟩), .agg #[.int .i64 5, .int .i64 k, .int .i64 n, .slice ao 2 cap]] w fun e w' => e = .returned (.tuple #[]) ∧ Lst b (c ++ ([⟨100, 0, 0⟩] ++ letC x y (c.length + 1))) w' ∧ KI b w w' := by
  obtain ⟨W, hW⟩ : ∃ W, W = w.alloc (.cells #[.int .i64 5, .int .i64 k, .int .i64 n, .slice ao 2 cap] 105) := ⟨_, rfl⟩
  have q : Quiet w W := by rw [hW]; exact Kp.alloc _ _
  have hlt := h.lt
  have b0 : W.heap[w.heap.size]? = some (.cells #[.int .i64 5, .int .i64 k, .int .i64 n, .slice ao 2 cap] 105 (0, 0)) := by rw [hW]; exact heap_alloc_new w _
  have HBX := hid (fun (w' : World) (k : KI b W w') => box_cells (k.box b0 (by omega) (by decide)))
  have HW := hid (And.intro hW (KI.quiet q (Nat.le_of_lt hlt)))
  have HB := hid (low_ki hB (KI.quiet q (Nat.le_of_lt hlt)) hb)
  have HP := hid (lput_any b c ⟨100, 0, 0⟩ W (h.quiet q) (by omega))
  rw [hW] at HP
  have HI := hid (fun (w' : World) (k : KI b W w') => And.intro (fo_at hI (low_kept (low_ki (low_ki hB (KI.quiet q (Nat.le_of_lt hlt)) hb) k hb)) 0 x rfl) (fo_at hI (low_kept (low_ki (low_ki hB (KI.quiet q (Nat.le_of_lt hlt)) hb) k hb)) 1 y rfl))
  have HL := hid (fun (xa ya : Option Addr) (xc yc : Nat) (d : List Ik) (w' : World) (ix : Is w0 x xa) (iy : Is w0 y ya) (k : Below w0.heap.size w0 w') (h : Lst b d w') (hd : d.length + 3 * x.size + 3 * y.size + 2 ≤ 8000000) => llet_of w0 b x y hx hy xa ya xc yc d w' ix iy ox oy k hb h hd)
  clear q b0 h hI hW hx hy
  go_enter Tryz.func88, Tryz.ntmps88
  go_wp2_with (go_at_call 89; refine HP.out.mono ?_; rintro e w3 ⟨rfl, h3, k3⟩; rw [← HW.out.1] at k3; have H3 := hid (And.intro h3 k3); obtain ⟨z0, z9, z1, z2⟩ := HBX.out _ k3; obtain ⟨⟨bb, oo, rfl, xa, xc, ⟨d0, d1, d2, d3⟩, ix⟩, ⟨bb', oo', eq, ya, yc, ⟨f0, f1, f2, f3⟩, iy⟩⟩ := HI.out _ k3; simp only [Option.some.injEq, Addr.mk.injEq, and_true] at eq; obtain ⟨rfl, rfl⟩ := eq; have HIX := hid (And.intro ix iy); clear h3 k3 ix iy)
  simp only [Nat.zero_mul, Nat.add_zero, Nat.one_mul] at d0 d1 d2 d3 f0 f1 f2 f3
  have el : (c ++ [(⟨100, 0, 0⟩ : Ik)]).length = c.length + 1 := by simp
  have HC := hid (HL.out xa ya xc yc (c ++ [⟨100, 0, 0⟩]) w3.drew HIX.out.1 HIX.out.2 (low_ki HB.out (H3.out.2.trans (KI.quiet (Kp.drew (F := fun _ => False) _) (Nat.le_of_lt H3.out.1.lt))) hb) (H3.out.1.quiet (Kp.drew _)) (by rw [el]; omega))
  rw [el] at HC
  clear el
  go_still_tail 9, Tryz.mixedL
  go_wp2_with (go_at_call 99; refine HC.out.mono ?_; rintro e w5 ⟨rfl, h5, k5⟩)
  go_end0
  refine ⟨rfl, ?_, HW.out.2.trans (H3.out.2.trans ((KI.quiet (Kp.drew (F := fun _ => False) _) (Nat.le_of_lt H3.out.1.lt)).trans k5))⟩
  rw [show c ++ (⟨100, 0, 0⟩ :: letC x y (c.length + 1)) = (c ++ [⟨100, 0, 0⟩]) ++ letC x y (c.length + 1) by simp]; exact h5
set_option maxRecDepth 8000 in
set_option maxHeartbeats 4000000 in
theorem lexpr_if (w0 : World) (b : Nat) (x y z : V) (k n : Int) (hx : ExprL w0 b x) (hy : ExprL w0 b y) (hz : ExprL w0 b z) (ao : Option Addr) (cap : Nat) (c : List Ik) (w : World) (hI : Fo w0 [x, y, z] ao) (ox : Ok x) (oy : Ok y) (oz : Ok z)
    (hB : Below w0.heap.size w0 w) (hb : w0.heap.size ≤ b) (h : Lst b c w) (hl : c.length + 3 + 3 * x.size + 3 * y.size + 3 * z.size ≤ 8000000) :
    Calls Tryz.prog 88 #[.pointer (some ⟨b, 0, none⟩), .agg #[.int .i64 7, .int .i64 k, .int .i64 n, .slice ao 3 cap]] w fun e w' => e = .returned (.tuple #[]) ∧ Lst b (c ++ ([⟨100, 0, 0⟩] ++ ifC x y z (c.length + 1))) w' ∧ KI b w w' := by
  obtain ⟨W, hW⟩ : ∃ W, W = w.alloc (.cells #[.int .i64 7, .int .i64 k, .int .i64 n, .slice ao 3 cap] 105) := ⟨_, rfl⟩
  have q : Quiet w W := by rw [hW]; exact Kp.alloc _ _
  have hlt := h.lt
  have b0 : W.heap[w.heap.size]? = some (.cells #[.int .i64 7, .int .i64 k, .int .i64 n, .slice ao 3 cap] 105 (0, 0)) := by rw [hW]; exact heap_alloc_new w _
  have HBX := hid (fun (w' : World) (k : KI b W w') => box_cells (k.box b0 (by omega) (by decide)))
  have HW := hid (And.intro hW (KI.quiet q (Nat.le_of_lt hlt)))
  have HB := hid (low_ki hB (KI.quiet q (Nat.le_of_lt hlt)) hb)
  have HP := hid (lput_any b c ⟨100, 0, 0⟩ W (h.quiet q) (by omega))
  rw [hW] at HP
  have HI := hid (fun (w' : World) (k : KI b W w') => And.intro (fo_at hI (low_kept (low_ki (low_ki hB (KI.quiet q (Nat.le_of_lt hlt)) hb) k hb)) 0 x rfl) (And.intro (fo_at hI (low_kept (low_ki (low_ki hB (KI.quiet q (Nat.le_of_lt hlt)) hb) k hb)) 1 y rfl) (fo_at hI (low_kept (low_ki (low_ki hB (KI.quiet q (Nat.le_of_lt hlt)) hb) k hb)) 2 z rfl)))
  have HL := hid (fun (xa ya za : Option Addr) (xc yc zc : Nat) (d : List Ik) (w' : World) (ix : Is w0 x xa) (iy : Is w0 y ya) (iz : Is w0 z za) (k : Below w0.heap.size w0 w') (h : Lst b d w') (hd : d.length + 3 * x.size + 3 * y.size + 3 * z.size + 2 ≤ 8000000) => lchoice_of w0 b x y z hx hy hz xa ya za xc yc zc d w' ix iy iz ox oy oz k hb h hd)
  clear q b0 h hI hW hx hy hz
  go_enter Tryz.func88, Tryz.ntmps88
  go_wp2_with (go_at_call 89; refine HP.out.mono ?_; rintro e w3 ⟨rfl, h3, k3⟩; rw [← HW.out.1] at k3; have H3 := hid (And.intro h3 k3); obtain ⟨z0, z9, z1, z2⟩ := HBX.out _ k3; obtain ⟨⟨bb, oo, rfl, xa, xc, ⟨d0, d1, d2, d3⟩, ix⟩, ⟨bb', oo', eq, ya, yc, ⟨f0, f1, f2, f3⟩, iy⟩, ⟨bb2, oo2, eq2, za, zc, ⟨g0, g1, g2, g3⟩, iz⟩⟩ := HI.out _ k3; simp only [Option.some.injEq, Addr.mk.injEq, and_true] at eq eq2; obtain ⟨rfl, rfl⟩ := eq; obtain ⟨rfl, rfl⟩ := eq2; have HIX := hid (And.intro ix (And.intro iy iz)); clear h3 k3 ix iy iz)
  simp only [Nat.zero_mul, Nat.add_zero, Nat.one_mul, Nat.reduceMul] at d0 d1 d2 d3 f0 f1 f2 f3 g0 g1 g2 g3
  have el : (c ++ [(⟨100, 0, 0⟩ : Ik)]).length = c.length + 1 := by simp
  have HC := hid (HL.out xa ya za xc yc zc (c ++ [⟨100, 0, 0⟩]) w3.drew HIX.out.1 HIX.out.2.1 HIX.out.2.2 (low_ki HB.out (H3.out.2.trans (KI.quiet (Kp.drew (F := fun _ => False) _) (Nat.le_of_lt H3.out.1.lt))) hb) (H3.out.1.quiet (Kp.drew _)) (by rw [el]; omega))
  rw [el] at HC
  clear el
  go_still_tail 13, Tryz.mixedL
  go_wp2_with (go_at_call 100; refine HC.out.mono ?_; rintro e w5 ⟨rfl, h5, k5⟩)
  go_end0
  refine ⟨rfl, ?_, HW.out.2.trans (H3.out.2.trans ((KI.quiet (Kp.drew (F := fun _ => False) _) (Nat.le_of_lt H3.out.1.lt)).trans k5))⟩
  rw [show c ++ (⟨100, 0, 0⟩ :: ifC x y z (c.length + 1)) = (c ++ [⟨100, 0, 0⟩]) ++ ifC x y z (c.length + 1) by simp]; exact h5
set_option maxRecDepth 8000 in
set_option maxHeartbeats 4000000 in
theorem lexpr_other (w0 : World) (b : Nat) (v : V) (ih : ∀ x ∈ v.l, ExprL w0 b x) (h5 : v.kind ≠ 5) (h7 : v.kind ≠ 7) (ao : Option Addr) (cap : Nat) (c : List Ik) (w : World) (hI : Is w0 v ao) (ho : Ok v)
    (hB : Below w0.heap.size w0 w) (hb : w0.heap.size ≤ b) (h : Lst b c w) (hl : c.length + 3 * v.size ≤ 8000000) :
    Calls Tryz.prog 88 #[.pointer (some ⟨b, 0, none⟩), .agg #[.int .i64 v.kind, .int .i64 v.k, .int .i64 v.n, .slice ao v.l.length cap]] w fun e w' => e = .returned (.tuple #[]) ∧ Lst b (c ++ ([⟨100, 0, 0⟩] ++ (codesP v.l (c.length + 1) ++ [⟨v.kind, v.k, v.n⟩]))) w' ∧ KI b w w' := by
  obtain ⟨W, hW⟩ : ∃ W, W = w.alloc (.cells #[.int .i64 v.kind, .int .i64 v.k, .int .i64 v.n, .slice ao v.l.length cap] 105) := ⟨_, rfl⟩
  have q : Quiet w W := by rw [hW]; exact Kp.alloc _ _
  have hlt := h.lt
  have b0 : W.heap[w.heap.size]? = some (.cells #[.int .i64 v.kind, .int .i64 v.k, .int .i64 v.n, .slice ao v.l.length cap] 105 (0, 0)) := by rw [hW]; exact heap_alloc_new w _
  have HBX := hid (fun (w' : World) (k : KI b W w') => box_cells (k.box b0 (by omega) (by decide)))
  have HW := hid (And.intro hW (KI.quiet q (Nat.le_of_lt hlt)))
  have HB := hid (low_ki hB (KI.quiet q (Nat.le_of_lt hlt)) hb)
  have HP := hid (lput_any b c ⟨100, 0, 0⟩ W (h.quiet q) (by omega))
  rw [hW] at HP
  have hsz := size_eq v
  have el : (c ++ [(⟨100, 0, 0⟩ : Ik)]).length = c.length + 1 := by simp
  have HL := hid (fun (w' : World) (k : Below w0.heap.size w0 w') (h : Lst b (c ++ [⟨100, 0, 0⟩]) w') => lplain_of w0 b v ih ao cap (c ++ [⟨100, 0, 0⟩]) w' hI ho k hb h (by rw [el]; omega))
  rw [el] at HL
  have n5 : (v.kind == 5) = false := by simpa using h5
  have n7 : (v.kind == 7) = false := by simpa using h7
  clear q b0 h hI hW ih el
  go_enter Tryz.func88, Tryz.ntmps88
  go_wp2_with (first
    | (go_at_call 101; refine (HL.out w3 (low_ki HB.out k3 hb) h3).mono ?_; rintro e w4 ⟨rfl, h4, k4⟩)
    | (go_at_call 89; refine HP.out.mono ?_; rintro e w3 ⟨rfl, h3, k3⟩; rw [← HW.out.1] at k3; obtain ⟨z0, z9, z1, z2⟩ := HBX.out _ k3))
  go_end0
  refine ⟨rfl, ?_, HW.out.2.trans (k3.trans k4)⟩
  rw [show c ++ (⟨100, 0, 0⟩ :: (codesP v.l (c.length + 1) ++ [⟨v.kind, v.k, v.n⟩])) = (c ++ [⟨100, 0, 0⟩]) ++ (codesP v.l (c.length + 1) ++ [⟨v.kind, v.k, v.n⟩]) by simp]; exact h4
theorem lexpr_any (w0 : World) (b : Nat) (v : V) : ExprL w0 b v := by
  induction v using V.ind' with
  | h v ih =>
    intro ao cap c w hI ho hB hb h hl
    have hsz := size_eq v
    by_cases e5 : v.kind = 5
    · obtain ⟨x, y, hxy⟩ := ho.two e5
      have hx : x ∈ v.l := by simp [hxy]
      have hy : y ∈ v.l := by simp [hxy]
      have hsx : sizes v.l = x.size + y.size := by rw [hxy, sizes_cons, sizes_cons, sizes_nil]; rfl
      have hF := hI.fo
      rw [code_let e5 hxy]
      rw [hxy] at hF
      rw [hxy, e5]
      exact lexpr_let w0 b x y v.k v.n (ih x hx) (ih y hy) ao cap c w hF (ho.kids x hx) (ho.kids y hy) hB hb h (by omega)
    · by_cases e7 : v.kind = 7
      · obtain ⟨x, y, z, hxy⟩ := ho.three e7
        have hx : x ∈ v.l := by simp [hxy]
        have hy : y ∈ v.l := by simp [hxy]
        have hz : z ∈ v.l := by simp [hxy]
        have hsx : sizes v.l = x.size + y.size + z.size := by rw [hxy, sizes_cons, sizes_cons, sizes_cons, sizes_nil]; omega
        have hF := hI.fo
        rw [code_if e7 hxy]
        rw [hxy] at hF
        rw [hxy, e7]
        exact lexpr_if w0 b x y z v.k v.n (ih x hx) (ih y hy) (ih z hz) ao cap c w hF (ho.kids x hx) (ho.kids y hy) (ho.kids z hz) hB hb h (by omega)
      · rw [code_other e5 e7]
        exact lexpr_other w0 b v ih e5 e7 ao cap c w hI ho hB hb h hl
def keyOf (a : Option Addr) (n : Nat) : Value := .agg #[.pointer (if n = 0 then none else a), .int .i64 n]
set_option maxRecDepth 8000 in
set_option maxHeartbeats 1000000 in
theorem listOf_any (a : Option Addr) (n cap : Nat) (w : World) (ha : 0 < n → ∃ b o, a = some ⟨b, o, none⟩) :
    Calls Tryz.prog 139 #[.slice a n cap] w fun e w' => e = .returned (keyOf a n) ∧ Quiet w w' := by
  by_cases hn : n = 0
  · subst hn
    go_enter Tryz.func139, Tryz.ntmps139
    go_wp2
    refine bodyPost_ret (v := .agg #[.pointer none, .int .i64 0]) (by simp [results, Tryz.results139, go_sem]) rfl ?_
    exact ⟨rfl, Kp.alloc _ _⟩
  · obtain ⟨b, o, rfl⟩ := ha (by omega)
    have hn1 : ¬ (n : Int) = 0 := by omega
    have hn2 : (0 : Int) < (n : Int) := by omega
    have hE := hid (show keyOf (some ⟨b, o, none⟩) n = .agg #[.pointer (some ⟨b, o, none⟩), .int .i64 n] by simp [keyOf, hn])
    clear hn
    go_enter Tryz.func139, Tryz.ntmps139
    go_wp2
    refine bodyPost_ret (v := .agg #[.pointer (some ⟨b, o, none⟩), .int .i64 n]) (by simp [results, Tryz.results139, go_sem]) rfl ?_
    exact ⟨by rw [hE.out], Kp.alloc _ _⟩
theorem part0 (p : Option Addr) (n : Int) (w : World) : (part 207 #[.pointer p, .int .i64 n] 0).run Tryz.prog w = .ok (.pointer p) w := by
  simp [go_sem, part]
theorem part1 (p : Option Addr) (n : Int) (w : World) : (part 3 #[.pointer p, .int .i64 n] 1).run Tryz.prog w = .ok (.int .i64 n) w := by
  simp [go_sem, part]
theorem key_p (e : Bool) (p : Option Addr) (m : Nat) (w : World) : (Instr.checkKey e (m + 1) 207 (.pointer p)).run Tryz.prog w = .ok () w := by
  simp [Instr.checkKey, run_underlying Tryz.underlying207, go_sem]
theorem key_i (e : Bool) (n : Int) (m : Nat) (w : World) : (Instr.checkKey e (m + 1) 3 (.int .i64 n)).run Tryz.prog w = .ok () w := by
  simp [Instr.checkKey, run_underlying Tryz.underlying3, go_sem]
theorem key_ok (e : Bool) (p : Option Addr) (n : Int) (m : Nat) (w : World) : (Instr.checkKey e (m + 1 + 1) 209 (.agg #[.pointer p, .int .i64 n])).run Tryz.prog w = .ok () w := by
  rw [Instr.checkKey]
  simp [run_underlying Tryz.underlying209, part0, part1, key_p, key_i, Result.andThen]
def cln (w : World) : World := { w with heap := w.heap.map fun o => match o with | .cells c t (0, 0) => .cells c t (0, 0) | _ => .cells #[] 0 (0, 0) }
theorem cln_same {w : World} {k : Nat} {c : Array Value} {t : TypeId} (h : w.heap[k]? = some (.cells c t (0, 0))) : (cln w).heap[k]? = some (.cells c t (0, 0)) := by
  simp [cln, h]
theorem cln_cell {w : World} {a : Addr} {x : Value} (h : (cln w).cell? a = some x) : w.cell? a = some x ∧ ∃ c t, w.heap[a.block]? = some (.cells c t (0, 0)) := by
  cases hb : w.heap[a.block]? with
  | none => simp [World.cell?, cln, hb] at h
  | some o =>
    by_cases ho : ∃ c t, o = .cells c t (0, 0)
    · obtain ⟨c, t, rfl⟩ := ho
      exact ⟨(World.cell?_of_block ((cln_same hb).trans hb.symm)).symm.trans h, c, t, rfl⟩
    · exfalso
      have e : (cln w).heap[a.block]? = some (.cells #[] 0 (0, 0)) := by
        simp only [cln, Array.getElem?_map, hb, Option.map_some]
        congr 1
        split
        · rename_i c t; exact absurd ⟨c, t, rfl⟩ ho
        · rfl
      simp [World.cell?, e] at h
theorem cln_quiet {w w' : World} (q : Quiet w w') : ∀ (a : Addr) (x : Value), (cln w).cell? a = some x → (cln w').cell? a = some x := by
  intro a x h
  obtain ⟨h1, c, t, h2⟩ := cln_cell h
  have h3 := (q.block a.block (lt_of_block h2) fun e => e).trans h2
  rw [World.cell?_of_block ((cln_same h3).trans h2.symm)]
  exact h1
theorem Fo.unclean {w : World} {l : List V} {ao : Option Addr} (h : Fo (cln w) l ao) : Fo w l ao := h.kept fun _ _ hc => (cln_cell hc).1
theorem Is.unclean {w : World} {v : V} {ao : Option Addr} (h : Is (cln w) v ao) : Is w v ao := h.kept fun _ _ hc => (cln_cell hc).1
theorem Fo.clean {w : World} {l : List V} {b o : Nat} (h : Fo (cln w) l (some ⟨b, o, none⟩)) (hl : l ≠ []) : ∃ c t, w.heap[b]? = some (.cells c t (0, 0)) := by
  have h0 : 0 < l.length := List.length_pos_iff.2 hl
  obtain ⟨b', o', e, hh, _⟩ := h.get 0 h0
  cases e
  exact (cln_cell hh.1).2
theorem eq_ptr (a b : Option Addr) (d : Nat) (w : World) (ha : ∀ x, a = some x → ∃ c t, w.heap[x.block]? = some (.cells c t (0, 0))) (hb : ∀ x, b = some x → ∃ c t, w.heap[x.block]? = some (.cells c t (0, 0))) :
    (Op.equalIn (d + 1) 207 (.pointer a) (.pointer b)).run Tryz.prog w = .ok (decide (a = b)) w := by
  obtain ⟨i0, hi, _, hz1, _⟩ := info_parts Tryz.infoV
  cases a with
  | none => cases b <;> simp [Op.equalIn, run_underlying Tryz.underlying207]
  | some a =>
    cases b with
    | none => simp [Op.equalIn, run_underlying Tryz.underlying207]
    | some b =>
      by_cases e : a = b
      · subst e
        simp [Op.equalIn, run_underlying Tryz.underlying207, sizeOf, typeInfo, hi, run_sameAddr_same]
      · obtain ⟨c1, t1, h1⟩ := ha a rfl
        obtain ⟨c2, t2, h2⟩ := hb b rfl
        simp [Op.equalIn, run_underlying Tryz.underlying207, sizeOf, typeInfo, hi, hz1, run_sameAddr_other w e h1 h2, e]
theorem eq_key (a b : Option Addr) (n m : Int) (w : World) (ha : ∀ x, a = some x → ∃ c t, w.heap[x.block]? = some (.cells c t (0, 0))) (hb : ∀ x, b = some x → ∃ c t, w.heap[x.block]? = some (.cells c t (0, 0))) :
    (Op.equalIn 10000 209 (.agg #[.pointer a, .int .i64 n]) (.agg #[.pointer b, .int .i64 m])).run Tryz.prog w = .ok (decide (a = b) && decide (n = m)) w := by
  have hS : Tryz.prog.underlying 209 = some (.struct (Tryz.prog.fieldsOf 209)) := by kernel_rfl
  have hp : Tryz.prog.stoodInHeld 209 = false := by kernel_rfl
  have h1 := eq_ptr a b 9998 w ha hb
  rw [show (10000 : Nat) = 9999 + 1 from rfl, run_equalIn_agg w 9999 209 _ _ hS hp]
  simp only [Program.fieldsOf, Tryz.underlying209]
  rw [show (9999 : Nat) = 9998 + 1 from rfl]
  go_simp
  by_cases e1 : a = b <;> by_cases e2 : n = m <;> simp [e1, e2]
def Cp (w : World) (a : Option Addr) : Prop := ∀ x, a = some x → ∃ c t, w.heap[x.block]? = some (.cells c t (0, 0))
def Ks (w : World) (es : List MapEntry) : Prop := ∀ e ∈ es, e.val = .agg #[] ∧ ∃ b m, e.key = .agg #[.pointer b, .int .i64 m] ∧ Cp w b
def isKey (a : Option Addr) (n : Int) (e : MapEntry) : Bool := match e.key with | .agg cs => (match cs.toList with | [.pointer b, .int .i64 m] => decide (a = b) && decide (n = m) | _ => false) | _ => false
def hasKey (es : List MapEntry) (a : Option Addr) (n : Int) : Bool := es.any (isKey a n)
theorem isKey_at {e : MapEntry} {a b : Option Addr} {n m : Int} (h : e.key = .agg #[.pointer b, .int .i64 m]) : isKey a n e = (decide (a = b) && decide (n = m)) := by simp [isKey, h]
theorem find_key (a : Option Addr) (n : Int) (w : World) (ha : Cp w a) (es : List MapEntry) : ∀ i, Ks w es →
    ∃ j, (Instr.findAsking 209 (.agg #[.pointer a, .int .i64 n]) es i).run Tryz.prog w = .ok (if hasKey es a n = true then some (j, .agg #[]) else none) w := by
  induction es with
  | nil => intro i _; exact ⟨0, by simp [Instr.findAsking, hasKey]⟩
  | cons e es ih =>
    intro i hk
    obtain ⟨hv, b, m, hek, hb⟩ := hk e (by simp)
    have h1 := eq_key a b n m w ha hb
    rw [← isKey_at (a := a) (n := n) hek] at h1
    cases hs : isKey a n e with
    | true =>
      refine ⟨i, ?_⟩
      rw [hs] at h1
      have h2 : hasKey (e :: es) a n = true := by simp [hasKey, hs]
      rw [Instr.findAsking, hek, Op.equal, Op.maxDepth, Sem.run_bind, h1, h2]
      simp [Result.andThen, hv]
    | false =>
      rw [hs] at h1
      have h2 : hasKey (e :: es) a n = hasKey es a n := by simp [hasKey, hs]
      obtain ⟨j, h3⟩ := ih (i + 1) (fun e he => hk e (by simp [he]))
      refine ⟨j, ?_⟩
      rw [Instr.findAsking, hek, Op.equal, Op.maxDepth, Sem.run_bind, h1, h2, ← h3]
      simp [Result.andThen]
theorem look_met (a : Option Addr) (n : Int) (w : World) (r clock : Nat) (es : Array MapEntry) (ha : Cp w a) (hb : w.heap[r]? = some (.map es clock)) (hk : Ks w es.toList) :
    (Instr.lookup 204 (.map (some r)) (.agg #[.pointer a, .int .i64 n]) true).run Tryz.prog w = .ok (.tuple #[.agg #[], .bool (hasKey es.toList a n)]) w ∧
      (hasKey es.toList a n = false → (Instr.findKey 209 (.agg #[.pointer a, .int .i64 n]) es.toList).run Tryz.prog w = .ok none w) := by
  have k := key_ok es.isEmpty a n 9998 w
  have hz := Tryz.zeroValue205 w
  have hf := run_findKey_eq (P := Tryz.prog) (k := 209) w (by rw [Tryz.underlying209]) (.agg #[.pointer a, .int .i64 n]) es.toList
  obtain ⟨j, h1⟩ := find_key a n w ha es.toList 0 hk
  rw [h1] at hf
  cases hh : hasKey es.toList a n with
  | false =>
    rw [hh] at hf
    refine ⟨?_, fun _ => hf⟩
    unfold Instr.lookup
    simp only [Sem.run_bind, run_underlying Tryz.underlying204, MapKept.run_getObj_map hb, Result.andThen]
    rw [show (10000 : Nat) = 9998 + 1 + 1 from rfl]
    generalize (9998 + 1 + 1 : Nat) = M at *
    simp [k, hf, hz, Result.andThen]
  | true =>
    rw [hh] at hf
    refine ⟨?_, fun h => by simp at h⟩
    unfold Instr.lookup
    simp only [Sem.run_bind, run_underlying Tryz.underlying204, MapKept.run_getObj_map hb, Result.andThen]
    rw [show (10000 : Nat) = 9998 + 1 + 1 from rfl]
    generalize (9998 + 1 + 1 : Nat) = M at *
    simp [k, hf]
def addKey (w : World) (r : Nat) (es : Array MapEntry) (clock : Nat) (a : Option Addr) (n : Int) : World := { w with heap := w.heap.setIfInBounds r (.map (es.push { key := .agg #[.pointer a, .int .i64 n], val := .agg #[], born := clock }) (clock + 1)) }
theorem add_met (a : Option Addr) (n : Int) (w : World) (r clock : Nat) (es : Array MapEntry) (hb : w.heap[r]? = some (.map es clock)) (hf : (Instr.findKey 209 (.agg #[.pointer a, .int .i64 n]) es.toList).run Tryz.prog w = .ok none w) :
    (Instr.mapUpdate 204 (.map (some r)) (.agg #[.pointer a, .int .i64 n]) (.agg #[])).run Tryz.prog w = .ok () (addKey w r es clock a n) := by
  have k := key_ok false a n 9998 w
  unfold Instr.mapUpdate
  simp only [Sem.run_bind, run_underlying Tryz.underlying204, MapKept.run_getObj_map hb, Result.andThen]
  rw [show (10000 : Nat) = 9998 + 1 + 1 from rfl]
  generalize (9998 + 1 + 1 : Nat) = M at *
  simp [k, hf, MapKept.run_setObj_map _ hb, addKey]
theorem addKey_quiet {w : World} {r clock : Nat} {es : Array MapEntry} {a : Option Addr} {n : Int} : Kp (fun k => k = r) w (addKey w r es clock a n) :=
  ⟨rfl, rfl, rfl, by simp [addKey], fun k _ hk => by simp [addKey, Ne.symm hk]⟩
theorem addKey_at {w : World} {r clock : Nat} {es : Array MapEntry} {a : Option Addr} {n : Int} (hb : w.heap[r]? = some (.map es clock)) : (addKey w r es clock a n).heap[r]? = some (.map (es.push { key := .agg #[.pointer a, .int .i64 n], val := .agg #[], born := clock }) (clock + 1)) := by
  have := lt_of_block hb
  simp [addKey, this]
end Go.Proofs.YtkpckmcaeljocaaGreat.Ex
