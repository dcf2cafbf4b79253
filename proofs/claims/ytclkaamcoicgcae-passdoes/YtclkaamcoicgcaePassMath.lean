/- What is handed on, in plain mathematics: each capability through gates. -/
import Derived.Test.YtclkaamcoicgcaeJPlain
namespace Go.Proofs.Ytclkaamcoicgcae
open Gr (Nd Res nd0 thereB deriveOf addOf rightsN wayOf gatesOf gatesW targetOf Wf NdOk)
/-- A capability through one gate behind the other: its number, a code, the capabilities then. -/
def through (os : List Bool) : List Nd → Int → List Int → Int × Int × List Nd
  | ns, x, [] => (x, 0, ns)
  | ns, x, g :: gs => if (deriveOf ns os x 15 g).code = 0 then through os (deriveOf ns os x 15 g).ns (deriveOf ns os x 15 g).num gs else (0, (deriveOf ns os x 15 g).code, (deriveOf ns os x 15 g).ns)
def v0 : V := ⟨0, 0, []⟩
/-- A value whose capabilities are through gates; a code; the capabilities then. -/
def V.handed (os : List Bool) (gs : List Int) : V → List Nd → V × Int × List Nd
  | ⟨k, n, l⟩, ns =>
    let d := if k = 4 then through os ns n gs else (n, 0, ns)
    if d.2.1 = 0 then
      let h := handeds os gs l d.2.2
      if h.2.1 = 0 then (⟨k, d.1, h.1⟩, 0, h.2.2) else (v0, h.2.1, h.2.2)
    else (v0, d.2.1, d.2.2)
  where handeds (os : List Bool) (gs : List Int) : List V → List Nd → List V × Int × List Nd
    | [], ns => ([], 0, ns)
    | v :: l, ns =>
      let a := V.handed os gs v ns
      if a.2.1 = 0 then
        let b := handeds os gs l a.2.2
        if b.2.1 = 0 then (a.1 :: b.1, 0, b.2.2) else ([], b.2.1, b.2.2)
      else ([], a.2.1, a.2.2)
abbrev handeds (os : List Bool) (gs : List Int) (l : List V) (ns : List Nd) : List V × Int × List Nd := V.handed.handeds os gs l ns
/-- The number of a part, through the gates. -/
def numOf (os : List Bool) (gs : List Int) (v : V) (ns : List Nd) : Int × Int × List Nd := if v.kind = 4 then through os ns v.n gs else (v.n, 0, ns)
theorem handed_eq (os : List Bool) (gs : List Int) (v : V) (ns : List Nd) : v.handed os gs ns =
    if (numOf os gs v ns).2.1 = 0 then
      (if (handeds os gs v.l (numOf os gs v ns).2.2).2.1 = 0 then (⟨v.kind, (numOf os gs v ns).1, (handeds os gs v.l (numOf os gs v ns).2.2).1⟩, 0, (handeds os gs v.l (numOf os gs v ns).2.2).2.2)
       else (v0, (handeds os gs v.l (numOf os gs v ns).2.2).2.1, (handeds os gs v.l (numOf os gs v ns).2.2).2.2))
    else (v0, (numOf os gs v ns).2.1, (numOf os gs v ns).2.2) := by cases v; rw [V.handed]; rfl
theorem handeds_nil (os : List Bool) (gs : List Int) (ns : List Nd) : handeds os gs [] ns = ([], 0, ns) := by simp only [handeds, V.handed.handeds]
theorem handeds_cons (os : List Bool) (gs : List Int) (v : V) (l : List V) (ns : List Nd) : handeds os gs (v :: l) ns =
    if (v.handed os gs ns).2.1 = 0 then (if (handeds os gs l (v.handed os gs ns).2.2).2.1 = 0 then ((v.handed os gs ns).1 :: (handeds os gs l (v.handed os gs ns).2.2).1, 0, (handeds os gs l (v.handed os gs ns).2.2).2.2)
      else ([], (handeds os gs l (v.handed os gs ns).2.2).2.1, (handeds os gs l (v.handed os gs ns).2.2).2.2)) else ([], (v.handed os gs ns).2.1, (v.handed os gs ns).2.2) := by simp only [handeds, V.handed.handeds]
/-- One behind the other. -/
theorem handeds_app (os : List Bool) (gs : List Int) (a b : List V) : ∀ ns, handeds os gs (a ++ b) ns =
    if (handeds os gs a ns).2.1 = 0 then (if (handeds os gs b (handeds os gs a ns).2.2).2.1 = 0 then ((handeds os gs a ns).1 ++ (handeds os gs b (handeds os gs a ns).2.2).1, 0, (handeds os gs b (handeds os gs a ns).2.2).2.2)
      else ([], (handeds os gs b (handeds os gs a ns).2.2).2.1, (handeds os gs b (handeds os gs a ns).2.2).2.2)) else ([], (handeds os gs a ns).2.1, (handeds os gs a ns).2.2) := by
  induction a with
  | nil =>
    intro ns
    rw [List.nil_append, handeds_nil]
    by_cases h : (handeds os gs b ns).2.1 = 0
    · simp only [if_true, h, List.nil_append]
      rw [← h]
    · simp only [if_true, h, if_false]
      cases b with
      | nil => rw [handeds_nil] at h; exact absurd rfl h
      | cons x b =>
        rw [handeds_cons] at h ⊢
        split at h
        · rename_i h1
          rw [if_pos h1]
          split at h
          · exact absurd rfl h
          · rename_i h2
            rw [if_neg h2]
        · rename_i h1
          rw [if_neg h1]
  | cons x a ih =>
    intro ns
    rw [List.cons_append, handeds_cons, handeds_cons]
    by_cases h1 : (x.handed os gs ns).2.1 = 0
    · rw [if_pos h1, if_pos h1, ih]
      by_cases h2 : (handeds os gs a (x.handed os gs ns).2.2).2.1 = 0
      · simp only [h2, if_true]
        by_cases h3 : (handeds os gs b (handeds os gs a (x.handed os gs ns).2.2).2.2).2.1 = 0
        · simp only [h3, if_true, List.cons_append]
        · simp only [h3, if_false]
      · simp only [h2, if_false]
    · simp only [h1, if_false]
/-- With one more. -/
theorem handeds_take (os : List Bool) (gs : List Int) (l : List V) (ns : List Nd) (j : Nat) (h : j < l.length) (r : List V) (ns1 : List Nd) (hr : handeds os gs (l.take j) ns = (r, 0, ns1)) :
    handeds os gs (l.take (j + 1)) ns = if (l[j].handed os gs ns1).2.1 = 0 then (r ++ [(l[j].handed os gs ns1).1], 0, (l[j].handed os gs ns1).2.2) else ([], (l[j].handed os gs ns1).2.1, (l[j].handed os gs ns1).2.2) := by
  rw [List.take_add_one, List.getElem?_eq_getElem h, Option.toList_some, handeds_app, hr]
  simp only [if_true]
  rw [handeds_cons, handeds_nil]
  by_cases h1 : (l[j].handed os gs ns1).2.1 = 0
  · simp only [h1, if_true]
  · simp only [h1, if_false]
/-- Where one of the first can't be handed on, neither can all. -/
theorem handeds_stop (os : List Bool) (gs : List Int) (l : List V) (ns : List Nd) (j : Nat) (c : Int) (ns1 : List Nd) (hc : c ≠ 0) (hr : handeds os gs (l.take j) ns = ([], c, ns1)) : handeds os gs l ns = ([], c, ns1) := by
  have h := handeds_app os gs (l.take j) (l.drop j) ns
  rw [List.take_append_drop, hr] at h
  simpa [hc] using h
/-- May it be handed on? -/
def mayOf (ns : List Nd) (os : List Bool) (v : V) : Int :=
  if v.check = 0 then (if v.gate then 9 else if v.caps.all fun c => (rightsN ns os c).testBit 2 then 0 else 9) else v.check
def passedOf (ns : List Nd) (os : List Bool) (gs : List Int) (v : V) : V × Int × List Nd := if mayOf ns os v = 0 then v.handed os gs ns else (v0, mayOf ns os v, ns)
/-- Through no gate it is itself. -/
theorem handed_none (os : List Bool) (v : V) : ∀ ns, v.handed os [] ns = (v, 0, ns) := by
  induction v using V.ind' with
  | h v ih =>
    have key : ∀ l : List V, (∀ x ∈ l, ∀ ns, x.handed os [] ns = (x, 0, ns)) → ∀ ns, handeds os [] l ns = (l, 0, ns) := by
      intro l
      induction l with
      | nil => intro _ ns; exact handeds_nil _ _ _
      | cons x l ihl =>
        intro hx ns
        rw [handeds_cons, hx x (by simp)]
        simp only [if_true]
        rw [ihl fun y hy => hx y (by simp [hy])]
        simp
    intro ns
    have hn : numOf os [] v ns = (v.n, 0, ns) := by unfold numOf; split <;> rfl
    rw [handed_eq, hn]
    simp only [if_true]
    rw [key v.l ih]
    cases v; rfl
theorem passed_none (ns : List Nd) (os : List Bool) (v : V) : passedOf ns os [] v = if mayOf ns os v = 0 then (v, 0, ns) else (v0, mayOf ns os v, ns) := by unfold passedOf; rw [handed_none]
end Go.Proofs.Ytclkaamcoicgcae
