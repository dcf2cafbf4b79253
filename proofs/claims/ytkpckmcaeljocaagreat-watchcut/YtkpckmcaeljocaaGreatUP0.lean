/- Parts. -/
import Derived.Test.YtkpckmcaeljocaaGreatUG2
namespace Go.Proofs.YtkpckmcaeljocaaGreat
open Gr (Nd Res nd0 thereB deriveOf addOf rightsN wayOf gatesOf gatesW targetOf Wf NdOk)
def through (os : List Bool) : List Nd → Int → List Int → Int × Int × List Nd
  | ns, x, [] => (x, 0, ns)
  | ns, x, g :: gs => if (deriveOf ns os x 15 g).code = 0 then through os (deriveOf ns os x 15 g).ns (deriveOf ns os x 15 g).num gs else (0, (deriveOf ns os x 15 g).code, (deriveOf ns os x 15 g).ns)
def v0 : V := ⟨0, 0, []⟩
def V.handed (os : List Bool) (gs : List Int) : V → List Nd → V × Int × List Nd
  | ⟨k, n, l⟩, ns =>
    let d := if k = 4 then through os ns n gs else (n, 0, ns)
    if d.2.1 = 0 then
      let h := handeds os gs l d.2.2
      if h.2.1 = 0 then (⟨k, d.1, h.1⟩, 0, h.2.2) else (v0, h.2.1, h.2.2)
    else (v0, d.2.1, d.2.2)
  where handeds (os : List Bool) (gs : List Int) : List V → List Nd → List V × Int × List Nd
    | [], ns => ([], 0, ns)
    | v :: l, ns =>
      let a := V.handed os gs v ns
      if a.2.1 = 0 then
        let b := handeds os gs l a.2.2
        if b.2.1 = 0 then (a.1 :: b.1, 0, b.2.2) else ([], b.2.1, b.2.2)
      else ([], a.2.1, a.2.2)
abbrev handeds (os : List Bool) (gs : List Int) (l : List V) (ns : List Nd) : List V × Int × List Nd := V.handed.handeds os gs l ns
def numOf (os : List Bool) (gs : List Int) (v : V) (ns : List Nd) : Int × Int × List Nd := if v.kind = 4 then through os ns v.n gs else (v.n, 0, ns)
theorem handed_eq (os : List Bool) (gs : List Int) (v : V) (ns : List Nd) : v.handed os gs ns =
    if (numOf os gs v ns).2.1 = 0 then
      (if (handeds os gs v.l (numOf os gs v ns).2.2).2.1 = 0 then (⟨v.kind, (numOf os gs v ns).1, (handeds os gs v.l (numOf os gs v ns).2.2).1⟩, 0, (handeds os gs v.l (numOf os gs v ns).2.2).2.2)
       else (v0, (handeds os gs v.l (numOf os gs v ns).2.2).2.1, (handeds os gs v.l (numOf os gs v ns).2.2).2.2))
    else (v0, (numOf os gs v ns).2.1, (numOf os gs v ns).2.2) := by cases v; rw [V.handed]; rfl
theorem handeds_nil (os : List Bool) (gs : List Int) (ns : List Nd) : handeds os gs [] ns = ([], 0, ns) := by simp only [handeds, V.handed.handeds]
theorem handeds_cons (os : List Bool) (gs : List Int) (v : V) (l : List V) (ns : List Nd) : handeds os gs (v :: l) ns =
    if (v.handed os gs ns).2.1 = 0 then (if (handeds os gs l (v.handed os gs ns).2.2).2.1 = 0 then ((v.handed os gs ns).1 :: (handeds os gs l (v.handed os gs ns).2.2).1, 0, (handeds os gs l (v.handed os gs ns).2.2).2.2)
      else ([], (handeds os gs l (v.handed os gs ns).2.2).2.1, (handeds os gs l (v.handed os gs ns).2.2).2.2)) else ([], (v.handed os gs ns).2.1, (v.handed os gs ns).2.2) := by simp only [handeds, V.handed.handeds]
theorem handeds_app (os : List Bool) (gs : List Int) (a b : List V) : ∀ ns, handeds os gs (a ++ b) ns =
    if (handeds os gs a ns).2.1 = 0 then (if (handeds os gs b (handeds os gs a ns).2.2).2.1 = 0 then ((handeds os gs a ns).1 ++ (handeds os gs b (handeds os gs a ns).2.2).1, 0, (handeds os gs b (handeds os gs a ns).2.2).2.2)
      else ([], (handeds os gs b (handeds os gs a ns).2.2).2.1, (handeds os gs b (handeds os gs a ns).2.2).2.2)) else ([], (handeds os gs a ns).2.1, (handeds os gs a ns).2.2) := by
  induction a with
  | nil =>
    intro ns
    rw [List.nil_append, handeds_nil]
    by_cases h : (handeds os gs b ns).2.1 = 0
    · simp only [if_true, h, List.nil_append]
      rw [← h]
    · simp only [if_true, h, if_false]
      cases b with
      | nil => rw [handeds_nil] at h; exact absurd rfl h
      | cons x b =>
        rw [handeds_cons] at h ⊢
        split at h
        · rename_i h1
          rw [if_pos h1]
          split at h
          · exact absurd rfl h
          · rename_i h2
            rw [if_neg h2]
        · rename_i h1
          rw [if_neg h1]
  | cons x a ih =>
    intro ns
    rw [List.cons_append, handeds_cons, handeds_cons]
    by_cases h1 : (x.handed os gs ns).2.1 = 0
    · rw [if_pos h1, if_pos h1, ih]
      by_cases h2 : (handeds os gs a (x.handed os gs ns).2.2).2.1 = 0
      · simp only [h2, if_true]
        by_cases h3 : (handeds os gs b (handeds os gs a (x.handed os gs ns).2.2).2.2).2.1 = 0
        · simp only [h3, if_true, List.cons_append]
        · simp only [h3, if_false]
      · simp only [h2, if_false]
    · simp only [h1, if_false]
theorem handeds_take (os : List Bool) (gs : List Int) (l : List V) (ns : List Nd) (j : Nat) (h : j < l.length) (r : List V) (ns1 : List Nd) (hr : handeds os gs (l.take j) ns = (r, 0, ns1)) :
    handeds os gs (l.take (j + 1)) ns = if (l[j].handed os gs ns1).2.1 = 0 then (r ++ [(l[j].handed os gs ns1).1], 0, (l[j].handed os gs ns1).2.2) else ([], (l[j].handed os gs ns1).2.1, (l[j].handed os gs ns1).2.2) := by
  rw [List.take_add_one, List.getElem?_eq_getElem h, Option.toList_some, handeds_app, hr]
  simp only [if_true]
  rw [handeds_cons, handeds_nil]
  by_cases h1 : (l[j].handed os gs ns1).2.1 = 0
  · simp only [h1, if_true]
  · simp only [h1, if_false]
theorem handeds_stop (os : List Bool) (gs : List Int) (l : List V) (ns : List Nd) (j : Nat) (c : Int) (ns1 : List Nd) (hc : c ≠ 0) (hr : handeds os gs (l.take j) ns = ([], c, ns1)) : handeds os gs l ns = ([], c, ns1) := by
  have h := handeds_app os gs (l.take j) (l.drop j) ns
  rw [List.take_append_drop, hr] at h
  simpa [hc] using h
def mayOf (ns : List Nd) (os : List Bool) (v : V) : Int :=
  if v.check = 0 then (if v.gate then 9 else if v.caps.all fun c => (rightsN ns os c).testBit 2 then 0 else 9) else v.check
def passedOf (ns : List Nd) (os : List Bool) (gs : List Int) (v : V) : V × Int × List Nd := if mayOf ns os v = 0 then v.handed os gs ns else (v0, mayOf ns os v, ns)
end Go.Proofs.YtkpckmcaeljocaaGreat
namespace Go.Proofs.YtkpckmcaeljocaaGreat
open Go.ChangeShapes Go.WideShapes Go.ChangeAt Go.RowKit
open Gr (Nd Res nd0 thereB deriveOf addOf rightsN wayOf gatesOf gatesW targetOf Wf NdOk GS Goes Own StepP IntsAt)
def SafeF (F : Nat → Prop) (P : World → Prop) (w : World) : Prop := ∀ w', Kp F w w' → P w'
theorem SafeF.now {F : Nat → Prop} {P : World → Prop} {w : World} (h : SafeF F P w) : P w := h w (Kp.refl _ _)
theorem SafeF.step {F F' : Nat → Prop} {P : World → Prop} {w w' : World} (h : SafeF F P w) (k : Kp F w w') (hF : ∀ k, k < w.heap.size → F' k → F k) : SafeF F' P w' := by
  intro w2 k2
  refine h w2 ⟨k2.os.trans k.os, k2.tape.trans k.tape, k2.output.trans k.output, Nat.le_trans k.size k2.size, fun i hi hn => ?_⟩
  exact (k2.block i (Nat.lt_of_lt_of_le hi k.size) fun e => hn (hF i hi e)).trans (k.block i hi hn)
theorem SafeF.mono {F F' : Nat → Prop} {P : World → Prop} {w : World} (h : SafeF F P w) (hF : ∀ k, k < w.heap.size → F' k → F k) : SafeF F' P w := h.step (Kp.refl _ _) hF
theorem SafeF.goes {P : World → Prop} {b : Nat} {vn vo vn' vo' : Value} {w w' : World} (h : SafeF (Own b vn vo) P w) (g : Goes b vn vo w vn' vo' w') : SafeF (Own b vn' vo') P w' :=
  h.step g.kp fun k hk e => by
    rcases g.own k e with e | e
    · exact e
    · omega
def World.void (w : World) (b : Nat) : World := { w with heap := w.heap.setIfInBounds b (.cells #[] 0 (0, 0)) }
theorem void_kp {F : Nat → Prop} (w : World) (b : Nat) (h : F b) : Kp F w (World.void w b) :=
  ⟨rfl, rfl, rfl, by simp [World.void], fun k _ hk => by
    have : b ≠ k := fun e => hk (e ▸ h)
    simp [World.void, this]⟩
theorem void_cell (w : World) (b o : Nat) (hb : b < w.heap.size) : (World.void w b).cell? ⟨b, o, none⟩ = none := by
  simp [World.void, World.cell?, hb]
theorem SafeF.kid {F : Nat → Prop} {w : World} {v : V} {ao : Option Addr} (h : SafeF F (fun w => Is w v ao) w) (j : Nat) (hj : j < v.l.length) :
    ∃ bb oo ca cc, ao = some ⟨bb, oo, none⟩ ∧ ¬ F bb ∧ (v.l[j].head w bb (oo + j * 3) ∧ w.cell? ⟨bb, oo + j * 3 + 2, none⟩ = some (.slice ca v.l[j].l.length cc)) ∧ SafeF F (fun w => Is w v.l[j] ca) w := by
  obtain ⟨bb, oo, rfl, dh, ca, cc, ds, _⟩ := h.now.get j hj
  have hn : ¬ F bb := fun hF => by
    obtain ⟨b2, o2, e2, dh2, _⟩ := (h _ (void_kp w bb hF)).get j hj
    cases e2
    have h1 := dh2.1
    rw [void_cell w bb _ (World.block_lt_of_cell? w _ ds)] at h1
    cases h1
  refine ⟨bb, oo, ca, cc, rfl, hn, ⟨dh, ds⟩, fun w2 k2 => ?_⟩
  obtain ⟨b2, o2, e2, _, ca2, cc2, ds2, i2⟩ := (h w2 k2).get j hj
  cases e2
  have := k2.cell ds hn
  rw [this] at ds2
  simp at ds2
  rw [ds2.1]; exact i2
theorem Gr.Goes.fresh {b : Nat} {vn vo vn' vo' : Value} {w w1 w2 : World} (h : Goes b vn vo w vn' vo' w1) (k : Kp (fun i => w.heap.size ≤ i) w1 w2) : Goes b vn vo w vn' vo' w2 := ⟨h.kp.fresh k, h.own⟩
theorem Gr.Goes.after {b : Nat} {vn vo vn' vo' : Value} {w w0 w1 : World} (q : Quiet w w0) (h : Goes b vn vo w0 vn' vo' w1) : Goes b vn vo w vn' vo' w1 :=
  ⟨(q.mono fun _ _ e => e.elim).trans h.kp, fun k e => by rcases h.own k e with e | e; exact .inl e; exact .inr (Nat.le_trans q.size e)⟩
theorem Gr.GS.free_new {t : TypeId} {B : Nat} {w : World} {b : Nat} {vn vo : Value} {ns : List Nd} {os : List Bool} (h : GS t B w b vn vo ns os) (k : Nat) (hk : w.heap.size ≤ k) : ¬ Own b vn vo k := fun e => by have := (h.own k e).2; omega
theorem Gr.GS.free_type {t : TypeId} {B : Nat} {w : World} {b : Nat} {vn vo : Value} {ns : List Nd} {os : List Bool} (h : GS t B w b vn vo ns os) {k : Nat} {c : Array Value} {t' : TypeId} (hk : w.heap[k]? = some (.cells c t' (0, 0))) (h1 : t' ≠ t) (h2 : t' ≠ 72) (h3 : t' ≠ 4) : ¬ Own b vn vo k := by
  have key : ∀ {e : TypeId} {s n : Nat} {v : Value} {xs : List Value}, w.ownsRow B e s v n xs → t' ≠ e → v.ownBlock ≠ some k := by
    intro e s n v xs hr he hv
    rcases hr.2 with ⟨rfl, _⟩ | ⟨g, cap, cur, rfl, _, hg, _⟩
    · simp [Value.ownBlock] at hv
    · simp [Value.ownBlock] at hv
      subst hv
      rw [hk] at hg
      simp at hg
      exact he hg.2
  rintro (rfl | e | e)
  · rw [h.obj] at hk; simp at hk; exact h1 hk.2.symm
  · exact key h.rn h2 e
  · exact key h.ro h3 e
theorem derive_os (ns : List Nd) (os : List Bool) (p r g : Int) : (deriveOf ns os p r g).os = os := by
  unfold deriveOf addOf
  repeat' split
  all_goals rfl
theorem cap_leaf {v : V} (h : v.fault = 0) (hk : v.kind = 4) : v.l = [] := by
  have h1 := fault_one h
  unfold V.fault1 at h1
  rw [hk, show partsB 4 = some 0 by decide] at h1
  simp only at h1
  by_cases e : v.l.length = 0
  · exact List.length_eq_zero_iff.1 e
  · rw [if_pos e] at h1; cases h1
theorem handed_cap (os : List Bool) (gs : List Int) {v : V} (ns : List Nd) (hk : v.kind = 4) (hl : v.l = []) : v.handed os gs ns = if (through os ns v.n gs).2.1 = 0 then (⟨4, (through os ns v.n gs).1, []⟩, 0, (through os ns v.n gs).2.2) else (v0, (through os ns v.n gs).2.1, (through os ns v.n gs).2.2) := by
  have hn : numOf os gs v ns = through os ns v.n gs := by unfold numOf; rw [if_pos hk]
  rw [handed_eq, hn, hl, hk]
  simp only [handeds_nil, if_true]
theorem handed_other (os : List Bool) (gs : List Int) {v : V} (ns : List Nd) (hk : v.kind ≠ 4) : v.handed os gs ns = if (handeds os gs v.l ns).2.1 = 0 then (⟨v.kind, v.n, (handeds os gs v.l ns).1⟩, 0, (handeds os gs v.l ns).2.2) else (v0, (handeds os gs v.l ns).2.1, (handeds os gs v.l ns).2.2) := by
  have hn : numOf os gs v ns = (v.n, 0, ns) := by unfold numOf; rw [if_neg hk]
  rw [handed_eq, hn]
  simp only [if_true]
theorem through_step (os : List Bool) (ns : List Nd) (x : Int) (gs : List Int) (k : Nat) (hk : k < gs.length) : through os ns x (gs.drop k) = if (deriveOf ns os x 15 gs[k]).code = 0 then through os (deriveOf ns os x 15 gs[k]).ns (deriveOf ns os x 15 gs[k]).num (gs.drop (k + 1)) else (0, (deriveOf ns os x 15 gs[k]).code, (deriveOf ns os x 15 gs[k]).ns) := by
  rw [List.drop_eq_getElem_cons hk, through]
theorem derive_num (ns : List Nd) (os : List Bool) (p r g : Int) (hl : ns.length ≤ 80) : In64 (deriveOf ns os p r g).num := by
  unfold deriveOf addOf In64
  repeat' split
  all_goals (simp only; omega)
end Go.Proofs.YtkpckmcaeljocaaGreat
namespace Go.Proofs.YtkpckmcaeljocaaGreat
open Gr (Nd Res nd0 thereB deriveOf addOf rightsN wayOf gatesOf gatesW targetOf Wf NdOk passB meetW way_yes way_no there_yes there_nat)
theorem wf_pre {ns ns' : List Nd} {g : Nat} (hw : Wf ns' g) (hp : ns <+: ns') : Wf ns g := by
  intro k hk
  obtain ⟨t, rfl⟩ := hp
  have := hw k (by simp; omega)
  rwa [List.getElem_append_left hk] at this
theorem way_pre {ns ns' : List Nd} {g : Nat} (hw : Wf ns' g) (hp : ns <+: ns') : ∀ m j, j < m → j < ns.length → wayOf ns' (j : Int) = wayOf ns (j : Int) := by
  intro m
  induction m with
  | zero => intro j h _; omega
  | succ m ih =>
    intro j hm hj
    have hw0 := wf_pre hw hp
    obtain ⟨t, rfl⟩ := hp
    have hj2 : j < (ns ++ t).length := by simp; omega
    rw [way_yes hw hj2, way_yes hw0 hj, List.getElem_append_left hj]
    congr 1
    have hk := hw0 j hj
    have p0 := hk.p0
    have p1 := hk.p1
    by_cases hq : ns[j].parent < 0
    · have e : thereB ns.length ns[j].parent = false := by simp [thereB]; omega
      have e2 : thereB (ns ++ t).length ns[j].parent = false := by simp [thereB]; omega
      rw [way_no e, way_no e2]
    · obtain ⟨q, hq⟩ : ∃ q : Nat, ns[j].parent = q := ⟨ns[j].parent.toNat, by omega⟩
      rw [hq] at p1 ⊢
      exact ih q (by omega) (by omega)
theorem way_stays {ns ns' : List Nd} {g : Nat} (hw : Wf ns' g) (hp : ns <+: ns') {x : Int} (hx : thereB ns.length x = true) : wayOf ns' x = wayOf ns x := by
  obtain ⟨j, rfl, hj⟩ := there_yes hx
  exact way_pre hw hp (j + 1) j (by omega) hj
theorem there_pre {ns ns' : List Nd} (hp : ns <+: ns') {x : Int} (hx : thereB ns.length x = true) : thereB ns'.length x = true := by
  have := hp.length_le
  simp [thereB] at hx ⊢; omega
structure Came (ns : List Nd) (gs : List Int) (x y : Int) : Prop where
  tx : thereB ns.length x = true
  ty : thereB ns.length y = true
  way : ∃ ch : List Nd, wayOf ns y = ch ++ wayOf ns x ∧ ch.map Nd.gate = gs.reverse ∧ ∀ n ∈ ch, n.rights = 15
  ok : ∀ g ∈ gs, g = -1 ∨ 0 ≤ g
theorem Came.more {ns ns' : List Nd} {gs : List Int} {x y : Int} {g : Nat} (h : Came ns gs x y) (hw : Wf ns' g) (hp : ns <+: ns') : Came ns' gs x y := by
  refine ⟨there_pre hp h.tx, there_pre hp h.ty, ?_, h.ok⟩
  rw [way_stays hw hp h.tx, way_stays hw hp h.ty]; exact h.way
theorem derive_new {ns : List Nd} {os : List Bool} {x g : Int} (h : (deriveOf ns os x 15 g).code = 0) : thereB ns.length x = true ∧ (g = -1 ∨ 0 ≤ g) ∧ (deriveOf ns os x 15 g).num = (ns.length : Int) ∧ (deriveOf ns os x 15 g).ns = ns ++ [⟨x, g, 15, 0, -1, 0⟩] ∧ (Wf ns os.length → Wf (ns ++ [⟨x, g, 15, 0, -1, 0⟩]) os.length) := by
  unfold deriveOf at h ⊢
  by_cases hx : thereB ns.length x = true
  · rw [if_pos hx] at h ⊢
    unfold addOf at h ⊢
    simp only at h ⊢
    rw [if_neg (by decide)] at h ⊢
    by_cases h2 : g ≠ -1 ∧ thereB os.length g = false
    · rw [if_pos h2] at h; cases h
    rw [if_neg h2] at h ⊢
    by_cases h3 : ns.length = 80
    · rw [if_pos h3] at h; cases h
    rw [if_neg h3]
    have hg : g = -1 ∨ thereB os.length g = true := by
      by_cases e : g = -1
      · exact .inl e
      · right
        cases ht : thereB os.length g
        · exact absurd ⟨e, ht⟩ h2
        · rfl
    refine ⟨hx, ?_, rfl, rfl, fun hw => hw.snoc ?_⟩
    · rcases hg with e | e
      · exact .inl e
      · simp [thereB] at e; right; omega
    · simp [thereB] at hx
      exact ⟨by simp only; omega, by simp only; omega, hg, by simp, by simp, by simp, by simp, by simp, by simp, by simp, by simp⟩
  · rw [if_neg hx] at h; cases h
theorem through_came {os : List Bool} (gs : List Int) : ∀ {ns ns' : List Nd} {x y : Int}, through os ns x gs = (y, 0, ns') → Wf ns os.length → thereB ns.length x = true → Wf ns' os.length ∧ ns <+: ns' ∧ Came ns' gs x y := by
  induction gs with
  | nil =>
    intro ns ns' x y h hw hx
    rw [through] at h
    simp only [Prod.mk.injEq, true_and] at h
    obtain ⟨rfl, rfl⟩ := h
    exact ⟨hw, List.prefix_refl _, hx, hx, ⟨[], rfl, rfl, by simp⟩, by simp⟩
  | cons g gs ih =>
    intro ns ns' x y h hw hx
    rw [through] at h
    by_cases hc : (deriveOf ns os x 15 g).code = 0
    · rw [if_pos hc] at h
      obtain ⟨_, hg, hn, hns, hwf⟩ := derive_new hc
      rw [hn, hns] at h
      have hw1 := hwf hw
      have hl : ns.length < (ns ++ [(⟨x, g, 15, 0, -1, 0⟩ : Nd)]).length := by simp
      obtain ⟨w2, p2, c2⟩ := ih h hw1 (there_nat hl)
      have p1 : ns <+: ns' := (List.prefix_append ns _).trans p2
      refine ⟨w2, p1, there_pre p1 hx, c2.ty, ?_, ?_⟩
      · obtain ⟨ch, e1, e2, e3⟩ := c2.way
        have ew : wayOf ns' (ns.length : Int) = ⟨x, g, 15, 0, -1, 0⟩ :: wayOf ns' x := by
          have h1 := way_stays w2 p2 (there_nat hl)
          rw [h1, way_yes hw1 hl]
          simp only [List.getElem_append_right (Nat.le_refl _), Nat.sub_self, List.getElem_singleton]
          rw [← way_stays w2 p2 (there_pre (List.prefix_append ns _) hx)]
        refine ⟨ch ++ [⟨x, g, 15, 0, -1, 0⟩], ?_, ?_, ?_⟩
        · rw [e1, ew]; simp
        · rw [List.map_append, e2]; simp
        · intro n hn
          rcases List.mem_append.1 hn with hn | hn
          · exact e3 n hn
          · simp at hn; rw [hn]
      · intro a ha
        rcases List.mem_cons.1 ha with rfl | ha
        · exact hg
        · exact c2.ok a ha
    · rw [if_neg hc] at h
      simp only [Prod.mk.injEq] at h
      exact absurd h.2.1 hc
def V.shape : V → V
  | ⟨k, n, l⟩ => ⟨k, if k = 4 then 0 else n, shapes l⟩
  where shapes : List V → List V
    | [] => []
    | v :: l => V.shape v :: shapes l
abbrev shapes (l : List V) : List V := V.shape.shapes l
theorem shape_eq (v : V) : v.shape = ⟨v.kind, if v.kind = 4 then 0 else v.n, shapes v.l⟩ := by cases v; rw [V.shape]
theorem shapes_cons (v : V) (l : List V) : shapes (v :: l) = v.shape :: shapes l := by simp only [shapes, V.shape.shapes]
structure Gone (ns' : List Nd) (gs : List Int) (v y : V) : Prop where
  shape : y.shape = v.shape
  gate : y.gate = v.gate
  caps : y.caps.length = v.caps.length
  came : ∀ i (h : i < v.caps.length), Came ns' gs v.caps[i] (y.caps[i]'(by omega))
structure Gones (ns' : List Nd) (gs : List Int) (l m : List V) : Prop where
  shape : shapes m = shapes l
  gate : gateIn (pres m) = gateIn (pres l)
  caps : (capsIn (pres m)).length = (capsIn (pres l)).length
  came : ∀ i (h : i < (capsIn (pres l)).length), Came ns' gs (capsIn (pres l))[i] ((capsIn (pres m))[i]'(by omega))
theorem came_app {ns' : List Nd} {gs : List Int} {a b c d : List Int} (h1 : a.length = c.length) (h2 : b.length = d.length) (k1 : ∀ i (h : i < a.length), Came ns' gs a[i] (c[i]'(by omega))) (k2 : ∀ i (h : i < b.length), Came ns' gs b[i] (d[i]'(by omega))) :
    ∀ i (h : i < (a ++ b).length), Came ns' gs (a ++ b)[i] ((c ++ d)[i]'(by simp at h ⊢; omega)) := by
  intro i h
  by_cases hi : i < a.length
  · rw [List.getElem_append_left hi, List.getElem_append_left (by omega)]; exact k1 i hi
  · have e : (c ++ d)[i]'(by simp at h ⊢; omega) = d[i - a.length]'(by simp at h; omega) := by
      rw [List.getElem_append_right (by omega)]; simp only [h1]
    rw [e, List.getElem_append_right (by omega)]
    exact k2 _ (by simp at h; omega)
theorem Gone.more {ns ns' : List Nd} {gs : List Int} {v y : V} {g : Nat} (h : Gone ns gs v y) (hw : Wf ns' g) (hp : ns <+: ns') : Gone ns' gs v y := ⟨h.shape, h.gate, h.caps, fun i hi => (h.came i hi).more hw hp⟩
theorem gones_nil (ns : List Nd) (gs : List Int) : Gones ns gs [] [] := ⟨rfl, rfl, rfl, fun i h => by simp [pres_nil, capsIn] at h⟩
theorem gones_cons {ns : List Nd} {gs : List Int} {v y : V} {l m : List V} (h : Gone ns gs v y) (k : Gones ns gs l m) : Gones ns gs (v :: l) (y :: m) := by
  refine ⟨by rw [shapes_cons, shapes_cons, h.shape, k.shape], ?_, ?_, ?_⟩
  · have h1 := h.gate
    unfold V.gate at h1
    rw [pres_cons, pres_cons, gateIn_append, gateIn_append, h1, k.gate]
  · have h1 := h.caps
    unfold V.caps at h1
    rw [pres_cons, pres_cons, capsIn_append, capsIn_append, List.length_append, List.length_append, h1, k.caps]
  · have e1 : capsIn (pres (v :: l)) = v.caps ++ capsIn (pres l) := by rw [pres_cons, capsIn_append]; rfl
    have e2 : capsIn (pres (y :: m)) = y.caps ++ capsIn (pres m) := by rw [pres_cons, capsIn_append]; rfl
    have key := came_app h.caps.symm k.caps.symm h.came k.came
    simp only [e1, e2]
    exact key
def HandGone (os : List Bool) (gs : List Int) (v : V) : Prop := ∀ (ns ns' : List Nd) (y : V), v.handed os gs ns = (y, 0, ns') → v.fault = 0 → Wf ns os.length → (∀ c ∈ v.caps, thereB ns.length c = true) → Wf ns' os.length ∧ ns <+: ns' ∧ Gone ns' gs v y
theorem handeds_gone {os : List Bool} {gs : List Int} (l : List V) : (∀ x ∈ l, HandGone os gs x) → ∀ (ns ns' : List Nd) (m : List V), handeds os gs l ns = (m, 0, ns') → (∀ x ∈ l, x.fault = 0) → Wf ns os.length → (∀ c ∈ capsIn (pres l), thereB ns.length c = true) → Wf ns' os.length ∧ ns <+: ns' ∧ Gones ns' gs l m := by
  induction l with
  | nil =>
    intro _ ns ns' m h _ hw _
    rw [handeds_nil] at h
    simp only [Prod.mk.injEq, true_and] at h
    obtain ⟨rfl, rfl⟩ := h
    exact ⟨hw, List.prefix_refl _, gones_nil _ _⟩
  | cons x l ih =>
    intro hx ns ns' m h hf hw hc
    rw [pres_cons, capsIn_append] at hc
    rw [handeds_cons] at h
    by_cases h1 : (x.handed os gs ns).2.1 = 0
    · rw [if_pos h1] at h
      by_cases h2 : (handeds os gs l (x.handed os gs ns).2.2).2.1 = 0
      · rw [if_pos h2] at h
        simp only [Prod.mk.injEq, true_and] at h
        obtain ⟨e1, e2⟩ := h
        obtain ⟨w1, p1, g1⟩ := hx x (by simp) ns (x.handed os gs ns).2.2 (x.handed os gs ns).1 (by rw [← h1]) (hf x (by simp)) hw (fun c hc' => hc c (List.mem_append.2 (.inl hc')))
        obtain ⟨w2, p2, g2⟩ := ih (fun y hy => hx y (by simp [hy])) (x.handed os gs ns).2.2 ns' (handeds os gs l (x.handed os gs ns).2.2).1 (by rw [← e2, ← h2]) (fun y hy => hf y (by simp [hy])) w1 (fun c hc' => there_pre p1 (hc c (List.mem_append.2 (.inr hc'))))
        refine ⟨w2, p1.trans p2, ?_⟩
        rw [← e1]
        exact gones_cons (g1.more w2 p2) g2
      · rw [if_neg h2] at h
        simp only [Prod.mk.injEq] at h
        exact absurd h.2.1 h2
    · rw [if_neg h1] at h
      simp only [Prod.mk.injEq] at h
      exact absurd h.2.1 h1
theorem handed_gone {os : List Bool} {gs : List Int} (v : V) : HandGone os gs v := by
  induction v using V.ind' with
  | h v ih =>
    intro ns ns' y h hf hw hc
    by_cases h4 : v.kind = 4
    · have hl := cap_leaf hf h4
      rw [handed_cap os gs ns h4 hl] at h
      have hcv : v.caps = [v.n] := by rw [caps_eq, if_pos h4, hl, pres_nil]; rfl
      by_cases h1 : (through os ns v.n gs).2.1 = 0
      · rw [if_pos h1] at h
        simp only [Prod.mk.injEq, true_and] at h
        obtain ⟨e1, e2⟩ := h
        obtain ⟨w1, p1, c1⟩ := through_came gs (ns := ns) (ns' := ns') (x := v.n) (y := (through os ns v.n gs).1) (by rw [← e2, ← h1]) hw (hc _ (by rw [hcv]; simp))
        have hcy : y.caps = [(through os ns v.n gs).1] := by rw [← e1, caps_eq, if_pos rfl, pres_nil]; rfl
        refine ⟨w1, p1, ?_, ?_, ?_, ?_⟩
        · rw [← e1, shape_eq, shape_eq, h4, hl]; rfl
        · rw [← e1, gate_eq, gate_eq, h4, hl]
        · rw [hcy, hcv]; rfl
        · intro i hi
          rw [hcv] at hi
          obtain rfl : i = 0 := by simp at hi; omega
          simp only [hcv, hcy]
          exact c1
      · rw [if_neg h1] at h
        simp only [Prod.mk.injEq] at h
        exact absurd h.2.1 h1
    · rw [handed_other os gs ns h4] at h
      by_cases h1 : (handeds os gs v.l ns).2.1 = 0
      · rw [if_pos h1] at h
        simp only [Prod.mk.injEq, true_and] at h
        obtain ⟨e1, e2⟩ := h
        have hcv : v.caps = capsIn (pres v.l) := by rw [caps_eq, if_neg h4]; rfl
        have hfl : ∀ x ∈ v.l, x.fault = 0 := fun x hx => by
          obtain ⟨i, hi, rfl⟩ := List.getElem_of_mem hx
          exact fault_get hf i hi
        obtain ⟨w1, p1, g1⟩ := handeds_gone v.l ih ns ns' (handeds os gs v.l ns).1 (by rw [← e2, ← h1]) hfl hw (by rw [← hcv]; exact hc)
        have hcy : y.caps = capsIn (pres (handeds os gs v.l ns).1) := by rw [← e1, caps_eq, if_neg h4]; rfl
        refine ⟨w1, p1, ?_, ?_, ?_, ?_⟩
        · rw [← e1, shape_eq, shape_eq]; simp only; rw [g1.shape]
        · rw [← e1, gate_eq, gate_eq]; simp only; rw [g1.gate]
        · rw [hcy, hcv]; exact g1.caps
        · simp only [hcv, hcy]; exact g1.came
      · rw [if_neg h1] at h
        simp only [Prod.mk.injEq] at h
        exact absurd h.2.1 h1
theorem Came.target {ns : List Nd} {gs : List Int} {x y : Int} {g : Nat} (h : Came ns gs x y) (hw : Wf ns g) : targetOf ns y = targetOf ns x := by
  obtain ⟨ch, e, _, _⟩ := h.way
  obtain ⟨j, rfl, hj⟩ := there_yes h.tx
  unfold targetOf
  rw [e, way_yes hw hj, List.getLastD_eq_getLast?, List.getLastD_eq_getLast?, List.getLast?_append, List.getLast?_cons]
  simp
theorem Came.gates {ns : List Nd} {gs : List Int} {x y : Int} (h : Came ns gs x y) : gatesOf ns y = (gs.reverse.filter fun g => decide (0 ≤ g)) ++ gatesOf ns x := by
  obtain ⟨ch, e, e2, _⟩ := h.way
  unfold gatesOf gatesW
  rw [e, List.map_append, List.filter_append, e2]
  congr 1
  refine List.filter_congr fun a ha => ?_
  rcases h.ok a (List.mem_reverse.1 ha) with rfl | hz
  · rfl
  · have h1 : a ≠ -1 := by omega
    simp [h1, hz]
theorem meet_high (ch : List Nd) (r : Nat) (hr : r ≤ 15) (h : ∀ n ∈ ch, n.rights = 15) : meetW r ch = r := by
  induction ch generalizing r with
  | nil => rfl
  | cons n ch ih =>
    have hn := h n (by simp)
    have e : r &&& n.rights.toNat = r := by
      rw [hn]
      have : ∀ r : Fin 16, r.val &&& (15 : Int).toNat = r.val := by decide
      exact this ⟨r, by omega⟩
    show meetW (r &&& n.rights.toNat) ch = r
    rw [e]
    exact ih r hr fun m hm => h m (by simp [hm])
theorem Came.rights {ns : List Nd} {gs : List Int} {x y : Int} (h : Came ns gs x y) (os : List Bool) : rightsN ns os y = rightsN ns os x ∨ rightsN ns os y = 0 := by
  obtain ⟨ch, e, _, e3⟩ := h.way
  unfold rightsN
  rw [h.tx, h.ty, e, List.all_append]
  by_cases h1 : (wayOf ns x).all (passB os) = true
  · by_cases h2 : ch.all (passB os) = true
    · left
      rw [h1, h2]
      simp only [Bool.and_self, if_true]
      unfold meetW
      rw [List.foldl_append]
      show meetW (meetW 15 ch) (wayOf ns x) = meetW 15 (wayOf ns x)
      rw [meet_high ch 15 (by decide) e3]
    · right; simp [h2]
  · right; simp [h1]
end Go.Proofs.YtkpckmcaeljocaaGreat
