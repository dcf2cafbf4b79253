/- What came across, in plain mathematics: each capability through all gates, of the same thing, with no more rights. -/
import Derived.Test.YtclkaamcoicgcaePassSafe
namespace Go.Proofs.Ytclkaamcoicgcae
open Gr (Nd Res nd0 thereB deriveOf addOf rightsN wayOf gatesOf gatesW targetOf Wf NdOk passB meetW way_yes way_no there_yes there_nat)
theorem wf_pre {ns ns' : List Nd} {g : Nat} (hw : Wf ns' g) (hp : ns <+: ns') : Wf ns g := by
  intro k hk
  obtain ⟨t, rfl⟩ := hp
  have := hw k (by simp; omega)
  rwa [List.getElem_append_left hk] at this
/-- Ways stay while capabilities are added. -/
theorem way_pre {ns ns' : List Nd} {g : Nat} (hw : Wf ns' g) (hp : ns <+: ns') : ∀ m j, j < m → j < ns.length → wayOf ns' (j : Int) = wayOf ns (j : Int) := by
  intro m
  induction m with
  | zero => intro j h _; omega
  | succ m ih =>
    intro j hm hj
    have hw0 := wf_pre hw hp
    obtain ⟨t, rfl⟩ := hp
    have hj2 : j < (ns ++ t).length := by simp; omega
    rw [way_yes hw hj2, way_yes hw0 hj, List.getElem_append_left hj]
    congr 1
    have hk := hw0 j hj
    have p0 := hk.p0
    have p1 := hk.p1
    by_cases hq : ns[j].parent < 0
    · have e : thereB ns.length ns[j].parent = false := by simp [thereB]; omega
      have e2 : thereB (ns ++ t).length ns[j].parent = false := by simp [thereB]; omega
      rw [way_no e, way_no e2]
    · obtain ⟨q, hq⟩ : ∃ q : Nat, ns[j].parent = q := ⟨ns[j].parent.toNat, by omega⟩
      rw [hq] at p1 ⊢
      exact ih q (by omega) (by omega)
theorem way_stays {ns ns' : List Nd} {g : Nat} (hw : Wf ns' g) (hp : ns <+: ns') {x : Int} (hx : thereB ns.length x = true) : wayOf ns' x = wayOf ns x := by
  obtain ⟨j, rfl, hj⟩ := there_yes hx
  exact way_pre hw hp (j + 1) j (by omega) hj
theorem there_pre {ns ns' : List Nd} (hp : ns <+: ns') {x : Int} (hx : thereB ns.length x = true) : thereB ns'.length x = true := by
  have := hp.length_le
  simp [thereB] at hx ⊢; omega
/-- It comes from that one through all these gates, one behind the other, the last one nearest. -/
structure Came (ns : List Nd) (gs : List Int) (x y : Int) : Prop where
  tx : thereB ns.length x = true
  ty : thereB ns.length y = true
  way : ∃ ch : List Nd, wayOf ns y = ch ++ wayOf ns x ∧ ch.map Nd.gate = gs.reverse ∧ ∀ n ∈ ch, n.rights = 15
  ok : ∀ g ∈ gs, g = -1 ∨ 0 ≤ g
theorem Came.more {ns ns' : List Nd} {gs : List Int} {x y : Int} {g : Nat} (h : Came ns gs x y) (hw : Wf ns' g) (hp : ns <+: ns') : Came ns' gs x y := by
  refine ⟨there_pre hp h.tx, there_pre hp h.ty, ?_, h.ok⟩
  rw [way_stays hw hp h.tx, way_stays hw hp h.ty]; exact h.way
/-- A new capability that comes from another one. -/
theorem derive_new {ns : List Nd} {os : List Bool} {x g : Int} (h : (deriveOf ns os x 15 g).code = 0) : thereB ns.length x = true ∧ (g = -1 ∨ 0 ≤ g) ∧ (deriveOf ns os x 15 g).num = (ns.length : Int) ∧ (deriveOf ns os x 15 g).ns = ns ++ [⟨x, g, 15, 0, -1, 0⟩] ∧ (Wf ns os.length → Wf (ns ++ [⟨x, g, 15, 0, -1, 0⟩]) os.length) := by
  unfold deriveOf at h ⊢
  by_cases hx : thereB ns.length x = true
  · rw [if_pos hx] at h ⊢
    unfold addOf at h ⊢
    simp only at h ⊢
    rw [if_neg (by decide)] at h ⊢
    by_cases h2 : g ≠ -1 ∧ thereB os.length g = false
    · rw [if_pos h2] at h; cases h
    rw [if_neg h2] at h ⊢
    by_cases h3 : ns.length = 80
    · rw [if_pos h3] at h; cases h
    rw [if_neg h3]
    have hg : g = -1 ∨ thereB os.length g = true := by
      by_cases e : g = -1
      · exact .inl e
      · right
        cases ht : thereB os.length g
        · exact absurd ⟨e, ht⟩ h2
        · rfl
    refine ⟨hx, ?_, rfl, rfl, fun hw => hw.snoc ?_⟩
    · rcases hg with e | e
      · exact .inl e
      · simp [thereB] at e; right; omega
    · simp [thereB] at hx
      exact ⟨by simp only; omega, by simp only; omega, hg, by simp, by simp, by simp, by simp, by simp, by simp, by simp, by simp⟩
  · rw [if_neg hx] at h; cases h
theorem through_came {os : List Bool} (gs : List Int) : ∀ {ns ns' : List Nd} {x y : Int}, through os ns x gs = (y, 0, ns') → Wf ns os.length → thereB ns.length x = true → Wf ns' os.length ∧ ns <+: ns' ∧ Came ns' gs x y := by
  induction gs with
  | nil =>
    intro ns ns' x y h hw hx
    rw [through] at h
    simp only [Prod.mk.injEq, true_and] at h
    obtain ⟨rfl, rfl⟩ := h
    exact ⟨hw, List.prefix_refl _, hx, hx, ⟨[], rfl, rfl, by simp⟩, by simp⟩
  | cons g gs ih =>
    intro ns ns' x y h hw hx
    rw [through] at h
    by_cases hc : (deriveOf ns os x 15 g).code = 0
    · rw [if_pos hc] at h
      obtain ⟨_, hg, hn, hns, hwf⟩ := derive_new hc
      rw [hn, hns] at h
      have hw1 := hwf hw
      have hl : ns.length < (ns ++ [(⟨x, g, 15, 0, -1, 0⟩ : Nd)]).length := by simp
      obtain ⟨w2, p2, c2⟩ := ih h hw1 (there_nat hl)
      have p1 : ns <+: ns' := (List.prefix_append ns _).trans p2
      refine ⟨w2, p1, there_pre p1 hx, c2.ty, ?_, ?_⟩
      · obtain ⟨ch, e1, e2, e3⟩ := c2.way
        have ew : wayOf ns' (ns.length : Int) = ⟨x, g, 15, 0, -1, 0⟩ :: wayOf ns' x := by
          have h1 := way_stays w2 p2 (there_nat hl)
          rw [h1, way_yes hw1 hl]
          simp only [List.getElem_append_right (Nat.le_refl _), Nat.sub_self, List.getElem_singleton]
          rw [← way_stays w2 p2 (there_pre (List.prefix_append ns _) hx)]
        refine ⟨ch ++ [⟨x, g, 15, 0, -1, 0⟩], ?_, ?_, ?_⟩
        · rw [e1, ew]; simp
        · rw [List.map_append, e2]; simp
        · intro n hn
          rcases List.mem_append.1 hn with hn | hn
          · exact e3 n hn
          · simp at hn; rw [hn]
      · intro a ha
        rcases List.mem_cons.1 ha with rfl | ha
        · exact hg
        · exact c2.ok a ha
    · rw [if_neg hc] at h
      simp only [Prod.mk.injEq] at h
      exact absurd h.2.1 hc
/-- The same but for the numbers of capabilities. -/
def V.shape : V → V
  | ⟨k, n, l⟩ => ⟨k, if k = 4 then 0 else n, shapes l⟩
  where shapes : List V → List V
    | [] => []
    | v :: l => V.shape v :: shapes l
abbrev shapes (l : List V) : List V := V.shape.shapes l
theorem shape_eq (v : V) : v.shape = ⟨v.kind, if v.kind = 4 then 0 else v.n, shapes v.l⟩ := by cases v; rw [V.shape]
theorem shapes_nil : shapes [] = [] := by simp only [shapes, V.shape.shapes]
theorem shapes_cons (v : V) (l : List V) : shapes (v :: l) = v.shape :: shapes l := by simp only [shapes, V.shape.shapes]
theorem shapes_map (l : List V) : shapes l = l.map V.shape := by
  induction l with
  | nil => rw [shapes_nil]; rfl
  | cons x l ih => rw [shapes_cons, ih]; rfl
/-- What holds of one that came across. -/
structure Gone (ns' : List Nd) (gs : List Int) (v y : V) : Prop where
  shape : y.shape = v.shape
  gate : y.gate = v.gate
  caps : y.caps.length = v.caps.length
  came : ∀ i (h : i < v.caps.length), Came ns' gs v.caps[i] (y.caps[i]'(by omega))
/-- The same of several. -/
structure Gones (ns' : List Nd) (gs : List Int) (l m : List V) : Prop where
  shape : shapes m = shapes l
  gate : gateIn (pres m) = gateIn (pres l)
  caps : (capsIn (pres m)).length = (capsIn (pres l)).length
  came : ∀ i (h : i < (capsIn (pres l)).length), Came ns' gs (capsIn (pres l))[i] ((capsIn (pres m))[i]'(by omega))
theorem came_app {ns' : List Nd} {gs : List Int} {a b c d : List Int} (h1 : a.length = c.length) (h2 : b.length = d.length) (k1 : ∀ i (h : i < a.length), Came ns' gs a[i] (c[i]'(by omega))) (k2 : ∀ i (h : i < b.length), Came ns' gs b[i] (d[i]'(by omega))) :
    ∀ i (h : i < (a ++ b).length), Came ns' gs (a ++ b)[i] ((c ++ d)[i]'(by simp at h ⊢; omega)) := by
  intro i h
  by_cases hi : i < a.length
  · rw [List.getElem_append_left hi, List.getElem_append_left (by omega)]; exact k1 i hi
  · have e : (c ++ d)[i]'(by simp at h ⊢; omega) = d[i - a.length]'(by simp at h; omega) := by
      rw [List.getElem_append_right (by omega)]; simp only [h1]
    rw [e, List.getElem_append_right (by omega)]
    exact k2 _ (by simp at h; omega)
theorem Gone.more {ns ns' : List Nd} {gs : List Int} {v y : V} {g : Nat} (h : Gone ns gs v y) (hw : Wf ns' g) (hp : ns <+: ns') : Gone ns' gs v y := ⟨h.shape, h.gate, h.caps, fun i hi => (h.came i hi).more hw hp⟩
theorem gones_nil (ns : List Nd) (gs : List Int) : Gones ns gs [] [] := ⟨rfl, rfl, rfl, fun i h => by simp [pres_nil, capsIn] at h⟩
theorem gones_cons {ns : List Nd} {gs : List Int} {v y : V} {l m : List V} (h : Gone ns gs v y) (k : Gones ns gs l m) : Gones ns gs (v :: l) (y :: m) := by
  refine ⟨by rw [shapes_cons, shapes_cons, h.shape, k.shape], ?_, ?_, ?_⟩
  · have h1 := h.gate
    unfold V.gate at h1
    rw [pres_cons, pres_cons, gateIn_append, gateIn_append, h1, k.gate]
  · have h1 := h.caps
    unfold V.caps at h1
    rw [pres_cons, pres_cons, capsIn_append, capsIn_append, List.length_append, List.length_append, h1, k.caps]
  · have e1 : capsIn (pres (v :: l)) = v.caps ++ capsIn (pres l) := by rw [pres_cons, capsIn_append]; rfl
    have e2 : capsIn (pres (y :: m)) = y.caps ++ capsIn (pres m) := by rw [pres_cons, capsIn_append]; rfl
    have key := came_app h.caps.symm k.caps.symm h.came k.came
    simp only [e1, e2]
    exact key
/-- All that came across did so. -/
def HandGone (os : List Bool) (gs : List Int) (v : V) : Prop := ∀ (ns ns' : List Nd) (y : V), v.handed os gs ns = (y, 0, ns') → v.fault = 0 → Wf ns os.length → (∀ c ∈ v.caps, thereB ns.length c = true) → Wf ns' os.length ∧ ns <+: ns' ∧ Gone ns' gs v y
theorem handeds_gone {os : List Bool} {gs : List Int} (l : List V) : (∀ x ∈ l, HandGone os gs x) → ∀ (ns ns' : List Nd) (m : List V), handeds os gs l ns = (m, 0, ns') → (∀ x ∈ l, x.fault = 0) → Wf ns os.length → (∀ c ∈ capsIn (pres l), thereB ns.length c = true) → Wf ns' os.length ∧ ns <+: ns' ∧ Gones ns' gs l m := by
  induction l with
  | nil =>
    intro _ ns ns' m h _ hw _
    rw [handeds_nil] at h
    simp only [Prod.mk.injEq, true_and] at h
    obtain ⟨rfl, rfl⟩ := h
    exact ⟨hw, List.prefix_refl _, gones_nil _ _⟩
  | cons x l ih =>
    intro hx ns ns' m h hf hw hc
    rw [pres_cons, capsIn_append] at hc
    rw [handeds_cons] at h
    by_cases h1 : (x.handed os gs ns).2.1 = 0
    · rw [if_pos h1] at h
      by_cases h2 : (handeds os gs l (x.handed os gs ns).2.2).2.1 = 0
      · rw [if_pos h2] at h
        simp only [Prod.mk.injEq, true_and] at h
        obtain ⟨e1, e2⟩ := h
        obtain ⟨w1, p1, g1⟩ := hx x (by simp) ns (x.handed os gs ns).2.2 (x.handed os gs ns).1 (by rw [← h1]) (hf x (by simp)) hw (fun c hc' => hc c (List.mem_append.2 (.inl hc')))
        obtain ⟨w2, p2, g2⟩ := ih (fun y hy => hx y (by simp [hy])) (x.handed os gs ns).2.2 ns' (handeds os gs l (x.handed os gs ns).2.2).1 (by rw [← e2, ← h2]) (fun y hy => hf y (by simp [hy])) w1 (fun c hc' => there_pre p1 (hc c (List.mem_append.2 (.inr hc'))))
        refine ⟨w2, p1.trans p2, ?_⟩
        rw [← e1]
        exact gones_cons (g1.more w2 p2) g2
      · rw [if_neg h2] at h
        simp only [Prod.mk.injEq] at h
        exact absurd h.2.1 h2
    · rw [if_neg h1] at h
      simp only [Prod.mk.injEq] at h
      exact absurd h.2.1 h1
theorem handed_gone {os : List Bool} {gs : List Int} (v : V) : HandGone os gs v := by
  induction v using V.ind' with
  | h v ih =>
    intro ns ns' y h hf hw hc
    by_cases h4 : v.kind = 4
    · have hl := cap_leaf hf h4
      rw [handed_cap os gs ns h4 hl] at h
      have hcv : v.caps = [v.n] := by rw [caps_eq, if_pos h4, hl, pres_nil]; rfl
      by_cases h1 : (through os ns v.n gs).2.1 = 0
      · rw [if_pos h1] at h
        simp only [Prod.mk.injEq, true_and] at h
        obtain ⟨e1, e2⟩ := h
        obtain ⟨w1, p1, c1⟩ := through_came gs (ns := ns) (ns' := ns') (x := v.n) (y := (through os ns v.n gs).1) (by rw [← e2, ← h1]) hw (hc _ (by rw [hcv]; simp))
        have hcy : y.caps = [(through os ns v.n gs).1] := by rw [← e1, caps_eq, if_pos rfl, pres_nil]; rfl
        refine ⟨w1, p1, ?_, ?_, ?_, ?_⟩
        · rw [← e1, shape_eq, shape_eq, h4, hl]; rfl
        · rw [← e1, gate_eq, gate_eq, h4, hl]
        · rw [hcy, hcv]; rfl
        · intro i hi
          rw [hcv] at hi
          obtain rfl : i = 0 := by simp at hi; omega
          simp only [hcv, hcy]
          exact c1
      · rw [if_neg h1] at h
        simp only [Prod.mk.injEq] at h
        exact absurd h.2.1 h1
    · rw [handed_other os gs ns h4] at h
      by_cases h1 : (handeds os gs v.l ns).2.1 = 0
      · rw [if_pos h1] at h
        simp only [Prod.mk.injEq, true_and] at h
        obtain ⟨e1, e2⟩ := h
        have hcv : v.caps = capsIn (pres v.l) := by rw [caps_eq, if_neg h4]; rfl
        have hfl : ∀ x ∈ v.l, x.fault = 0 := fun x hx => by
          obtain ⟨i, hi, rfl⟩ := List.getElem_of_mem hx
          exact fault_get hf i hi
        obtain ⟨w1, p1, g1⟩ := handeds_gone v.l ih ns ns' (handeds os gs v.l ns).1 (by rw [← e2, ← h1]) hfl hw (by rw [← hcv]; exact hc)
        have hcy : y.caps = capsIn (pres (handeds os gs v.l ns).1) := by rw [← e1, caps_eq, if_neg h4]; rfl
        refine ⟨w1, p1, ?_, ?_, ?_, ?_⟩
        · rw [← e1, shape_eq, shape_eq]; simp only; rw [g1.shape]
        · rw [← e1, gate_eq, gate_eq]; simp only; rw [g1.gate]
        · rw [hcy, hcv]; exact g1.caps
        · simp only [hcv, hcy]; exact g1.came
      · rw [if_neg h1] at h
        simp only [Prod.mk.injEq] at h
        exact absurd h.2.1 h1
/-- What follows: the same thing, its gates behind these, no right more. -/
theorem Came.target {ns : List Nd} {gs : List Int} {x y : Int} {g : Nat} (h : Came ns gs x y) (hw : Wf ns g) : targetOf ns y = targetOf ns x := by
  obtain ⟨ch, e, _, _⟩ := h.way
  obtain ⟨j, rfl, hj⟩ := there_yes h.tx
  unfold targetOf
  rw [e, way_yes hw hj, List.getLastD_eq_getLast?, List.getLastD_eq_getLast?, List.getLast?_append, List.getLast?_cons]
  simp
theorem Came.gates {ns : List Nd} {gs : List Int} {x y : Int} (h : Came ns gs x y) : gatesOf ns y = (gs.reverse.filter fun g => decide (0 ≤ g)) ++ gatesOf ns x := by
  obtain ⟨ch, e, e2, _⟩ := h.way
  unfold gatesOf gatesW
  rw [e, List.map_append, List.filter_append, e2]
  congr 1
  refine List.filter_congr fun a ha => ?_
  rcases h.ok a (List.mem_reverse.1 ha) with rfl | hz
  · rfl
  · have h1 : a ≠ -1 := by omega
    simp [h1, hz]
theorem meet_high (ch : List Nd) (r : Nat) (hr : r ≤ 15) (h : ∀ n ∈ ch, n.rights = 15) : meetW r ch = r := by
  induction ch generalizing r with
  | nil => rfl
  | cons n ch ih =>
    have hn := h n (by simp)
    have e : r &&& n.rights.toNat = r := by
      rw [hn]
      have : ∀ r : Fin 16, r.val &&& (15 : Int).toNat = r.val := by decide
      exact this ⟨r, by omega⟩
    show meetW (r &&& n.rights.toNat) ch = r
    rw [e]
    exact ih r hr fun m hm => h m (by simp [hm])
theorem Came.rights {ns : List Nd} {gs : List Int} {x y : Int} (h : Came ns gs x y) (os : List Bool) : rightsN ns os y = rightsN ns os x ∨ rightsN ns os y = 0 := by
  obtain ⟨ch, e, _, e3⟩ := h.way
  unfold rightsN
  rw [h.tx, h.ty, e, List.all_append]
  by_cases h1 : (wayOf ns x).all (passB os) = true
  · by_cases h2 : ch.all (passB os) = true
    · left
      rw [h1, h2]
      simp only [Bool.and_self, if_true]
      unfold meetW
      rw [List.foldl_append]
      show meetW (meetW 15 ch) (wayOf ns x) = meetW 15 (wayOf ns x)
      rw [meet_high ch 15 (by decide) e3]
    · right; simp [h2]
  · right; simp [h1]
end Go.Proofs.Ytclkaamcoicgcae
