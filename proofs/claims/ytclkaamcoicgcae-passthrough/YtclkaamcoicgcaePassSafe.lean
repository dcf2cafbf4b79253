/- What stays whatever some blocks become; an object beside it. -/
import Derived.Test.YtclkaamcoicgcaePassMath
import Derived.Test.YtclkaamcoicgcaeGMake
import Derived.Test.YtclkaamcoicgcaeJLook
import Derived.Test.YtclkaamcoicgcaeJBase
namespace Go.Proofs.Ytclkaamcoicgcae
open Go.ChangeShapes Go.WideShapes Go.ChangeAt Go.RowKit
open Gr (Nd Res nd0 thereB deriveOf addOf rightsN wayOf gatesOf gatesW targetOf Wf NdOk GS Goes Own StepP IntsAt)
/-- It is so in whatever world has all blocks but those of F as they are here. -/
def SafeF (F : Nat → Prop) (P : World → Prop) (w : World) : Prop := ∀ w', Kp F w w' → P w'
theorem SafeF.now {F : Nat → Prop} {P : World → Prop} {w : World} (h : SafeF F P w) : P w := h w (Kp.refl _ _)
theorem SafeF.step {F F' : Nat → Prop} {P : World → Prop} {w w' : World} (h : SafeF F P w) (k : Kp F w w') (hF : ∀ k, k < w.heap.size → F' k → F k) : SafeF F' P w' := by
  intro w2 k2
  refine h w2 ⟨k2.os.trans k.os, k2.tape.trans k.tape, k2.output.trans k.output, Nat.le_trans k.size k2.size, fun i hi hn => ?_⟩
  exact (k2.block i (Nat.lt_of_lt_of_le hi k.size) fun e => hn (hF i hi e)).trans (k.block i hi hn)
theorem SafeF.mono {F F' : Nat → Prop} {P : World → Prop} {w : World} (h : SafeF F P w) (hF : ∀ k, k < w.heap.size → F' k → F k) : SafeF F' P w := h.step (Kp.refl _ _) hF
theorem SafeF.goes {P : World → Prop} {b : Nat} {vn vo vn' vo' : Value} {w w' : World} (h : SafeF (Own b vn vo) P w) (g : Goes b vn vo w vn' vo' w') : SafeF (Own b vn' vo') P w' :=
  h.step g.kp fun k hk e => by
    rcases g.own k e with e | e
    · exact e
    · omega
/-- A world with nothing in a block. -/
def World.void (w : World) (b : Nat) : World := { w with heap := w.heap.setIfInBounds b (.cells #[] 0 (0, 0)) }
theorem void_kp {F : Nat → Prop} (w : World) (b : Nat) (h : F b) : Kp F w (World.void w b) :=
  ⟨rfl, rfl, rfl, by simp [World.void], fun k _ hk => by
    have : b ≠ k := fun e => hk (e ▸ h)
    simp [World.void, this]⟩
theorem void_cell (w : World) (b o : Nat) (hb : b < w.heap.size) : (World.void w b).cell? ⟨b, o, none⟩ = none := by
  simp [World.void, World.cell?, hb]
/-- A part of what stays stays. -/
theorem SafeF.kid {F : Nat → Prop} {w : World} {v : V} {ao : Option Addr} (h : SafeF F (fun w => Is w v ao) w) (j : Nat) (hj : j < v.l.length) :
    ∃ bb oo ca cc, ao = some ⟨bb, oo, none⟩ ∧ ¬ F bb ∧ (v.l[j].head w bb (oo + j * 3) ∧ w.cell? ⟨bb, oo + j * 3 + 2, none⟩ = some (.slice ca v.l[j].l.length cc)) ∧ SafeF F (fun w => Is w v.l[j] ca) w := by
  obtain ⟨bb, oo, rfl, dh, ca, cc, ds, _⟩ := h.now.get j hj
  have hn : ¬ F bb := fun hF => by
    obtain ⟨b2, o2, e2, dh2, _⟩ := (h _ (void_kp w bb hF)).get j hj
    cases e2
    have h1 := dh2.1
    rw [void_cell w bb _ (World.block_lt_of_cell? w _ ds)] at h1
    cases h1
  refine ⟨bb, oo, ca, cc, rfl, hn, ⟨dh, ds⟩, fun w2 k2 => ?_⟩
  obtain ⟨b2, o2, e2, _, ca2, cc2, ds2, i2⟩ := (h w2 k2).get j hj
  cases e2
  have := k2.cell ds hn
  rw [this] at ds2
  simp at ds2
  rw [ds2.1]; exact i2
theorem Gr.Goes.fresh {b : Nat} {vn vo vn' vo' : Value} {w w1 w2 : World} (h : Goes b vn vo w vn' vo' w1) (k : Kp (fun i => w.heap.size ≤ i) w1 w2) : Goes b vn vo w vn' vo' w2 := ⟨h.kp.fresh k, h.own⟩
theorem Gr.Goes.after {b : Nat} {vn vo vn' vo' : Value} {w w0 w1 : World} (q : Quiet w w0) (h : Goes b vn vo w0 vn' vo' w1) : Goes b vn vo w vn' vo' w1 :=
  ⟨(q.mono fun _ _ e => e.elim).trans h.kp, fun k e => by rcases h.own k e with e | e; exact .inl e; exact .inr (Nat.le_trans q.size e)⟩
/-- What is new is not the object's. -/
theorem Gr.GS.free_new {t : TypeId} {B : Nat} {w : World} {b : Nat} {vn vo : Value} {ns : List Nd} {os : List Bool} (h : GS t B w b vn vo ns os) (k : Nat) (hk : w.heap.size ≤ k) : ¬ Own b vn vo k := fun e => by have := (h.own k e).2; omega
/-- A block of another type is not the object's. -/
theorem Gr.GS.free_type {t : TypeId} {B : Nat} {w : World} {b : Nat} {vn vo : Value} {ns : List Nd} {os : List Bool} (h : GS t B w b vn vo ns os) {k : Nat} {c : Array Value} {t' : TypeId} (hk : w.heap[k]? = some (.cells c t' (0, 0))) (h1 : t' ≠ t) (h2 : t' ≠ 49) (h3 : t' ≠ 4) : ¬ Own b vn vo k := by
  have key : ∀ {e : TypeId} {s n : Nat} {v : Value} {xs : List Value}, w.ownsRow B e s v n xs → t' ≠ e → v.ownBlock ≠ some k := by
    intro e s n v xs hr he hv
    rcases hr.2 with ⟨rfl, _⟩ | ⟨g, cap, cur, rfl, _, hg, _⟩
    · simp [Value.ownBlock] at hv
    · simp [Value.ownBlock] at hv
      subst hv
      rw [hk] at hg
      simp at hg
      exact he hg.2
  rintro (rfl | e | e)
  · rw [h.obj] at hk; simp at hk; exact h1 hk.2.symm
  · exact key h.rn h2 e
  · exact key h.ro h3 e
theorem derive_os (ns : List Nd) (os : List Bool) (p r g : Int) : (deriveOf ns os p r g).os = os := by
  unfold deriveOf addOf
  repeat' split
  all_goals rfl
theorem derive_len {ns : List Nd} {os os' : List Bool} (h : os.length = os'.length) (p r g : Int) : (deriveOf ns os p r g).num = (deriveOf ns os' p r g).num ∧ (deriveOf ns os p r g).code = (deriveOf ns os' p r g).code ∧ (deriveOf ns os p r g).ns = (deriveOf ns os' p r g).ns := by
  unfold deriveOf addOf
  rw [h]
  repeat' split
  all_goals exact ⟨rfl, rfl, rfl⟩
theorem through_len {os os' : List Bool} (h : os.length = os'.length) (gs : List Int) : ∀ ns x, through os ns x gs = through os' ns x gs := by
  induction gs with
  | nil => intro ns x; rfl
  | cons g gs ih =>
    intro ns x
    obtain ⟨h1, h2, h3⟩ := derive_len (ns := ns) h x 15 g
    rw [through, through, h1, h2, h3, ih]
theorem handed_len {os os' : List Bool} (h : os.length = os'.length) (gs : List Int) (v : V) : ∀ ns, v.handed os gs ns = v.handed os' gs ns := by
  induction v using V.ind' with
  | h v ih =>
    have key : ∀ l : List V, (∀ x ∈ l, ∀ ns, x.handed os gs ns = x.handed os' gs ns) → ∀ ns, handeds os gs l ns = handeds os' gs l ns := by
      intro l
      induction l with
      | nil => intro _ ns; rw [handeds_nil, handeds_nil]
      | cons x l ihl => intro hx ns; rw [handeds_cons, handeds_cons, hx x (by simp), ihl fun y hy => hx y (by simp [hy])]
    intro ns
    have hn : numOf os gs v ns = numOf os' gs v ns := by unfold numOf; rw [through_len h]
    rw [handed_eq, handed_eq, hn, key v.l ih]
/-- A capability has nothing in it; the others keep their numbers. -/
theorem cap_leaf {v : V} (h : v.fault = 0) (hk : v.kind = 4) : v.l = [] := by
  have h1 := fault_one h
  unfold V.fault1 at h1
  rw [hk, show partsB 4 = some 0 by decide] at h1
  simp only at h1
  by_cases e : v.l.length = 0
  · exact List.length_eq_zero_iff.1 e
  · rw [if_pos e] at h1; cases h1
theorem handed_cap (os : List Bool) (gs : List Int) {v : V} (ns : List Nd) (hk : v.kind = 4) (hl : v.l = []) : v.handed os gs ns = if (through os ns v.n gs).2.1 = 0 then (⟨4, (through os ns v.n gs).1, []⟩, 0, (through os ns v.n gs).2.2) else (v0, (through os ns v.n gs).2.1, (through os ns v.n gs).2.2) := by
  have hn : numOf os gs v ns = through os ns v.n gs := by unfold numOf; rw [if_pos hk]
  rw [handed_eq, hn, hl, hk]
  simp only [handeds_nil, if_true]
theorem handed_other (os : List Bool) (gs : List Int) {v : V} (ns : List Nd) (hk : v.kind ≠ 4) : v.handed os gs ns = if (handeds os gs v.l ns).2.1 = 0 then (⟨v.kind, v.n, (handeds os gs v.l ns).1⟩, 0, (handeds os gs v.l ns).2.2) else (v0, (handeds os gs v.l ns).2.1, (handeds os gs v.l ns).2.2) := by
  have hn : numOf os gs v ns = (v.n, 0, ns) := by unfold numOf; rw [if_neg hk]
  rw [handed_eq, hn]
  simp only [if_true]
theorem through_step (os : List Bool) (ns : List Nd) (x : Int) (gs : List Int) (k : Nat) (hk : k < gs.length) : through os ns x (gs.drop k) = if (deriveOf ns os x 15 gs[k]).code = 0 then through os (deriveOf ns os x 15 gs[k]).ns (deriveOf ns os x 15 gs[k]).num (gs.drop (k + 1)) else (0, (deriveOf ns os x 15 gs[k]).code, (deriveOf ns os x 15 gs[k]).ns) := by
  rw [List.drop_eq_getElem_cons hk, through]
theorem derive_num (ns : List Nd) (os : List Bool) (p r g : Int) (hl : ns.length ≤ 80) : In64 (deriveOf ns os p r g).num := by
  unfold deriveOf addOf In64
  repeat' split
  all_goals (simp only; omega)
end Go.Proofs.Ytclkaamcoicgcae
