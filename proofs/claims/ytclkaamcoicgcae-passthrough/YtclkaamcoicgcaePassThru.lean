/- What PassThrough asks, in plain mathematics. -/
import Derived.Test.YtclkaamcoicgcaePassGone
import Derived.Test.YtclkaamcoicgcaePassPast
import Derived.Test.YtclkaamcoicgcaePassShape
import Derived.Test.YtclkaamcoicgcaeJLook
namespace Go.Proofs.Ytclkaamcoicgcae
open Gr (Nd Res nd0 thereB deriveOf addOf rightsN wayOf gatesOf gatesW targetOf Wf NdOk)
theorem handed_code (os : List Bool) (gs : List Int) (v : V) (ns : List Nd) (h : (v.handed os gs ns).2.1 ≠ 0) : (v.handed os gs ns).1 = v0 := by
  rw [handed_eq] at h ⊢
  split at h
  · rename_i h1
    rw [if_pos h1]
    split at h
    · exact absurd rfl h
    · rename_i h2
      rw [if_neg h2]
  · rename_i h1
    rw [if_neg h1]
theorem passed_code {ns nsr : List Nd} {os : List Bool} {gs : List Int} {v y : V} {cd : Int} (h : passedOf ns os gs v = (y, cd, nsr)) (hc : cd ≠ 0) : y = v0 := by
  unfold passedOf at h
  split at h
  · have h1 := handed_code os gs v ns (by rw [h]; exact hc)
    rw [h] at h1; exact h1
  · simp only [Prod.mk.injEq] at h; exact h.1.symm
theorem passed_gone {ns nsr : List Nd} {os : List Bool} {gs : List Int} {v y : V} (h : passedOf ns os gs v = (y, 0, nsr)) (hw : Wf ns os.length) : Wf nsr os.length ∧ Gone nsr gs v y ∧ v.gate = false ∧ v.check = 0 := by
  unfold passedOf at h
  by_cases hm : mayOf ns os v = 0
  · rw [if_pos hm] at h
    have hck := may_fault hm
    unfold mayOf at hm
    rw [if_pos hck] at hm
    have hg : v.gate = false := by
      cases e : v.gate with
      | false => rfl
      | true => rw [e] at hm; simp at hm
    rw [hg] at hm
    have hall : (v.caps.all fun c => (rightsN ns os c).testBit 2) = true := by
      cases e : (v.caps.all fun c => (rightsN ns os c).testBit 2) with
      | true => rfl
      | false => rw [e] at hm; simp at hm
    have hex : ∀ c ∈ v.caps, thereB ns.length c = true := by
      intro c hc
      have h1 := List.all_eq_true.1 hall c hc
      cases e : thereB ns.length c with
      | true => rfl
      | false => rw [Gr.rights_no e] at h1; simp at h1
    obtain ⟨h1, _, h3⟩ := handed_gone v ns nsr y h (check_fault hck) hw hex
    exact ⟨h1, h3, hg, hck⟩
  · rw [if_neg hm] at h
    simp only [Prod.mk.injEq] at h
    exact absurd h.2.1 hm
theorem shape_size (v : V) : v.shape.size = v.size := by
  induction v using V.ind' with
  | h v ih =>
    have key : ∀ l : List V, (∀ x ∈ l, x.shape.size = x.size) → sizes (shapes l) = sizes l := by
      intro l
      induction l with
      | nil => intro _; rw [shapes_nil]
      | cons x l ihl => intro hx; rw [shapes_cons, sizes_cons, sizes_cons, hx x (by simp), ihl fun y hy => hx y (by simp [hy])]
    rw [shape_eq, size_mk, key v.l ih, size_eq v]
/-- The gates that are wanted, from a place on. -/
def wantOf (gs : List Int) (m : Nat) : List Int := (gs.drop m).reverse.filter fun g => decide (0 ≤ g)
theorem want_end (gs : List Int) : wantOf gs gs.length = [] := by unfold wantOf; simp
theorem want_all (gs : List Int) : wantOf gs 0 = gs.reverse.filter fun g => decide (0 ≤ g) := rfl
theorem want_yes (gs : List Int) (m : Nat) (h : m < gs.length) (hg : 0 ≤ gs[m]) : wantOf gs m = wantOf gs (m + 1) ++ [gs[m]] := by
  unfold wantOf
  rw [List.drop_eq_getElem_cons h, List.reverse_cons, List.filter_append]
  simp [hg]
theorem want_no (gs : List Int) (m : Nat) (h : m < gs.length) (hg : ¬ 0 ≤ gs[m]) : wantOf gs m = wantOf gs (m + 1) := by
  unfold wantOf
  rw [List.drop_eq_getElem_cons h, List.reverse_cons, List.filter_append]
  simp [hg]
theorem want_len (gs : List Int) (m : Nat) : (wantOf gs m).length ≤ gs.length := by
  unfold wantOf
  have h1 := List.length_filter_le (fun g => decide (0 ≤ g)) (gs.drop m).reverse
  rw [List.length_reverse, List.length_drop] at h1
  omega
theorem came_bits {ns : List Nd} {gs : List Int} {x y : Int} (h : Came ns gs x y) (os : List Bool) : bits .andNot .i64 ((rightsN ns os y : Nat) : Int) ((rightsN ns os x : Nat) : Int) = 0 := by
  have H : ∀ r : Fin 16, ∀ m : Fin 16, (r = m ∨ r.val = 0) → bits .andNot .i64 (r.val : Int) (m.val : Int) = 0 := by decide +kernel
  have h1 := Gr.rights_le ns os y
  have h2 := Gr.rights_le ns os x
  refine H ⟨rightsN ns os y, by omega⟩ ⟨rightsN ns os x, by omega⟩ ?_
  rcases h.rights os with e | e
  · left; exact Fin.ext e
  · right; exact e
end Go.Proofs.Ytclkaamcoicgcae
