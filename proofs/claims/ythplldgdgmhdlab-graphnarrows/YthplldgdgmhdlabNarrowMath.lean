/- Plain mathematics of rights that never grow. -/
import Derived.Test.YthplldgdgmhdlabWas
namespace Go.Proofs.Ythplldgdgmhdlab
open Go.ChangeShapes Go.WideShapes Go.ChangeAt Go.RowKit
theorem andNot_small (a b : Nat) (ha : a ≤ 15) (hb : b ≤ 15) (h : a &&& b = a) : bits .andNot .i64 (a : Int) (b : Int) = 0 := by
  have H : ∀ r : Fin 16, ∀ m : Fin 16, r.val &&& m.val = r.val → bits .andNot .i64 (r.val : Int) (m.val : Int) = 0 := by decide +kernel
  exact H ⟨a, by omega⟩ ⟨b, by omega⟩ h
theorem sub_left (a b : Nat) : (a &&& b) &&& a = a &&& b := by rw [Nat.and_comm a b, Nat.and_assoc, Nat.and_self]
theorem sub_right (a b : Nat) : (a &&& b) &&& b = a &&& b := by rw [Nat.and_assoc, Nat.and_self]
theorem meet_start (a : Nat) : ∀ (ws : List Nd) (b : Nat), meetW (a &&& b) ws = a &&& meetW b ws
  | [], _ => rfl
  | x :: ws, b => by
    show meetW ((a &&& b) &&& x.rights.toNat) ws = a &&& meetW (b &&& x.rights.toNat) ws
    rw [Nat.and_assoc, meet_start a ws]
theorem meet_cons (x : Nd) (ws : List Nd) : meetW 15 (x :: ws) = x.rights.toNat &&& meetW 15 ws := by
  show meetW (15 &&& x.rights.toNat) ws = _
  rw [Nat.and_comm, meet_start]
theorem rights_yes {ns : List Nd} {os : List Bool} {j : Nat} (hj : j < ns.length) : rightsN ns os j = if (wayOf ns j).all (passB os) then meetW 15 (wayOf ns j) else 0 := by
  simp [rightsN, there_nat hj]
/-- The rights are among the capability's own. -/
theorem rights_own {ns : List Nd} {os : List Bool} {g j q : Nat} (hw : Wf ns g) (hj : j < ns.length) (hq : ns[j].rights = q) : rightsN ns os j &&& q = rightsN ns os j := by
  rw [rights_yes hj]
  split
  · rw [way_yes hw hj, meet_cons, hq]; exact sub_left _ _
  · simp
/-- The rights are among those of that from which it comes. -/
theorem rights_parent {ns : List Nd} {os : List Bool} {g j p : Nat} (hw : Wf ns g) (hj : j < ns.length) (hp : ns[j].parent = p) : rightsN ns os j &&& rightsN ns os p = rightsN ns os j := by
  have hpj : p < ns.length := by have := (hw j hj).p1; omega
  rw [rights_yes hj, rights_yes hpj, way_yes hw hj, hp, List.all_cons]
  cases hall : (wayOf ns p).all (passB os) with
  | false => simp
  | true =>
    rw [Bool.and_true, if_pos rfl]
    split
    · rw [meet_cons]; exact sub_right _ _
    · simp
theorem target_parent {ns : List Nd} {g j p : Nat} (hw : Wf ns g) (hj : j < ns.length) (hp : ns[j].parent = p) : targetOf ns j = targetOf ns p := by
  have hpj : p < ns.length := by have := (hw j hj).p1; omega
  unfold targetOf
  rw [way_yes hw hj, hp, way_yes hw hpj]
  simp
theorem gates_parent {ns : List Nd} {g j p : Nat} (hw : Wf ns g) (hj : j < ns.length) (hp : ns[j].parent = p) : gatesOf ns j = (if ns[j].gate = -1 then [] else [ns[j].gate]) ++ gatesOf ns p := by
  unfold gatesOf
  rw [way_yes hw hj, hp]
  simp only [gatesW, List.map_cons]
  by_cases h : ns[j].gate = -1
  · simp [h]
  · simp [h]
theorem way_grows {ns ns' : List Nd} {os os' : List Bool} (hw : Wf ns os.length) (h : Grows ns os ns' os') (j : Nat) (hj : j < ns.length) : wayOf ns' j = wayOf ns j := by
  rcases h.nodes with rfl | ⟨n, rfl⟩
  · rfl
  · have hw2 := h.wf hw
    have hn := hw2 ns.length (by simp)
    rw [List.getElem_append_right (Nat.le_refl _)] at hn
    simp only [Nat.sub_self, List.getElem_cons_zero] at hn
    exact way_old (hw.more h.gates) hn (j + 1) j (by omega) hj
/-- No step gives an old one a right. -/
theorem rights_old {ns ns' : List Nd} {os os' : List Bool} (hw : Wf ns os.length) (h : Grows ns os ns' os') (j : Nat) (hj : j < ns.length) : rightsN ns' os' j &&& rightsN ns os j = rightsN ns' os' j := by
  have hj' : j < ns'.length := by rcases h.nodes with rfl | ⟨n, rfl⟩; exact hj; simp; omega
  rw [rights_yes hj, rights_yes hj', way_grows hw h j hj]
  cases hall : (wayOf ns (j : Int)).all (passB os') with
  | false => simp
  | true =>
    have : (wayOf ns (j : Int)).all (passB os) = true := by
      rw [List.all_eq_true] at hall ⊢
      intro x hx
      have hp := hall x hx
      obtain ⟨k, hok⟩ := way_mem hw (j : Int) x hx
      unfold passB at hp ⊢
      by_cases hg : x.gate = -1
      · simp [hg]
      · rcases hok.g0 with e | e
        · exact absurd e hg
        · obtain ⟨i, hi, hil⟩ := there_yes e
          rw [hi] at hp ⊢
          have hi' : i < os'.length := Nat.lt_of_lt_of_le hil h.gates
          simp only [openB, there_nat hil, there_nat hi', Int.toNat_natCast, Bool.true_and] at hp ⊢
          cases ho : os.getD i false with
          | true => simp
          | false => rw [h.shut i hil ho] at hp; exact hp
    simp [this]
end Go.Proofs.Ythplldgdgmhdlab
