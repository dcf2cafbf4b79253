/- Plain mathematics: capabilities, ways, rights, gates, steps. No program. -/
import Derived.WalkKit
import Derived.ProofKit
import Derived.OpenShut
namespace Go.Proofs.Ythplldgdgmhdlaa
open Go.ChangeShapes Go.WideShapes Go.ChangeAt Go.RowKit
theorem hid {p : Prop} (h : p) : Hid p := h
structure Nd where
  parent : Int
  gate : Int
  rights : Int
  cell : Int
  plugin : Int
  func : Int
def nd0 : Nd := ⟨0, 0, 0, 0, 0, 0⟩
def thereB (n : Nat) (k : Int) : Bool := decide (0 ≤ k ∧ k < n)
theorem there_yes {n : Nat} {k : Int} (h : thereB n k = true) : ∃ j : Nat, k = j ∧ j < n := by
  simp [thereB] at h
  exact ⟨k.toNat, by omega, by omega⟩
theorem there_nat {n j : Nat} (h : j < n) : thereB n j = true := by simp [thereB]; omega
theorem there_no {n : Nat} {k : Int} (h : thereB n k = false) : k < 0 ∨ (n : Int) ≤ k := by
  simp [thereB] at h
  omega
def openB (os : List Bool) (k : Int) : Bool := thereB os.length k && os.getD k.toNat false
/-- The node's own facts: at its number, with so many gates. -/
structure NdOk (g k : Nat) (n : Nd) : Prop where
  p0 : -1 ≤ n.parent
  p1 : n.parent < k
  g0 : n.gate = -1 ∨ thereB g n.gate = true
  r0 : 0 ≤ n.rights
  r1 : n.rights ≤ 15
  c0 : 0 ≤ n.cell
  c1 : n.cell < 12
  l0 : -1 ≤ n.plugin
  l1 : n.plugin < 4
  f0 : 0 ≤ n.func
  f1 : n.func < 6
theorem NdOk.more {g g' k : Nat} {n : Nd} (h : NdOk g k n) (hg : g ≤ g') : NdOk g' k n := by
  refine { h with g0 := ?_ }
  rcases h.g0 with e | e
  · exact .inl e
  · simp [thereB] at e ⊢; omega
def Wf (ns : List Nd) (g : Nat) : Prop := ∀ k (h : k < ns.length), NdOk g k ns[k]
theorem Wf.nil (g : Nat) : Wf [] g := fun k h => absurd h (by simp)
theorem Wf.snoc {ns : List Nd} {g : Nat} (h : Wf ns g) {n : Nd} (hn : NdOk g ns.length n) : Wf (ns ++ [n]) g := by
  intro k hk
  by_cases e : k < ns.length
  · rw [List.getElem_append_left e]; exact h k e
  · have : k = ns.length := by simp at hk; omega
    subst this
    simpa using hn
theorem Wf.more {ns : List Nd} {g g' : Nat} (h : Wf ns g) (hg : g ≤ g') : Wf ns g' := fun k hk => (h k hk).more hg
def wayF (ns : List Nd) : Nat → Int → List Nd
  | 0, _ => []
  | f + 1, n => if thereB ns.length n then ns.getD n.toNat nd0 :: wayF ns f (ns.getD n.toNat nd0).parent else []
def wayOf (ns : List Nd) (n : Int) : List Nd := wayF ns (n.toNat + 1) n
theorem wayF_no {ns : List Nd} {n : Int} (h : thereB ns.length n = false) (f : Nat) : wayF ns f n = [] := by
  cases f <;> simp [wayF, h]
theorem way_no {ns : List Nd} {n : Int} (h : thereB ns.length n = false) : wayOf ns n = [] := wayF_no h _
theorem getD_of {ns : List Nd} {k : Nat} (h : k < ns.length) : ns.getD k nd0 = ns[k] := by simp [h]
theorem wayF_same {ns : List Nd} {g : Nat} (hw : Wf ns g) : ∀ f f' (n : Int), n.toNat < f → n.toNat < f' → wayF ns f n = wayF ns f' n := by
  intro f
  induction f with
  | zero => intro f' n h _; omega
  | succ f ih =>
    intro f' n h1 h2
    cases f' with
    | zero => omega
    | succ f' =>
      simp only [wayF]
      cases ht : thereB ns.length n with
      | false => simp
      | true =>
        obtain ⟨j, rfl, hj⟩ := there_yes ht
        simp only [Int.toNat_natCast, if_true] at h1 h2 ⊢
        have hk := hw j hj
        rw [getD_of hj]
        congr 1
        have p0 := hk.p0
        have p1 := hk.p1
        by_cases hp : ns[j].parent < 0
        · have e : thereB ns.length ns[j].parent = false := by simp [thereB]; omega
          rw [wayF_no e, wayF_no e]
        · exact ih f' _ (by omega) (by omega)
theorem way_yes {ns : List Nd} {g : Nat} (hw : Wf ns g) {j : Nat} (hj : j < ns.length) : wayOf ns j = ns[j] :: wayOf ns ns[j].parent := by
  have hk := hw j hj
  have p0 := hk.p0
  have p1 := hk.p1
  have e : wayOf ns j = ns[j] :: wayF ns j ns[j].parent := by
    simp only [wayOf, wayF, there_nat hj, if_true, Int.toNat_natCast, getD_of hj]
  rw [e]
  congr 1
  by_cases hp : ns[j].parent < 0
  · have e : thereB ns.length ns[j].parent = false := by simp [thereB]; omega
    rw [wayF_no e, way_no e]
  · exact wayF_same hw _ _ _ (by omega) (by omega)
theorem way_len {ns : List Nd} {g : Nat} (hw : Wf ns g) (n : Int) : (wayOf ns n).length ≤ ns.length := by
  cases ht : thereB ns.length n with
  | false => rw [way_no ht]; simp
  | true =>
    obtain ⟨j, rfl, hj⟩ := there_yes ht
    have : ∀ m j, j < m → j < ns.length → (wayOf ns (j : Int)).length ≤ j + 1 := by
      intro m
      induction m with
      | zero => intro j h _; omega
      | succ m ih =>
        intro j hm hj
        rw [way_yes hw hj]
        have hk := hw j hj
        have p0 := hk.p0
        have p1 := hk.p1
        by_cases hp : ns[j].parent < 0
        · have e : thereB ns.length ns[j].parent = false := by simp [thereB]; omega
          rw [way_no e]; simp
        · obtain ⟨q, hq⟩ : ∃ q : Nat, ns[j].parent = q := ⟨ns[j].parent.toNat, by omega⟩
          rw [hq] at p1 ⊢
          have := ih q (by omega) (by omega)
          simp only [List.length_cons]; omega
    have := this (j + 1) j (by omega) hj
    omega
theorem way_old {ns : List Nd} {g : Nat} (hw : Wf ns g) {n : Nd} (hn : NdOk g ns.length n) : ∀ m j, j < m → j < ns.length → wayOf (ns ++ [n]) (j : Int) = wayOf ns (j : Int) := by
  intro m
  induction m with
  | zero => intro j h _; omega
  | succ m ih =>
    intro j hm hj
    have hw2 := hw.snoc hn
    have hj2 : j < (ns ++ [n]).length := by simp; omega
    rw [way_yes hw2 hj2, way_yes hw hj]
    have e0 : (ns ++ [n])[j] = ns[j] := List.getElem_append_left hj
    rw [e0]
    congr 1
    have hk := hw j hj
    have p0 := hk.p0
    have p1 := hk.p1
    by_cases hp : ns[j].parent < 0
    · have e : thereB ns.length ns[j].parent = false := by simp [thereB]; omega
      have e2 : thereB (ns ++ [n]).length ns[j].parent = false := by simp [thereB]; omega
      rw [way_no e, way_no e2]
    · obtain ⟨q, hq⟩ : ∃ q : Nat, ns[j].parent = q := ⟨ns[j].parent.toNat, by omega⟩
      rw [hq] at p1 ⊢
      exact ih q (by omega) (by omega)
theorem way_mem {ns : List Nd} {g : Nat} (hw : Wf ns g) (n : Int) : ∀ x ∈ wayOf ns n, ∃ k, NdOk g k x := by
  cases ht : thereB ns.length n with
  | false => rw [way_no ht]; simp
  | true =>
    obtain ⟨j, rfl, hj⟩ := there_yes ht
    have : ∀ m j, j < m → j < ns.length → ∀ x ∈ wayOf ns (j : Int), ∃ k, NdOk g k x := by
      intro m
      induction m with
      | zero => intro j h _; omega
      | succ m ih =>
        intro j hm hj x hx
        rw [way_yes hw hj] at hx
        have hk := hw j hj
        have p0 := hk.p0
        have p1 := hk.p1
        rcases List.mem_cons.1 hx with rfl | hx
        · exact ⟨j, hk⟩
        · by_cases hp : ns[j].parent < 0
          · have e : thereB ns.length ns[j].parent = false := by simp [thereB]; omega
            rw [way_no e] at hx; simp at hx
          · obtain ⟨q, hq⟩ : ∃ q : Nat, ns[j].parent = q := ⟨ns[j].parent.toNat, by omega⟩
            rw [hq] at p1 hx
            exact ih q (by omega) (by omega) x hx
    exact this (j + 1) j (by omega) hj
/-- Rights of a way. -/
def passB (os : List Bool) (n : Nd) : Bool := n.gate == -1 || openB os n.gate
def meetW (r : Nat) (ws : List Nd) : Nat := ws.foldl (fun r n => r &&& n.rights.toNat) r
def rightsN (ns : List Nd) (os : List Bool) (n : Int) : Nat := if thereB ns.length n && (wayOf ns n).all (passB os) then meetW 15 (wayOf ns n) else 0
def gatesW (ws : List Nd) : List Int := (ws.map Nd.gate).filter (· != -1)
def gatesOf (ns : List Nd) (n : Int) : List Int := gatesW (wayOf ns n)
def targetOf (ns : List Nd) (n : Int) : Nd := (wayOf ns n).getLastD nd0
theorem and_small (a b : Nat) (ha : a ≤ 15) (hb : b ≤ 15) : bits .and .i64 (a : Int) (b : Int) = ((a &&& b : Nat) : Int) := by
  have h : ∀ r : Fin 16, ∀ m : Fin 16, bits .and .i64 (r.val : Int) (m.val : Int) = ((r.val &&& m.val : Nat) : Int) := by decide +kernel
  exact h ⟨a, by omega⟩ ⟨b, by omega⟩
theorem and_le15 (a b : Nat) (ha : a ≤ 15) : a &&& b ≤ 15 := Nat.le_trans Nat.and_le_left ha
theorem meet_le : ∀ (ws : List Nd) (r : Nat), r ≤ 15 → meetW r ws ≤ 15
  | [], _, h => h
  | _ :: ws, _, h => meet_le ws _ (and_le15 _ _ h)
theorem rights_le (ns : List Nd) (os : List Bool) (n : Int) : rightsN ns os n ≤ 15 := by
  unfold rightsN
  split
  · exact meet_le _ _ (Nat.le_refl _)
  · omega
theorem rights_no {ns : List Nd} {os : List Bool} {n : Int} (h : thereB ns.length n = false) : rightsN ns os n = 0 := by simp [rightsN, h]
theorem gates_no {ns : List Nd} {n : Int} (h : thereB ns.length n = false) : gatesOf ns n = [] := by simp [gatesOf, way_no h, gatesW]
/-- What the steps do. -/
structure Res where
  num : Int
  code : Int
  ns : List Nd
  os : List Bool
def addOf (ns : List Nd) (os : List Bool) (n : Nd) : Res :=
  if ¬ (0 ≤ n.rights ∧ n.rights ≤ 15) then ⟨0, 1, ns, os⟩
  else if n.gate ≠ -1 ∧ thereB os.length n.gate = false then ⟨0, 8, ns, os⟩
  else if ns.length = 80 then ⟨0, 11, ns, os⟩
  else ⟨ns.length, 0, ns ++ [n], os⟩
def gateOf (ns : List Nd) (os : List Bool) : Res := if os.length = 20 then ⟨0, 11, ns, os⟩ else ⟨os.length, 0, ns, os ++ [true]⟩
def cutOf (ns : List Nd) (os : List Bool) (k : Int) : Res := if thereB os.length k then ⟨0, 0, ns, os.set k.toNat false⟩ else ⟨0, 8, ns, os⟩
def cellB (c : Int) : Bool := decide (0 ≤ c ∧ c < 12)
def cellOf (ns : List Nd) (os : List Bool) (c r g : Int) : Res := if cellB c then addOf ns os ⟨-1, g, r, c, -1, 0⟩ else ⟨0, 1, ns, os⟩
def funcB (p f : Int) : Bool := decide (0 ≤ p ∧ p < 4 ∧ 0 ≤ f ∧ f < 6)
def funcOf (ns : List Nd) (os : List Bool) (p f r g : Int) : Res := if funcB p f then addOf ns os ⟨-1, g, r, 0, p, f⟩ else ⟨0, 1, ns, os⟩
def deriveOf (ns : List Nd) (os : List Bool) (p r g : Int) : Res := if thereB ns.length p then addOf ns os ⟨p, g, r, 0, -1, 0⟩ else ⟨0, 8, ns, os⟩
structure Stp where
  d : Int
  a : Int
  b : Int
  c : Int
  e : Int
def stepOf (ns : List Nd) (os : List Bool) (x : Stp) : Res :=
  if x.d = 0 then gateOf ns os else if x.d = 1 then cutOf ns os x.a else if x.d = 2 then cellOf ns os x.a x.b x.c
  else if x.d = 3 then funcOf ns os x.a x.e x.b x.c else if x.d = 4 then deriveOf ns os x.a x.b x.c else ⟨0, 0, ns, os⟩
/-- How a state may go on. -/
structure Grows (ns : List Nd) (os : List Bool) (ns' : List Nd) (os' : List Bool) : Prop where
  nodes : ns' = ns ∨ ∃ n, ns' = ns ++ [n]
  gates : os.length ≤ os'.length
  shut : ∀ k : Nat, k < os.length → os.getD k false = false → os'.getD k false = false
  wf : Wf ns os.length → Wf ns' os'.length
theorem Grows.refl (ns : List Nd) (os : List Bool) : Grows ns os ns os := ⟨.inl rfl, Nat.le_refl _, fun _ _ h => h, id⟩
theorem add_grows (ns : List Nd) (os : List Bool) (n : Nd) (hp : -1 ≤ n.parent ∧ n.parent < ns.length) (hc : 0 ≤ n.cell ∧ n.cell < 12) (hl : -1 ≤ n.plugin ∧ n.plugin < 4) (hf : 0 ≤ n.func ∧ n.func < 6) :
    Grows ns os (addOf ns os n).ns (addOf ns os n).os := by
  unfold addOf
  split
  · exact Grows.refl _ _
  · rename_i h1
    split
    · exact Grows.refl _ _
    · rename_i h2
      split
      · exact Grows.refl _ _
      · refine ⟨.inr ⟨n, rfl⟩, Nat.le_refl _, fun _ _ h => h, fun hw => hw.snoc ?_⟩
        refine ⟨hp.1, hp.2, ?_, by omega, by omega, hc.1, hc.2, hl.1, hl.2, hf.1, hf.2⟩
        by_cases e : n.gate = -1
        · exact .inl e
        · right
          cases ht : thereB os.length n.gate
          · exact absurd ⟨e, ht⟩ h2
          · rfl
theorem step_grows (ns : List Nd) (os : List Bool) (x : Stp) : Grows ns os (stepOf ns os x).ns (stepOf ns os x).os := by
  unfold stepOf
  split
  · unfold gateOf
    split
    · exact Grows.refl _ _
    · refine ⟨.inl rfl, by simp, fun k hk h => ?_, fun hw => hw.more (by simp)⟩
      simp only [List.getD_eq_getElem?_getD] at h ⊢
      rw [List.getElem?_append_left hk]; exact h
  · split
    · unfold cutOf
      split
      · refine ⟨.inl rfl, by simp, fun k hk h => ?_, fun hw => hw.more (by simp)⟩
        simp only [List.getD_eq_getElem?_getD] at h ⊢
        rw [List.getElem?_set]
        split
        · split <;> simp
        · exact h
      · exact Grows.refl _ _
    · split
      · unfold cellOf
        split
        · rename_i h
          simp [cellB] at h
          exact add_grows _ _ _ ⟨by simp, by simp; omega⟩ h ⟨by simp, by simp⟩ ⟨by simp, by simp⟩
        · exact Grows.refl _ _
      · split
        · unfold funcOf
          split
          · rename_i h
            simp [funcB] at h
            exact add_grows _ _ _ ⟨by simp, by simp; omega⟩ ⟨by simp, by simp⟩ ⟨by simp; omega, by simp; omega⟩ ⟨by simp; omega, by simp; omega⟩
          · exact Grows.refl _ _
        · split
          · unfold deriveOf
            split
            · rename_i h
              simp [thereB] at h
              exact add_grows _ _ _ ⟨by simp; omega, by simp; omega⟩ ⟨by simp, by simp⟩ ⟨by simp, by simp⟩ ⟨by simp, by simp⟩
            · exact Grows.refl _ _
          · exact Grows.refl _ _
end Go.Proofs.Ythplldgdgmhdlaa
