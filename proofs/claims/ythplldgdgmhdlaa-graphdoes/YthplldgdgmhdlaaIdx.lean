/- Plain mathematics of the document's net: the numbers of those on a way, and rights bit by bit. -/
import Derived.Test.YthplldgdgmhdlaaWays
namespace Go.Proofs.Ythplldgdgmhdlaa
open Go.ChangeShapes Go.WideShapes Go.ChangeAt Go.RowKit
def idxF (ns : List Nd) : Nat → Int → List Int
  | 0, _ => []
  | f + 1, n => if thereB ns.length n then n :: idxF ns f (ns.getD n.toNat nd0).parent else []
def idxOf (ns : List Nd) (n : Int) : List Int := idxF ns (n.toNat + 1) n
def ndAt (ns : List Nd) (i : Int) : Nd := ns.getD i.toNat nd0
theorem idxF_map (ns : List Nd) : ∀ (f : Nat) (n : Int), (idxF ns f n).map (ndAt ns) = wayF ns f n
  | 0, _ => rfl
  | f + 1, n => by
    simp only [idxF, wayF]
    split
    · rw [List.map_cons, idxF_map ns f]; rfl
    · rfl
theorem idx_map (ns : List Nd) (n : Int) : (idxOf ns n).map (ndAt ns) = wayOf ns n := idxF_map ns _ n
theorem idxF_mem (ns : List Nd) : ∀ (f : Nat) (n i : Int), i ∈ idxF ns f n → thereB ns.length i = true
  | 0, _, _, h => by simp [idxF] at h
  | f + 1, n, i, h => by
    simp only [idxF] at h
    split at h
    · rename_i ht
      rcases List.mem_cons.1 h with rfl | h
      · exact ht
      · exact idxF_mem ns f _ i h
    · simp at h
theorem idxF_no {ns : List Nd} {n : Int} (h : thereB ns.length n = false) (f : Nat) : idxF ns f n = [] := by
  cases f <;> simp [idxF, h]
theorem idx_no {ns : List Nd} {n : Int} (h : thereB ns.length n = false) : idxOf ns n = [] := idxF_no h _
theorem idxF_same {ns : List Nd} {g : Nat} (hw : Wf ns g) : ∀ f f' (n : Int), n.toNat < f → n.toNat < f' → idxF ns f n = idxF ns f' n := by
  intro f
  induction f with
  | zero => intro f' n h _; omega
  | succ f ih =>
    intro f' n h1 h2
    cases f' with
    | zero => omega
    | succ f' =>
      simp only [idxF]
      cases ht : thereB ns.length n with
      | false => simp
      | true =>
        obtain ⟨j, rfl, hj⟩ := there_yes ht
        simp only [Int.toNat_natCast, if_true] at h1 h2 ⊢
        have hk := hw j hj
        rw [getD_of hj]
        congr 1
        have p0 := hk.p0
        have p1 := hk.p1
        by_cases hp : ns[j].parent < 0
        · have e : thereB ns.length ns[j].parent = false := by simp [thereB]; omega
          rw [idxF_no e, idxF_no e]
        · exact ih f' _ (by omega) (by omega)
theorem idx_yes {ns : List Nd} {g : Nat} (hw : Wf ns g) {j : Nat} (hj : j < ns.length) : idxOf ns j = (j : Int) :: idxOf ns ns[j].parent := by
  have hk := hw j hj
  have p0 := hk.p0
  have p1 := hk.p1
  have e : idxOf ns j = (j : Int) :: idxF ns j ns[j].parent := by
    simp only [idxOf, idxF, there_nat hj, if_true, Int.toNat_natCast, getD_of hj]
  rw [e]
  congr 1
  by_cases hp : ns[j].parent < 0
  · have e : thereB ns.length ns[j].parent = false := by simp [thereB]; omega
    rw [idxF_no e, idx_no e]
  · exact idxF_same hw _ _ _ (by omega) (by omega)
theorem idx_len (ns : List Nd) (n : Int) : (idxOf ns n).length = (wayOf ns n).length := by rw [← idx_map]; simp
/-- The k-th on a way. -/
theorem idx_at {ns : List Nd} {n : Int} {k : Nat} (hk : k < (idxOf ns n).length) (hk' : k < (wayOf ns n).length) : ∃ i : Nat, (idxOf ns n)[k] = (i : Int) ∧ ∃ hi : i < ns.length, ns[i] = (wayOf ns n)[k] := by
  have hm := idxF_mem ns _ n _ (List.getElem_mem hk)
  obtain ⟨i, e, hi⟩ := there_yes hm
  refine ⟨i, e, hi, ?_⟩
  have : (wayOf ns n)[k] = ndAt ns (idxOf ns n)[k] := by
    have h1 : ((idxOf ns n).map (ndAt ns))[k]? = (wayOf ns n)[k]? := by rw [idx_map]
    rw [List.getElem?_map, List.getElem?_eq_getElem hk, List.getElem?_eq_getElem hk', Option.map_some] at h1
    exact (Option.some.inj h1).symm
  rw [this, e]
  simp [ndAt, hi]
/-- Bit by bit. -/
def bitOk (os : List Bool) (k : Nat) (x : Nd) : Bool := x.rights.toNat.testBit k && passB os x
def sumTo (os : List Bool) (ws : List Nd) : Nat → Nat
  | 0 => 0
  | k + 1 => sumTo os ws k + if ws.all (bitOk os k) then 2 ^ k else 0
theorem meet_bit (k : Nat) : ∀ (ws : List Nd) (r : Nat), (meetW r ws).testBit k = (r.testBit k && ws.all fun x => x.rights.toNat.testBit k)
  | [], r => by simp [meetW]
  | x :: ws, r => by
    show (meetW (r &&& x.rights.toNat) ws).testBit k = _
    rw [meet_bit k ws, Nat.testBit_and, List.all_cons, Bool.and_assoc]
theorem sum_small (M : Nat) (h : M ≤ 15) : (((0 + if M.testBit 0 then 2 ^ 0 else 0) + if M.testBit 1 then 2 ^ 1 else 0) + if M.testBit 2 then 2 ^ 2 else 0) + (if M.testBit 3 then 2 ^ 3 else 0) = M := by
  have H : ∀ r : Fin 16, (((0 + if r.val.testBit 0 then 2 ^ 0 else 0) + if r.val.testBit 1 then 2 ^ 1 else 0) + if r.val.testBit 2 then 2 ^ 2 else 0) + (if r.val.testBit 3 then 2 ^ 3 else 0) = r.val := by decide +kernel
  exact H ⟨M, by omega⟩
theorem all_bit (os : List Bool) (ws : List Nd) (k : Nat) (hk : k < 4) : ws.all (bitOk os k) = (if ws.all (passB os) then meetW 15 ws else 0).testBit k := by
  have h1 : ws.all (bitOk os k) = ((ws.all fun x => x.rights.toNat.testBit k) && ws.all (passB os)) := by
    induction ws with
    | nil => rfl
    | cons x ws ih => simp only [List.all_cons, ih, bitOk]; cases x.rights.toNat.testBit k <;> cases passB os x <;> simp
  have h15 : (15 : Nat).testBit k = true := by
    have : ∀ k : Fin 4, (15 : Nat).testBit k.val = true := by decide
    exact this ⟨k, hk⟩
  rw [h1]
  split
  · rename_i h; rw [h, meet_bit, h15]; simp
  · rename_i h
    have : ws.all (passB os) = false := by simpa using h
    rw [this]; simp
theorem sum_rights {ns : List Nd} {os : List Bool} {n : Int} (ht : thereB ns.length n = true) : sumTo os (wayOf ns n) 4 = rightsN ns os n := by
  have e : rightsN ns os n = if (wayOf ns n).all (passB os) then meetW 15 (wayOf ns n) else 0 := by simp [rightsN, ht]
  have hle : (if (wayOf ns n).all (passB os) then meetW 15 (wayOf ns n) else 0) ≤ 15 := by rw [← e]; exact rights_le _ _ _
  rw [e]
  show (((0 + if (wayOf ns n).all (bitOk os 0) then 2 ^ 0 else 0) + if (wayOf ns n).all (bitOk os 1) then 2 ^ 1 else 0) + if (wayOf ns n).all (bitOk os 2) then 2 ^ 2 else 0) + (if (wayOf ns n).all (bitOk os 3) then 2 ^ 3 else 0) = _
  rw [all_bit os _ 0 (by decide), all_bit os _ 1 (by decide), all_bit os _ 2 (by decide), all_bit os _ 3 (by decide)]
  exact sum_small _ hle
theorem sum_le (os : List Bool) (ws : List Nd) : ∀ k, k ≤ 4 → sumTo os ws k ≤ 15
  | 0, _ => by simp [sumTo]
  | 1, _ => by simp only [sumTo]; split <;> simp
  | 2, _ => by simp only [sumTo]; split <;> split <;> simp
  | 3, _ => by simp only [sumTo]; split <;> split <;> split <;> simp
  | 4, _ => by simp only [sumTo]; split <;> split <;> split <;> split <;> simp
end Go.Proofs.Ythplldgdgmhdlaa
