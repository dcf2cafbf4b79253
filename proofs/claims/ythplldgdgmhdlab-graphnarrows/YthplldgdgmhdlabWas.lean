/- What GraphNarrows and GraphCuts share: a row of rights, In, and the mathematics of cuts and of rights that never grow. -/
import Derived.Test.YthplldgdgmhdlabLaw
import Derived.Deep.OwnRows
import Derived.Laws.OwnMore
namespace Go.Proofs.Ythplldgdgmhdlab
open Go.ChangeShapes Go.WideShapes Go.ChangeAt Go.RowKit
def rsTo (ns : List Nd) (os : List Bool) (all k : Nat) : List Int := (List.range all).map fun i => if i < k then ((rightsN ns os i : Nat) : Int) else 0
theorem rs_len (ns : List Nd) (os : List Bool) (all k : Nat) : (rsTo ns os all k).length = all := by simp [rsTo]
theorem rs_made (ns : List Nd) (os : List Bool) (all : Nat) : madeCells #[Value.int .i64 0] all = (ints (rsTo ns os all 0)).toArray := by
  apply Array.ext'
  rw [toList_madeCells_one]
  simp only [ints, rsTo, Nat.not_lt_zero, if_false, List.map_map]
  symm
  exact List.eq_replicate_iff.2 ⟨by simp, by simp⟩
theorem rs_set (ns : List Nd) (os : List Bool) (all k : Nat) : (rsTo ns os all k).set k ((rightsN ns os k : Nat) : Int) = rsTo ns os all (k + 1) := by
  apply List.ext_getElem
  · simp [rsTo]
  · intro i h1 h2
    rw [List.getElem_set]
    simp only [rsTo, List.getElem_map, List.getElem_range]
    by_cases e : k = i
    · subst e; simp
    · rw [if_neg e]
      by_cases e2 : i < k
      · rw [if_pos e2, if_pos (by omega)]
      · rw [if_neg e2, if_neg (by omega)]
theorem make_any (n : Nat) (hn : n ≤ 80) (w : World) : (Instr.makeSlice 26 (.int .i64 (n : Int)) (.int .i64 (n : Int))).run Try.prog w = .ok (.slice (some ⟨w.heap.size, 0, none⟩) n n) (w.alloc (.cells (madeCells #[Value.int .i64 0] n) 3)) :=
  run_make_row' 26 3 (.int .i64 0) 8 Try.undI Try.infoI rfl .i64 .i64 n (by omega) (by omega) w
theorem rs_cell {w : World} {c : Nat} {l : List Int} {t : TypeId} (h : w.heap[c]? = some (.cells (ints l).toArray t (0, 0))) (k : Nat) (hk : k < l.length) : w.cell? ⟨c, k, none⟩ = some (.int .i64 l[k]) := by
  simp only [World.cell?, h]
  simp [ints, hk]
theorem rs_store {w : World} {c : Nat} {l : List Int} (h : w.heap[c]? = some (.cells (ints l).toArray 3 (0, 0))) (k : Nat) (x : Int) : (w.setCell ⟨c, k, none⟩ (.int .i64 x)).heap[c]? = some (.cells (ints (l.set k x)).toArray 3 (0, 0)) := by
  rw [heap_setCell_same w c k _ 3 _ h]
  congr 2
  apply Array.ext'
  simp [ints, List.map_set]
set_option maxHeartbeats 1000000 in
theorem in_any (w : World) (l : List Int) (ao : Option Addr) (cap : Nat) (n : Int) (hl : l.length ≤ 100000) (h1 : IntsAt w ao l) :
    Calls Try.prog 16 #[.slice ao l.length cap, .int .i64 n] w fun e w' => e = .returned (.bool (decide (n ∈ l))) ∧ w' = w := by
  have H1 := hid h1
  clear h1
  go_enter Try.func16, Try.ntmps16
  go_wp2
  go_loop [5] (fun i => ∃ k : Nat, k ≤ l.length ∧ i = .int .i64 k ∧ ∀ j, (hj : j < l.length) → j < k → l[j] ≠ n) (fun i => l.length - (intOf i).toNat)
  case atStart => exact ⟨0, Nat.zero_le _, rfl, fun j _ h => by omega⟩
  case round =>
    obtain ⟨k, hkl, rfl, hno⟩ := hrel
    have HN := hid hno
    clear hno
    by_cases hlt : k < l.length
    · obtain ⟨g1, o1, rfl, c1⟩ := H1.out k hlt
      by_cases he : l[k] = n
      · have hy := hid (show decide (n ∈ l) = true by simp only [decide_eq_true_eq]; rw [← he]; exact List.getElem_mem hlt)
        rw [he] at c1
        go_wp2
        go_ret
        exact ⟨by rw [hy.out]; rfl, rfl⟩
      · have hx := hid he
        generalize hgy : l[k] = y at *
        go_wp2
        refine ⟨⟨k + 1, by omega, by go_num, fun j hj hjk => ?_⟩, by simp [intOf]; omega⟩
        by_cases e : j = k
        · subst e; rw [hgy]; exact hx.out
        · exact HN.out j hj (by omega)
    · have hy := hid (show decide (n ∈ l) = false by
        simp only [decide_eq_false_iff_not]
        intro hm
        obtain ⟨j, hj, e⟩ := List.mem_iff_getElem.1 hm
        exact HN.out j hj (by omega) e)
      go_wp2
      go_ret
      exact ⟨by rw [hy.out]; rfl, rfl⟩
/-- A gate that is cut cuts all behind it. -/
theorem rights_shut {ns : List Nd} {os : List Bool} {k g : Int} (hm : g ∈ gatesOf ns k) (ho : openB os g = false) : rightsN ns os k = 0 := by
  unfold rightsN
  rw [if_neg]
  intro h
  simp only [Bool.and_eq_true, List.all_eq_true] at h
  simp only [gatesOf, gatesW, List.mem_filter, List.mem_map, bne_iff_ne, ne_eq] at hm
  obtain ⟨⟨x, hx, rfl⟩, hne⟩ := hm
  have := h.2 x hx
  simp [passB, hne, ho] at this
theorem open_set_other {os : List Bool} {j : Nat} {g : Int} (h : g ≠ j) (x : Bool) : openB (os.set j x) g = openB os g := by
  unfold openB
  rw [List.length_set]
  cases ht : thereB os.length g with
  | false => rfl
  | true =>
    obtain ⟨i, rfl, hi⟩ := there_yes ht
    have : i ≠ j := by rintro rfl; exact h rfl
    simp [this.symm]
theorem rights_far {ns : List Nd} {os : List Bool} {k : Int} {j : Nat} (hm : (j : Int) ∉ gatesOf ns k) : rightsN ns (os.set j false) k = rightsN ns os k := by
  have : (wayOf ns k).all (passB (os.set j false)) = (wayOf ns k).all (passB os) := by
    rw [Bool.eq_iff_iff, List.all_eq_true, List.all_eq_true]
    have key : ∀ x ∈ wayOf ns k, passB (os.set j false) x = passB os x := by
      intro x hx
      unfold passB
      by_cases hg : x.gate = -1
      · simp [hg]
      · rw [open_set_other]
        rintro e
        apply hm
        simp only [gatesOf, gatesW, List.mem_filter, List.mem_map, bne_iff_ne, ne_eq]
        exact ⟨⟨x, hx, e⟩, by omega⟩
    constructor
    · intro h x hx; rw [← key x hx]; exact h x hx
    · intro h x hx; rw [key x hx]; exact h x hx
  unfold rightsN
  rw [this]
theorem open_cut {os : List Bool} {j : Nat} (h : os.getD j false = false) : openB os j = false := by
  simp only [openB, Int.toNat_natCast, h, Bool.and_false]
end Go.Proofs.Ythplldgdgmhdlab
