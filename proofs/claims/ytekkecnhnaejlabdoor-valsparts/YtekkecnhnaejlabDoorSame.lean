/- The contract of Same: twin lists that are still to be compared. -/
import Derived.Test.YtekkecnhnaejlabDoorKit
import Derived.Deep.RegionHeld3
import Derived.Deep.RegionLaw
import Derived.Lib.Builder
import Derived.Carry
namespace Go.Proofs.YtekkecnhnaejlabDoor
open Go.ChangeShapes Go.WideShapes Go.ChangeAt Go.RowKit
abbrev Pp := Pl × Pl
def tw (p : Pp) : List Value := [slv p.1, slv p.2]
def fsz (ps : List Pp) : Nat := (ps.map fun p => 1 + sizes p.1.1).sum
theorem fsz_nil : fsz [] = 0 := rfl
theorem fsz_app (a b : List Pp) : fsz (a ++ b) = fsz a + fsz b := by simp [fsz]
theorem fsz_one (p : Pp) : fsz [p] = 1 + sizes p.1.1 := by simp [fsz]
def frs (ps : List Pp) : Nat := (ps.map fun p => sizes p.1.1).sum
theorem frs_nil : frs [] = 0 := rfl
theorem frs_app (a b : List Pp) : frs (a ++ b) = frs a + frs b := by simp [frs]
theorem frs_one (p : Pp) : frs [p] = sizes p.1.1 := by simp [frs]
theorem fsz_frs (ps : List Pp) : fsz ps = ps.length + frs ps := by
  induction ps with
  | nil => rfl
  | cons p ps ih => simp only [fsz, frs, List.map_cons, List.sum_cons, List.length_cons] at ih ⊢; omega
def Lie2 (w : World) (ps : List Pp) : Prop := ∀ p ∈ ps, Fo w p.1.1 p.1.2.1 ∧ Fo w p.2.1 p.2.2.1
def Eq2 (ps : List Pp) : Prop := ∀ p ∈ ps, p.1.1 = p.2.1
theorem Eq2.app (a b : List Pp) : Eq2 (a ++ b) ↔ Eq2 a ∧ Eq2 b := by simp only [Eq2, List.mem_append, or_imp, forall_and]
theorem Eq2.one (p : Pp) : Eq2 [p] ↔ p.1.1 = p.2.1 := by simp [Eq2]
theorem Lie2.app {w : World} {a b : List Pp} (h : Lie2 w a) (k : Lie2 w b) : Lie2 w (a ++ b) := by
  intro x hx
  rcases List.mem_append.1 hx with h' | h'
  · exact h x h'
  · exact k x h'
theorem row_two (w : World) (t : TypeId) (x y : Value) : (w.alloc (.cells #[x, y] t)).ownsRow w.heap.size t 2 (.slice (some ⟨w.heap.size, 0, none⟩) 1 1) 1 [x, y] :=
  ⟨by simp, .inr ⟨w.heap.size, 1, #[x, y], rfl, Nat.le_refl _, heap_alloc_new w _, Nat.le_refl _, by decide, by simp, by simp⟩⟩
theorem push_row2 {W wr w1 : World} {p : Pp} {ps : List Pp} {sv : Value} {g cap n : Nat} {o : Obj} (hB : Below W.heap.size W wr) (hr : wr.ownsRow W.heap.size 54 2 sv n (ps.flatMap tw)) (hn : n = ps.length)
    (hr1 : w1.ownsRow W.heap.size 54 2 (.slice (some ⟨g, 0, none⟩) (n + 1) cap) (n + 1) (ps.flatMap tw ++ tw p)) (hg : (wr.alloc o).grownBy w1 sv.ownBlock) :
    w1.ownsRow W.heap.size 54 2 (.slice (some ⟨g, 0, none⟩) (n + 1) cap) (ps ++ [p]).length ((ps ++ [p]).flatMap tw) ∧ Below W.heap.size W w1 := by
  subst hn
  refine ⟨by simpa using hr1, hB.trans ?_⟩
  refine ((Below.refl _ _).alloc hB.size o).trans ?_
  refine (Kp.grown (F := fun k => W.heap.size ≤ k) hg fun k _ e => (hr.lt k e.symm).1).below (by simp; have := hB.size; omega) fun k hk => hk
/-- The block of the pair that is looked at stays. -/
theorem twin_step {w w1 : World} {H g2 n cap cap2 m : Nat} {av : Option Addr} {c o : Obj} (hb : w.heap[H]? = some c) (hz : H < w.heap.size) (hn : (Value.slice av n cap).ownBlock ≠ some H) (hg : (w.alloc o).grownBy w1 (Value.slice av n cap).ownBlock)
    (hat : (Value.slice av n cap).ownBlock = some g2 ∨ g2 = (w.alloc o).heap.size) : w1.heap[H]? = some c ∧ H < w1.heap.size ∧ (Value.slice (some ⟨g2, 0, none⟩) m cap2).ownBlock ≠ some H := by
  have h1 : (w.alloc o).heap.size = w.heap.size + 1 := by simp
  refine ⟨?_, ?_, ?_⟩
  · rw [hg.block H (by omega) (fun e => hn e.symm)]
    exact (Below.heap_alloc w o H hz).trans hb
  · have := hg.size; omega
  · intro e
    simp [Value.ownBlock] at e
    subst e
    rcases hat with e | e
    · exact hn e
    · omega
/-- Two things are one, where their numbers are, if what is in them is. -/
theorem alike_eq (x y : V) : (x.kind == y.kind && x.n == y.n) = true ↔ (x.kind = y.kind ∧ x.n = y.n) := by simp
/-- The state of the inner loop. -/
structure SS (W : World) (ps : List Pp) (x y : List V) (tb : Nat) (cx cy : Value) (sv : Value) (j : Nat) (qs : List Pp) (w : World) : Prop where
  row : w.ownsRow W.heap.size 54 2 sv (ps ++ qs).length ((ps ++ qs).flatMap tw)
  lie : Lie2 W qs
  iff : x.take j = y.take j ↔ Eq2 qs
  num : frs qs + j = sizes (x.take j) ∧ qs.length ≤ j
  low : Below W.heap.size W w
  box : w.heap[tb]? = some (.cells #[cx, cy] 54 (0, 0))
  oth : sv.ownBlock ≠ some tb
theorem SS.quiet {W : World} {ps : List Pp} {x y : List V} {tb : Nat} {cx cy sv : Value} {j : Nat} {qs : List Pp} {w w' : World} (H : SS W ps x y tb cx cy sv j qs w) (q : Quiet w w') : SS W ps x y tb cx cy sv j qs w' :=
  { H with row := q.row H.row fun _ _ e => e, low := H.low.trans (q.below H.low.size fun _ e => e.elim), box := (q.block tb (lt_of_block H.box) fun e => e).trans H.box }
/-- The cells that are looked at. -/
theorem SS.cells {W : World} {ps : List Pp} {x y : List V} {tb : Nat} {cx cy sv : Value} {j : Nat} {qs : List Pp} {w : World} (H : SS W ps x y tb cx cy sv j qs w) : w.cell? ⟨tb, 0, none⟩ = some cx ∧ w.cell? ⟨tb, 1, none⟩ = some cy := by
  have h := H.box
  refine ⟨?_, ?_⟩ <;> simp [World.cell?, h]
/-- The next two are compared. -/
theorem SS.next {W : World} {ps : List Pp} {x y : List V} {tb : Nat} {cx cy sv : Value} {j : Nat} {qs : List Pp} {w : World} {c d : V} {P : Prop} (H : SS W ps x y tb cx cy sv j qs w) (hT : x.take (j + 1) = y.take (j + 1) ↔ x.take j = y.take j ∧ c = d)
    (hA : c.kind = d.kind ∧ c.n = d.n) (hP : c.l = d.l ↔ P) : x.take (j + 1) = y.take (j + 1) ↔ Eq2 qs ∧ P := by
  rw [hT, H.iff, v_ext, ← hP]
  exact ⟨fun h => ⟨h.1, h.2.2⟩, fun h => ⟨h.1, hA, h.2⟩⟩
theorem SS.skip {W : World} {ps : List Pp} {x y : List V} {tb : Nat} {cx cy sv : Value} {j : Nat} {qs : List Pp} {w : World} {c d : V} (H : SS W ps x y tb cx cy sv j qs w) (hT : x.take (j + 1) = y.take (j + 1) ↔ x.take j = y.take j ∧ c = d) (hZ : sizes (x.take (j + 1)) = sizes (x.take j) + c.size) (hS : c.size = 1 + sizes c.l)
    (hA : c.kind = d.kind ∧ c.n = d.n) (hc : c.l = []) (hd : d.l = []) : SS W ps x y tb cx cy sv (j + 1) qs w := by
  refine { H with iff := ?_, num := ?_ }
  · rw [H.next hT hA (P := True) (by rw [hc, hd]; simp)]; simp
  · have h1 := H.num; rw [hc, sizes_nil] at hS; omega
theorem SS.push {W : World} {ps : List Pp} {x y : List V} {tb : Nat} {cx cy : Value} {av : Option Addr} {cv j nk g2 cap2 : Nat} {qs : List Pp} {w w1 : World} {c d : V} {p : Pp} {o : Obj} (H : SS W ps x y tb cx cy (.slice av nk cv) j qs w) (hC : Fo W p.1.1 p.1.2.1 ∧ Fo W p.2.1 p.2.2.1) (hT : x.take (j + 1) = y.take (j + 1) ↔ x.take j = y.take j ∧ c = d) (hZ : sizes (x.take (j + 1)) = sizes (x.take j) + c.size) (hS : c.size = 1 + sizes c.l)
    (hA : c.kind = d.kind ∧ c.n = d.n) (hn : nk = (ps ++ qs).length)
    (hr1 : w1.ownsRow W.heap.size 54 2 (.slice (some ⟨g2, 0, none⟩) (nk + 1) cap2) (nk + 1) ((ps ++ qs).flatMap tw ++ tw p)) (hg : (w.alloc o).grownBy w1 (Value.slice av nk cv).ownBlock) (hat : (Value.slice av nk cv).ownBlock = some g2 ∨ g2 = (w.alloc o).heap.size) (hp1 : p.1.1 = c.l := by rfl) (hp2 : p.2.1 = d.l := by rfl) :
    SS W ps x y tb cx cy (.slice (some ⟨g2, 0, none⟩) (nk + 1) cap2) (j + 1) (qs ++ [p]) w1 := by
  have h1 := push_row2 (p := p) H.low (hn ▸ H.row) hn hr1 hg
  have h2 := twin_step (m := nk + 1) (cap2 := cap2) H.box (lt_of_block H.box) H.oth hg hat
  refine ⟨by rw [← List.append_assoc]; exact h1.1, H.lie.app ?_, ?_, ?_, h1.2, h2.1, h2.2.2⟩
  · intro q hq; simp at hq; subst hq; exact hC
  · rw [Eq2.app, Eq2.one, hp1, hp2]; exact H.next hT hA Iff.rfl
  · have h3 := H.num; rw [frs_app, frs_one, hp1, List.length_append]; simp only [List.length_cons, List.length_nil]; omega
end Go.Proofs.YtekkecnhnaejlabDoor
