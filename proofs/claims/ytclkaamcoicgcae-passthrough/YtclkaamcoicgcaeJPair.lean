/- What the laws on package graph share: the steps in memory, a step beside a fresh net, the way's end. The graph beside the document's net, in agreement. -/
import Derived.Test.YtclkaamcoicgcaeGStep
import Derived.Test.YtclkaamcoicgcaeJLook
namespace Go.Proofs.Ytclkaamcoicgcae.Gr
open Go.ChangeShapes Go.WideShapes Go.ChangeAt Go.RowKit
/-- The steps lie in memory. -/
def Lies (w : World) (ao : Option Addr) (ss : List Stp) : Prop := ∀ k, (hk : k < ss.length) → ∃ a off, ao = some ⟨a, off, none⟩ ∧ a < w.heap.size ∧
  w.cell? ⟨a, off + k * 5, none⟩ = some (.int .i64 ss[k].d) ∧ w.cell? ⟨a, off + k * 5 + 1, none⟩ = some (.int .i64 ss[k].a) ∧ w.cell? ⟨a, off + k * 5 + 2, none⟩ = some (.int .i64 ss[k].b) ∧ w.cell? ⟨a, off + k * 5 + 3, none⟩ = some (.int .i64 ss[k].c) ∧ w.cell? ⟨a, off + k * 5 + 4, none⟩ = some (.int .i64 ss[k].e)
def net0 : Obj := .cells #[.slice none 0 0, .slice none 0 0] 45
section
variable {B : Nat} {w w' : World} {b : Nat} {vn vo vn' vo' vn2' vo2' : Value} {ns : List Nd} {os : List Bool}
theorem own_none {b k : Nat} (h : Own b (.slice none 0 0) (.slice none 0 0) k) : k = b := by
  rcases h with e | e | e
  · exact e
  · simp [Value.ownBlock] at e
  · simp [Value.ownBlock] at e
theorem two_fresh {o : Obj} (T : Two b vn vo w.heap.size (.slice none 0 0) (.slice none 0 0) (w.alloc o) vn' vo' vn2' vo2' w') : Goes b vn vo w vn' vo' w' := by
  have s := T.kp.size
  rw [show (w.alloc o).heap.size = w.heap.size + 1 by simp] at s
  refine ⟨⟨T.kp.os, T.kp.tape, T.kp.output, by omega, fun k hk hn => ?_⟩, fun k hk => ?_⟩
  · refine (T.kp.block k (by simp; omega) ?_).trans (Below.heap_alloc w o k hk)
    rintro (e | e)
    · exact hn e
    · have := own_none e; omega
  · rcases T.own k hk with e | e
    · exact .inl e
    · simp at e; right; omega
theorem lstep_any (hg : GS 70 B w b vn vo ns os) (x : Stp) :
    Calls Try.prog 28 #[.pointer (some ⟨b, 0, none⟩), .pointer (some ⟨w.heap.size, 0, none⟩), .agg #[.int .i64 x.d, .int .i64 x.a, .int .i64 x.b, .int .i64 x.c, .int .i64 x.e]] (w.alloc (.cells #[.slice none 0 0, .slice none 0 0] 45)) fun e w' =>
      ∃ q vn' vo', e = .returned (.bool q) ∧ GS 70 B w' b vn' vo' (stepOf ns os x).ns (stepOf ns os x).os ∧ Goes b vn vo w vn' vo' w' := by
  refine (gstep_any (hg.quiet (Kp.alloc w _)) (GS.new w 45 (Nat.le_refl w.heap.size)) ?_ x).mono ?_
  · intro k e1 e2
    have := own_none e2
    have := (hg.own k e1).2
    omega
  · rintro e w' ⟨q, vn', vo', _, _, rfl, _, h, _, T⟩
    exact ⟨q, vn', vo', rfl, h, two_fresh T⟩
end
theorem target_root {ns : List Nd} {g : Nat} (hw : Wf ns g) : ∀ m j, j < m → j < ns.length → (targetOf ns (j : Int)).parent = -1 ∧ ∃ k, NdOk g k (targetOf ns (j : Int)) := by
  intro m
  induction m with
  | zero => intro j h _; omega
  | succ m ih =>
    intro j hm hj
    have hk := hw j hj
    have p0 := hk.p0
    have p1 := hk.p1
    by_cases hp : ns[j].parent < 0
    · have e : thereB ns.length ns[j].parent = false := by simp [thereB]; omega
      have : targetOf ns j = ns[j] := by simp [targetOf, way_yes hw hj, way_no e]
      rw [this]
      exact ⟨by omega, j, hk⟩
    · obtain ⟨q, hq⟩ : ∃ q : Nat, ns[j].parent = q := ⟨ns[j].parent.toNat, by omega⟩
      rw [hq] at p1
      have hql : q < ns.length := by omega
      have : targetOf ns j = targetOf ns q := by
        unfold targetOf
        rw [way_yes hw hj, hq, way_yes hw hql]
        simp
      rw [this]
      exact ih q (by omega) hql
theorem step_len (ns : List Nd) (os : List Bool) (x : Stp) : ns.length ≤ (stepOf ns os x).ns.length ∧ (stepOf ns os x).ns.length ≤ ns.length + 1 ∧ ns <+: (stepOf ns os x).ns := by
  rcases (step_grows ns os x).nodes with e | ⟨n, e⟩
  · rw [e]; exact ⟨Nat.le_refl _, by omega, List.prefix_refl _⟩
  · rw [e]; exact ⟨by simp, by simp, List.prefix_append _ _⟩
theorem agg6 (n : Nd) : n.agg = .agg #[.int .i64 n.parent, .int .i64 n.gate, .int .i64 n.rights, .int .i64 n.cell, .int .i64 n.plugin, .int .i64 n.func] := rfl
end Go.Proofs.Ytclkaamcoicgcae.Gr
namespace Go.Proofs.Ytclkaamcoicgcae.Gr
open Go.ChangeShapes Go.WideShapes Go.ChangeAt Go.RowKit
/-- The graph beside the document's net, in agreement. -/
structure Pair (B : Nat) (w0 w : World) (gb : Nat) (vn vo : Value) (rb : Nat) (vn2 vo2 : Value) (ns : List Nd) (os : List Bool) : Prop where
  g : GS 70 B w gb vn vo ns os
  r : GS 45 B w rb vn2 vo2 ns (os.map (! ·))
  bes : Beside gb vn vo rb vn2 vo2
  below : Below B w0 w
section
variable {B : Nat} {w0 w w' : World} {gb rb : Nat} {vn vo vn2 vo2 vn' vo' vn2' vo2' : Value} {ns : List Nd} {os : List Bool}
theorem Pair.quiet (h : Pair B w0 w gb vn vo rb vn2 vo2 ns os) (hq : Quiet w w') : Pair B w0 w' gb vn vo rb vn2 vo2 ns os :=
  ⟨h.g.quiet hq, h.r.quiet hq, h.bes, hq.qbelow h.g.size h.below⟩
theorem Pair.start (h : GS 70 B w gb (.slice none 0 0) (.slice none 0 0) [] []) (hb : Below B w0 w) : Pair B w0 (w.alloc (.cells #[.slice none 0 0, .slice none 0 0] 45)) gb (.slice none 0 0) (.slice none 0 0) w.heap.size (.slice none 0 0) (.slice none 0 0) [] [] := by
  refine ⟨h.quiet (Kp.alloc _ _), GS.new w 45 h.size, fun k e1 e2 => ?_, hb.alloc h.size _⟩
  have := own_none e1
  have := own_none e2
  have := h.lt
  omega
theorem Pair.two (h : Pair B w0 w gb vn vo rb vn2 vo2 ns os) {x : Stp} (g' : GS 70 B w' gb vn' vo' (stepOf ns os x).ns (stepOf ns os x).os) (r' : GS 45 B w' rb vn2' vo2' (nstepOf ns (os.map (! ·)) x).ns (nstepOf ns (os.map (! ·)) x).os) (T : Two gb vn vo rb vn2 vo2 w vn' vo' vn2' vo2' w') :
    Pair B w0 w' gb vn' vo' rb vn2' vo2' (stepOf ns os x).ns (stepOf ns os x).os := by
  refine ⟨g', ?_, T.beside, h.below.trans (T.kp.below h.g.size fun k hk => ?_)⟩
  · rw [step_shut, (step_same ns os (os.map (! ·)) x (List.length_map _)).2.2] at r'; exact r'
  · rcases hk with e | e
    · exact (h.g.own k e).1
    · exact (h.r.own k e).1
theorem Two.block (T : Two gb vn vo rb vn2 vo2 w vn' vo' vn2' vo2' w') {x : Nat} {o : Obj} (hx : w.heap[x]? = some o) (h1 : ¬ Own gb vn vo x) (h2 : ¬ Own rb vn2 vo2 x) : w'.heap[x]? = some o :=
  (T.kp.block x (lt_of_block hx) fun e => e.elim h1 h2).trans hx
theorem Pair.out (h : Pair B w0 w gb vn vo rb vn2 vo2 ns os) (x : Nat) (hx : w.heap.size ≤ x) : ¬ Own gb vn vo x ∧ ¬ Own rb vn2 vo2 x :=
  ⟨fun e => by have := (h.g.own x e).2; omega, fun e => by have := (h.r.own x e).2; omega⟩
end
end Go.Proofs.Ytclkaamcoicgcae.Gr
