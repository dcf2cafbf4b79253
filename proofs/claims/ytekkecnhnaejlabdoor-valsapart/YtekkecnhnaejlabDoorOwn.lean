/- The contract of Own: lists that are still to be copied. -/
import Derived.Test.YtekkecnhnaejlabDoorOwnMem
import Derived.Test.YtekkecnhnaejlabDoorMore
import Derived.Test.YtekkecnhnaejlabDoorListOf
import Derived.Carry
namespace Go.Proofs.YtekkecnhnaejlabDoor
open Go.ChangeShapes Go.WideShapes Go.ChangeAt Go.RowKit
set_option maxHeartbeats 1000000 in
theorem with_any (v : V) (ao a : Option Addr) (cap n c : Nat) (w : World) : Calls Tryd.prog 32 #[.agg #[.int .i64 v.kind, .int .i64 v.n, .slice ao v.l.length cap], .slice a n c] w fun e w' => e = .returned (.agg #[.int .i64 v.kind, .int .i64 v.n, .slice a n c]) ∧ Quiet w w' := by
  go_enter Tryd.func32, Tryd.ntmps32
  go_wp2
  refine bodyPost_ret (v := .agg #[.int .i64 v.kind, .int .i64 v.n, .slice a n c]) (by simp [results, Tryd.results32, go_sem]) rfl ?_
  exact ⟨rfl, (Kp.alloc _ _).trans (Kp.alloc _ _)⟩
/-- The state of the loop: the lists that are still to be copied; what was made. -/
structure NS (r : Nat) (W : World) (l : List V) (ra : Option Addr) (sv : Value) (ts : List Pl) (w : World) : Prop where
  row : w.ownsRow W.heap.size 22 1 sv ts.length (ts.map slv)
  root : Fo (cutV r W.heap.size w) l ra
  all : ∀ x ∈ ts, Fo (cutV r W.heap.size w) x.1 x.2.1 ∧ (x.1 ≠ [] → ∃ b, x.2.1 = some ⟨b, 0, none⟩ ∧ W.heap.size ≤ b ∧ IsV w b)
  low : Below W.heap.size W w
theorem NS.keeps {r : Nat} {W w w' : World} {l : List V} {ra : Option Addr} {sv : Value} {ts : List Pl} (hr0 : r < W.heap.size) (H : NS r W l ra sv ts w) (hk : Keeps r W.heap.size w w') (hr : w'.ownsRow W.heap.size 22 1 sv ts.length (ts.map slv)) (hl : Below W.heap.size W w') : NS r W l ra sv ts w' :=
  ⟨hr, H.root.kept hk.cell, fun x hx => by
    obtain ⟨h1, h2⟩ := H.all x hx
    refine ⟨h1.kept hk.cell, fun h => ?_⟩
    obtain ⟨b, e, h3, h4⟩ := h2 h
    exact ⟨b, e, h3, hk.isV (by omega) h4⟩, hl⟩
theorem NS.quiet {r : Nat} {W w w' : World} {l : List V} {ra : Option Addr} {sv : Value} {ts : List Pl} (hr0 : r < W.heap.size) (H : NS r W l ra sv ts w) (q : Quiet w w') : NS r W l ra sv ts w' :=
  H.keeps hr0 (Keeps.quiet q H.low.size) (q.row H.row fun _ _ e => e) (low_of H.low q H.low.size)
/-- One list more is to be copied. -/
theorem NS.push {r : Nat} {W w w1 : World} {l : List V} {ra : Option Addr} {sv : Value} {ts : List Pl} {x : Pl} {g cap n : Nat} {o : Obj} (hr0 : r < W.heap.size) (H : NS r W l ra sv ts w) (hx : Fo (cutV r W.heap.size w) x.1 x.2.1 ∧ (x.1 ≠ [] → ∃ b, x.2.1 = some ⟨b, 0, none⟩ ∧ W.heap.size ≤ b ∧ IsV w b)) (hn : n = ts.length)
    (hr1 : w1.ownsRow W.heap.size 22 1 (.slice (some ⟨g, 0, none⟩) (n + 1) cap) (n + 1) (ts.map slv ++ [slv x])) (hg : (w.alloc o).grownBy w1 sv.ownBlock) :
    NS r W l ra (.slice (some ⟨g, 0, none⟩) (n + 1) cap) (ts ++ [x]) w1 ∧ Keeps r W.heap.size w w1 := by
  subst hn
  have hsz := H.low.size
  have k1 : Keeps r W.heap.size w w1 := (Keeps.quiet (Kp.alloc _ _) hsz).trans (Keeps.grown (H.row.alloc _) (by decide) (Nat.le_refl _) hg (by simp; omega))
  have hp := push_row (x := x) H.low hsz H.row rfl hr1 hg
  refine ⟨⟨hp.1, H.root.kept k1.cell, fun y hy => ?_, hp.2⟩, k1⟩
  have hy' : Fo (cutV r W.heap.size w) y.1 y.2.1 ∧ (y.1 ≠ [] → ∃ b, y.2.1 = some ⟨b, 0, none⟩ ∧ W.heap.size ≤ b ∧ IsV w b) := by
    rcases List.mem_append.1 hy with hy | hy
    · exact H.all y hy
    · simp at hy; subst hy; exact hx
  refine ⟨hy'.1.kept k1.cell, fun h => ?_⟩
  obtain ⟨b, e, h3, h4⟩ := hy'.2 h
  exact ⟨b, e, h3, k1.isV (by omega) h4⟩
/-- A thing's list is exchanged for a copy of it. -/
theorem NS.write {r : Nat} {W w w' : World} {l : List V} {ra : Option Addr} {sv : Value} {ts : List Pl} {u : V} {b off cap' : Nat} {ao' : Option Addr} (hr0 : r < W.heap.size) (H : NS r W l ra sv ts w) (hu : u.at (cutV r W.heap.size w) b off) (hb : W.heap.size ≤ b) (hv : IsV w b) (hF : Fo (cutV r W.heap.size w) u.l ao') (hw : Wrt w w' b off (.slice ao' u.l.length cap')) :
    NS r W l ra sv ts w' ∧ (∀ x ax, Fo (cutV r W.heap.size w) x ax → Fo (cutV r W.heap.size w') x ax) ∧ ∀ k, IsV w k → IsV w' k := by
  have V5 : ∀ k, IsV w k → IsV w' k := by
    rintro k ⟨c, hk⟩
    exact hw.kind _ _ _ _ hk
  have K1 : ∀ (a : Addr) (x : Value), a ≠ ⟨b, off + 2, none⟩ → (cutV r W.heap.size w).cell? a = some x → (cutV r W.heap.size w').cell? a = some x := by
    intro a x hne hx
    obtain ⟨h1, hr, h3⟩ := cutV_cell hx
    rcases h3 with h3 | ⟨c, z, h3⟩
    · exact cutV_mk (hw.cell a x hne h1) hr (.inl h3)
    · obtain ⟨c', h5⟩ := hw.kind _ _ _ _ h3
      exact cutV_mk (hw.cell a x hne h1) hr (.inr ⟨c', z, h5⟩)
  have K2 : (cutV r W.heap.size w').cell? ⟨b, off + 2, none⟩ = some (.slice ao' u.l.length cap') := by
    obtain ⟨c, hc⟩ := V5 b hv
    exact cutV_mk hw.new (show b ≠ r by omega) (.inr ⟨c, _, hc⟩)
  have T : ∀ x ax, Fo (cutV r W.heap.size w) x ax → Fo (cutV r W.heap.size w') x ax := by
    intro x ax hf i hi
    obtain ⟨bb, oo, e, k⟩ := hf i hi
    exact ⟨bb, oo, e, at_write hu K1 K2 hF _ _ _ _ (Nat.le_refl _) k⟩
  refine ⟨⟨?_, T _ _ H.root, fun x hx => ?_, ?_⟩, T, V5⟩
  · refine hw.kp.row H.row fun k e hk => ?_
    subst hk
    obtain ⟨c, hc⟩ := hv
    rcases H.row.2 with ⟨rfl, _⟩ | ⟨g, cp, cur, rfl, _, hh, _⟩
    · simp [Value.ownBlock] at e
    · simp [Value.ownBlock] at e; subst e; rw [hh] at hc; simp at hc
  · obtain ⟨h1, h2⟩ := H.all x hx
    refine ⟨T _ _ h1, fun h => ?_⟩
    obtain ⟨b, e, h3, h4⟩ := h2 h
    exact ⟨b, e, h3, V5 _ h4⟩
  · exact H.low.trans (hw.kp.below H.low.size fun k e => by omega)
end Go.Proofs.YtekkecnhnaejlabDoor
