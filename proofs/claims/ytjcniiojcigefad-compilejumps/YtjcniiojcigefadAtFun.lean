/- What one place holds is one thing. -/
import Derived.Test.YtjcniiojcigefadMem
namespace Go.Proofs.Ytjcniiojcigefad
open Go.ChangeShapes Go.WideShapes Go.ChangeAt Go.RowKit
theorem head_fun {w : World} {v u : V} {b off : Nat} (h : v.head w b off) (h' : u.head w b off) : v.kind = u.kind ∧ v.k = u.k ∧ v.n = u.n := by
  obtain ⟨a1, a2, a3⟩ := h; obtain ⟨b1, b2, b3⟩ := h'
  rw [a1] at b1; rw [a2] at b2; rw [a3] at b3
  simp only [Option.some.injEq, Value.int.injEq, true_and] at b1 b2 b3
  exact ⟨b1, b2, b3⟩
theorem at_fun {w : World} (v : V) : ∀ (u : V) (b off : Nat), v.at w b off → u.at w b off → v = u := by
  induction v using V.ind' with
  | h v ih =>
    intro u b off hv hu
    rw [at_iff] at hv hu
    obtain ⟨c0, ao, cap, c2, hI⟩ := hv
    obtain ⟨d0, ao', cap', d2, hU⟩ := hu
    rw [c2] at d2
    simp only [Option.some.injEq, Value.slice.injEq] at d2
    obtain ⟨rfl, hlen, _⟩ := d2
    rw [v_ext]
    refine ⟨head_fun c0 d0, ?_⟩
    refine List.ext_getElem hlen fun i h1 h2 => ?_
    obtain ⟨b1, o1, e1, k1⟩ := hI.fo i h1
    obtain ⟨b2, o2, e2, k2⟩ := hU.fo i h2
    rw [e1] at e2; cases e2
    exact ih _ (List.getElem_mem h1) _ _ _ k1 k2
end Go.Proofs.Ytjcniiojcigefad
