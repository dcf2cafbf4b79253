/- A list of numbers that came in, opened. -/
import Derived.Test.YtclkaamcoicgcaeJLook
import Derived.Test.YtclkaamcoicgcaeOpen
import Derived.Deep.Slices
namespace Go.Proofs.Ytclkaamcoicgcae
open Go.ChangeShapes Go.WideShapes Go.ChangeAt Go.RowKit
open Gr (IntsAt)
section
variable {H : Type} {enc : TypeId × Value → H} {w : World}
theorem openInts {ao : Option Addr} {len cap : Nat} {d : DataW H} {ps : List MemPlace} (h : DataW.Trod enc Try.prog w 0 (fun _ => true) true 26 (.slice ao len cap) d ps) :
    ∃ gs : List Int, gs.length = len ∧ IntsAt w ao gs := by
  obtain ⟨fuel, hf⟩ := h
  rcases Deep.open_slice Try.underlying26 hf with ⟨h0, _⟩ | ⟨a, len', cap', m, n, D, Pl, h0, hb, hl, hm, hmm, _, hx⟩
  · simp only [Value.cells, List.cons.injEq, Value.slice.injEq, and_true] at h0
    obtain ⟨rfl, rfl, rfl⟩ := h0
    exact ⟨[], rfl, fun k hk => absurd hk (by simp)⟩
  · simp only [Value.cells, List.cons.injEq, Value.slice.injEq, and_true] at h0
    obtain ⟨rfl, rfl, rfl⟩ := h0
    rw [if_pos rfl] at hmm
    subst hmm
    rw [Try.cellsI] at hx
    have key : ∀ k, k < len → ∃ z : Int, ∃ b off, a = ⟨b, off, none⟩ ∧ w.cell? ⟨b, off + k, none⟩ = some (.int .i64 z) := by
      intro k hk
      obtain ⟨cs', hc, ht⟩ := hx k (by omega)
      obtain ⟨z, rfl, _⟩ := DataW.trod_int Try.underlying3 ht
      obtain ⟨_, _, hcell⟩ := World.cells?_some hc
      obtain ⟨b, off, spot⟩ := a
      have h0 := hcell 0 (by decide)
      rw [Deep.add_add] at h0
      have hspot : spot = none := by
        obtain ⟨cs0, hc0, ht0⟩ := hx 0 (by omega)
        obtain ⟨z0, rfl, _⟩ := DataW.trod_int Try.underlying3 ht0
        obtain ⟨_, _, hcell0⟩ := World.cells?_some hc0
        simpa [Addr.add] using World.cell?_spot (hcell0 0 (by decide))
      subst hspot
      simp only [Addr.add_lit, List.getElem?_cons_zero, Nat.add_zero, Nat.mul_one] at h0
      exact ⟨z, b, off, rfl, h0⟩
    obtain ⟨f, hF⟩ := Deep.choose_lt key
    refine ⟨(List.range len).map f, by simp, fun k hk => ?_⟩
    obtain ⟨b, off, rfl, rest⟩ := hF k (by simpa using hk)
    refine ⟨b, off, rfl, ?_⟩
    simpa using rest
end
end Go.Proofs.Ytclkaamcoicgcae
