/- The arguments of the laws on package graph, opened: a list of steps, and a step. -/
import Derived.Test.YtclkaamcoicgcaeJPair
import Derived.Deep.Slices
namespace Go.Proofs.Ytclkaamcoicgcae.Gr
open Go.ChangeShapes Go.WideShapes Go.ChangeAt Go.RowKit
theorem Try.cellsS : Try.prog.cellsOf 62 = 5 := by kernel_rfl
theorem Try.cellsI : Try.prog.cellsOf 3 = 1 := by kernel_rfl
theorem take_one {α : Type} (l : List α) (i : Nat) (a : α) (h : (l.drop i).take 1 = [a]) : l[i]? = some a := by
  have : ((l.drop i).take 1)[0]? = some a := by rw [h]; rfl
  simpa [List.getElem?_take, List.getElem?_drop] using this
section
variable {H : Type} {enc : TypeId × Value → H} {w : World} {base : Nat} {spare : Nat → Bool} {held : Bool}
theorem openStep {fuel : Nat} {cs : List Value} {x : DataW H × List MemPlace} (h : DataW.trod enc Try.prog w base spare held fuel 62 cs = some x) :
    ∃ s : Stp, cs = [.int .i64 s.d, .int .i64 s.a, .int .i64 s.b, .int .i64 s.c, .int .i64 s.e] := by
  obtain ⟨xs, n, _, rfl, hl, hxl, hf⟩ := DataW.trod_struct Try.underlying62 h
  rw [Try.cellsS] at hl
  have one : ∀ (i : Nat) (f : Field), i < 5 → f.type = 3 → f.offset = i → DataW.trod enc Try.prog w base spare held n f.type ((cs.drop f.offset).take (Try.prog.cellsOf f.type)) = xs[i]? → ∃ z, cs[i]? = some (.int .i64 z) := by
    intro i f hi h1 h2 h3
    rw [List.getElem?_eq_getElem (by simpa [hxl] using hi), h1, h2, Try.cellsI] at h3
    obtain ⟨z, hz, _⟩ := DataW.trod_int Try.underlying3 h3
    exact ⟨z, take_one _ _ _ hz⟩
  obtain ⟨z0, e0⟩ := one 0 _ (by decide) rfl rfl (hf 0 _ rfl)
  obtain ⟨z1, e1⟩ := one 1 _ (by decide) rfl rfl (hf 1 _ rfl)
  obtain ⟨z2, e2⟩ := one 2 _ (by decide) rfl rfl (hf 2 _ rfl)
  obtain ⟨z3, e3⟩ := one 3 _ (by decide) rfl rfl (hf 3 _ rfl)
  obtain ⟨z4, e4⟩ := one 4 _ (by decide) rfl rfl (hf 4 _ rfl)
  match cs, hl with
  | [a0, a1, a2, a3, a4], _ =>
    simp only [List.getElem?_cons_zero, List.getElem?_cons_succ, Option.some.injEq] at e0 e1 e2 e3 e4
    exact ⟨⟨z0, z1, z2, z3, z4⟩, by rw [e0, e1, e2, e3, e4]⟩
theorem openSteps {ao : Option Addr} {len cap : Nat} {d : DataW H} {ps : List MemPlace} (h : DataW.Trod enc Try.prog w 0 (fun _ => true) true 22 (.slice ao len cap) d ps) :
    ∃ ss : List Stp, ss.length = len ∧ Lies w ao ss := by
  obtain ⟨fuel, hf⟩ := h
  rcases Deep.open_slice Try.underlying22 hf with ⟨h0, _⟩ | ⟨a, len', cap', m, n, D, Pl, h0, hb, hl, hm, hmm, _, hx⟩
  · simp only [Value.cells, List.cons.injEq, Value.slice.injEq, and_true] at h0
    obtain ⟨rfl, rfl, rfl⟩ := h0
    exact ⟨[], rfl, fun k hk => absurd hk (by simp)⟩
  · simp only [Value.cells, List.cons.injEq, Value.slice.injEq, and_true] at h0
    obtain ⟨rfl, rfl, rfl⟩ := h0
    rw [if_pos rfl] at hmm
    subst hmm
    rw [Try.cellsS] at hx
    have key : ∀ k, k < len → ∃ s : Stp, ∃ b off, a = ⟨b, off, none⟩ ∧ b < w.heap.size ∧
        w.cell? ⟨b, off + k * 5, none⟩ = some (.int .i64 s.d) ∧ w.cell? ⟨b, off + k * 5 + 1, none⟩ = some (.int .i64 s.a) ∧ w.cell? ⟨b, off + k * 5 + 2, none⟩ = some (.int .i64 s.b) ∧ w.cell? ⟨b, off + k * 5 + 3, none⟩ = some (.int .i64 s.c) ∧ w.cell? ⟨b, off + k * 5 + 4, none⟩ = some (.int .i64 s.e) := by
      intro k hk
      obtain ⟨cs', hc, ht⟩ := hx k (by omega)
      obtain ⟨s, rfl⟩ := openStep ht
      obtain ⟨_, _, hcell⟩ := World.cells?_some hc
      obtain ⟨b, off, spot⟩ := a
      have h0 := hcell 0 (by decide)
      have h1 := hcell 1 (by decide)
      have h2 := hcell 2 (by decide)
      have h3 := hcell 3 (by decide)
      have h4 := hcell 4 (by decide)
      rw [Deep.add_add] at h0 h1 h2 h3 h4
      have hspot : spot = none := by
        obtain ⟨cs0, hc0, ht0⟩ := hx 0 (by omega)
        obtain ⟨s0, rfl⟩ := openStep ht0
        obtain ⟨_, _, hcell0⟩ := World.cells?_some hc0
        simpa [Addr.add] using World.cell?_spot (hcell0 0 (by decide))
      subst hspot
      simp only [Addr.add_lit, List.getElem?_cons_zero, List.getElem?_cons_succ, Nat.add_zero] at h0 h1 h2 h3 h4
      exact ⟨s, b, off, rfl, World.block_lt_of_cell? w _ h0, h0, h1, h2, h3, h4⟩
    haveI : Inhabited Stp := ⟨⟨0, 0, 0, 0, 0⟩⟩
    obtain ⟨f, hF⟩ := Deep.choose_lt key
    refine ⟨(List.range len).map f, by simp, fun k hk => ?_⟩
    obtain ⟨b, off, rfl, rest⟩ := hF k (by simpa using hk)
    refine ⟨b, off, rfl, ?_⟩
    simpa using rest
end
end Go.Proofs.Ytclkaamcoicgcae.Gr
