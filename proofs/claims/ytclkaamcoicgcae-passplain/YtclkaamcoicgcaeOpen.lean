/- The arguments of the laws, opened. -/
import Derived.Test.YtclkaamcoicgcaeJBase
import Derived.Deep.Slices
namespace Go.Proofs.Ytclkaamcoicgcae
open Go.ChangeShapes Go.WideShapes Go.ChangeAt Go.RowKit
theorem Try.cellsV : Try.prog.cellsOf 25 = 3 := by kernel_rfl
theorem Try.cellsL : Try.prog.cellsOf 23 = 1 := by kernel_rfl
theorem Try.cellsI : Try.prog.cellsOf 3 = 1 := by kernel_rfl
theorem Try.cellsN : Try.prog.cellsOf 2 = 1 := by kernel_rfl
theorem take_one {α : Type} (l : List α) (i : Nat) (a : α) (h : (l.drop i).take 1 = [a]) : l[i]? = some a := by
  have : ((l.drop i).take 1)[0]? = some a := by rw [h]; rfl
  simpa [List.getElem?_take, List.getElem?_drop] using this
theorem in_wf {n : Int} (h : (Lit.int .i64 n).wf = true) : In64 n := by
  have h1 : IntKind.i64.min = -9223372036854775808 := by decide
  have h2 : IntKind.i64.max = 9223372036854775807 := by decide
  simp only [Lit.wf, Bool.and_eq_true, decide_eq_true_eq, h1, h2] at h
  exact h
section
variable {H : Type} {enc : TypeId × Value → H} {w : World} {base : Nat} {spare : Nat → Bool} {held : Bool}
/-- What reads as a value is one, in memory. -/
theorem openV (m : Nat) : ∀ {fuel : Nat} {cs : List Value} {x : DataW H × List MemPlace}, SizeOf.sizeOf x.1 < m → DataW.trod enc Try.prog w 0 (fun _ => true) true fuel 25 cs = some x →
    ∃ (v : V) (ao : Option Addr) (cap : Nat), cs = [.int .i64 v.kind, .int .i64 v.n, .slice ao v.l.length cap] ∧ Is w v ao := by
  induction m with
  | zero => intro _ _ _ h; omega
  | succ m ih =>
    intro fuel cs x hs h
    obtain ⟨xs, n, hn, rfl, hl, hxl, hf⟩ := DataW.trod_struct Try.underlying25 h
    rw [Try.cellsV] at hl
    have hx3 : xs.length = 3 := hxl
    have f0 : DataW.trod enc Try.prog w 0 (fun _ => true) true n 3 ((cs.drop 0).take (Try.prog.cellsOf 3)) = xs[0]? := hf 0 _ rfl
    have f1 : DataW.trod enc Try.prog w 0 (fun _ => true) true n 2 ((cs.drop 1).take (Try.prog.cellsOf 2)) = xs[1]? := hf 1 _ rfl
    have f2 : DataW.trod enc Try.prog w 0 (fun _ => true) true n 23 ((cs.drop 2).take (Try.prog.cellsOf 23)) = xs[2]? := hf 2 _ rfl
    rw [Try.cellsI] at f0
    rw [Try.cellsN] at f1
    rw [Try.cellsL] at f2
    rw [List.getElem?_eq_getElem (by omega)] at f0 f1 f2
    obtain ⟨k, hk, _, hkw⟩ := DataW.trod_int Try.underlying3 f0
    obtain ⟨q, hq, _, hqw⟩ := DataW.trod_int Try.underlying2 f1
    have e0 := take_one _ _ _ hk
    have e1 := take_one _ _ _ hq
    have hmem : xs[2].1 ∈ xs.map (·.1) := List.mem_map_of_mem (List.getElem_mem _)
    have hsz := List.sizeOf_lt_of_mem hmem
    have hs2 : SizeOf.sizeOf xs[2].1 < m := by simp only [DataW.agg.sizeOf_spec] at hs; omega
    have fin : ∀ (l : List V) (ao : Option Addr) (cap : Nat), (cs.drop 2).take 1 = [.slice ao l.length cap] → Fo w l ao → ∃ (v : V) (ao : Option Addr) (cap : Nat), cs = [.int .i64 v.kind, .int .i64 v.n, .slice ao v.l.length cap] ∧ Is w v ao := by
      intro l ao cap h2 hfo
      have e2 := take_one _ _ _ h2
      refine ⟨⟨k, q, l⟩, ao, cap, ?_, ⟨in_wf hkw, in_wf hqw⟩, hfo⟩
      match cs, hl, e0, e1, e2 with
      | [a0, a1, a2], _, e0, e1, e2 =>
        simp only [List.getElem?_cons_zero, List.getElem?_cons_succ, Option.some.injEq] at e0 e1 e2
        rw [e0, e1, e2]
    rcases Deep.open_slice Try.underlying23 f2 with ⟨h0, _⟩ | ⟨a, len, cap, m', n', D, Pl, h0, hb, hle, hm, hmm, hxx, hx⟩
    · exact fin [] none 0 h0 (fun i hi => by simp at hi)
    · rw [if_pos rfl] at hmm
      subst hmm
      rw [Try.cellsV] at hx
      have key : ∀ i, i < len → ∃ v : V, ∃ b off, a = ⟨b, off, none⟩ ∧ v.at w b (off + i * 3) := by
        intro i hi
        obtain ⟨cs', hc, ht⟩ := hx i (by omega)
        have hD : D i ∈ (List.range len).map D := List.mem_map_of_mem (List.mem_range.2 hi)
        have hDs := List.sizeOf_lt_of_mem hD
        have hsD : SizeOf.sizeOf (D i) < m := by rw [hxx] at hs2; simp only [DataW.slice.sizeOf_spec] at hs2; omega
        obtain ⟨v, ai, ci, rfl, hv⟩ := ih (x := (D i, Pl i)) hsD ht
        obtain ⟨_, _, hcell⟩ := World.cells?_some hc
        obtain ⟨b, off, spot⟩ := a
        have c0 := hcell 0 (by decide)
        have c1 := hcell 1 (by decide)
        have c2 := hcell 2 (by decide)
        rw [Deep.add_add] at c0 c1 c2
        have hspot : spot = none := by
          obtain ⟨cs0, hc0, ht0⟩ := hx 0 (by omega)
          have hD0 : D 0 ∈ (List.range len).map D := List.mem_map_of_mem (List.mem_range.2 (by omega))
          have hDs0 := List.sizeOf_lt_of_mem hD0
          have hsD0 : SizeOf.sizeOf (D 0) < m := by rw [hxx] at hs2; simp only [DataW.slice.sizeOf_spec] at hs2; omega
          obtain ⟨v0, _, _, rfl, _⟩ := ih (x := (D 0, Pl 0)) hsD0 ht0
          obtain ⟨_, _, hcell0⟩ := World.cells?_some hc0
          simpa [Addr.add] using World.cell?_spot (hcell0 0 (by decide))
        subst hspot
        simp only [Addr.add_lit, List.getElem?_cons_zero, List.getElem?_cons_succ, Nat.add_zero] at c0 c1 c2
        exact ⟨v, b, off, rfl, (at_iff _ _ _ _).2 ⟨⟨c0, c1⟩, ai, ci, c2, hv⟩⟩
      haveI : Inhabited V := ⟨⟨0, 0, []⟩⟩
      obtain ⟨f, hF⟩ := Deep.choose_lt key
      refine fin ((List.range len).map f) (some a) _ (by simpa using h0) fun i hi => ?_
      obtain ⟨b, off, rfl, rest⟩ := hF i (by simpa using hi)
      exact ⟨b, off, rfl, by simpa using rest⟩
theorem openVal {x : Value} {d : DataW H} {ps : List MemPlace} (hx : ∃ xs, x = .agg xs) (h : DataW.Trod enc Try.prog w 0 (fun _ => true) true 25 x d ps) : ∃ (v : V) (ao : Option Addr) (cap : Nat), x = .agg #[.int .i64 v.kind, .int .i64 v.n, .slice ao v.l.length cap] ∧ Is w v ao := by
  obtain ⟨fuel, hf⟩ := h
  obtain ⟨v, ao, cap, e, hI⟩ := openV (SizeOf.sizeOf d + 1) (by simp) hf
  obtain ⟨xs, rfl⟩ := hx
  refine ⟨v, ao, cap, ?_, hI⟩
  simp only [Value.cells] at e
  rw [show xs = xs.toList.toArray by simp, e]
end
end Go.Proofs.Ytclkaamcoicgcae
