/- What the listed variables give: a table of texts. -/
import Derived.Test.YtbcfbelfeaakoadDoorXLib
import Derived.LaidLaws
import Derived.ChangeArms
import Derived.Lib.LaidTab
namespace Go.Proofs.YtbcfbelfeaakoadDoor
open Go.ChangeShapes Go.WideShapes Go.ChangeAt Go.RowKit
/-- A text's datum and a text's cell say one another. -/
def saysText {H : Type} (d : DataW H) (v : Value) : Prop := ∃ s : ByteArray, v = .string s ∧ d = .lit (.string s.data.toList)
/-- An array whose elements are texts: as many data as cells, each pair says the same text. -/
theorem array_says {H : Type} {enc : TypeId × Value → H} {P : Program} {w : World} {base : Nat} {sp : Nat → Bool} {held : Bool} {fuel : Nat} {t e : TypeId} {n : Nat} {cs : List Value} {ds : List (DataW H)} {p : List MemPlace}
    (ht : P.underlying t = some (.array n e)) (he : P.underlying e = some .string) (hce : P.cellsOf e = 1) (hct : P.cellsOf t = n)
    (h : DataW.trod enc P w base sp held fuel t cs = some (.agg ds, p)) : cs.length = n ∧ ds.length = n ∧ ∀ i, i < n → ∃ d v, ds[i]? = some d ∧ cs[i]? = some v ∧ saysText d v := by
  rcases fuel with _ | fuel
  · simp [DataW.trod] at h
  simp only [DataW.trod, ht, hce, hct, Nat.mul_one] at h
  by_cases hl : cs.length = n
  · rw [if_pos hl, Option.map_eq_some_iff] at h
    obtain ⟨xs, hm, hx⟩ := h
    have hd : ds = xs.map (·.1) := by
      simp only [Prod.mk.injEq, DataW.agg.injEq] at hx
      exact hx.1.symm
    have hn : xs.length = n := (Lib.mapM_length hm).trans (by simp)
    refine ⟨hl, by rw [hd, List.length_map]; exact hn, fun i hi => ?_⟩
    have hr : (List.range n)[i]? = some i := by simp [hi]
    obtain ⟨y, hy, hf⟩ := Lib.mapM_at hm i i hr
    obtain ⟨s, hs, hys, _⟩ := DataW.trod_string he hf
    refine ⟨y.1, .string s, by rw [hd, List.getElem?_map, hy]; rfl, ?_, s, rfl, by rw [hys]⟩
    have := congrArg List.head? hs
    rw [List.head?_take, if_neg (by decide), List.head?_drop] at this
    exact this
  · rw [if_neg hl] at h; cases h
/-- An array of texts that reads as a table holds the table's texts. -/
theorem cells_of_strs {H : Type} {enc : TypeId × Value → H} {P : Program} {w : World} {base : Nat} {sp : Nat → Bool} {held : Bool} {fuel : Nat} {t e : TypeId} {n : Nat} {cs : List Value} {zs : List (List UInt8)} {p : List MemPlace}
    (ht : P.underlying t = some (.array n e)) (he : P.underlying e = some .string) (hce : P.cellsOf e = 1) (hct : P.cellsOf t = n)
    (h : DataW.trod enc P w base sp held fuel t cs = some (.agg (zs.map fun z => .lit (.string z)), p)) : cs = strs zs := by
  obtain ⟨h1, h2, h3⟩ := array_says ht he hce hct h
  rw [List.length_map] at h2
  refine List.ext_getElem (by rw [h1, strs, List.length_map, h2]) fun i hi _ => ?_
  obtain ⟨d, v, hd, hv, s, rfl, rfl⟩ := h3 i (by omega)
  rw [List.getElem?_map, List.getElem?_eq_getElem (by omega), Option.map_some] at hd
  rw [List.getElem?_eq_getElem hi] at hv
  simp only [Option.some.injEq, DataW.lit.injEq, Lit.string.injEq] at hd hv
  rw [hv]
  simp only [strs, List.getElem_map, hd]
end Go.Proofs.YtbcfbelfeaakoadDoor
