/- What the program asks of the library for a text: a number's digits; the tables of words. -/
import Derived.Test.YtbcfbelfeaakoadDoorXShelf
import Derived.Test.YtbcfbelfeaakoadDoorGPlain
import Derived.Test.YtbcfbelfeaakoadDoorGBase
namespace Go.Proofs.YtbcfbelfeaakoadDoor
open Go.ChangeShapes Go.WideShapes Go.ChangeAt Go.RowKit
def strs (L : List (List UInt8)) : List Value := L.map fun s => .string ⟨s.toArray⟩
/-- What package-level variables are read: the powers of ten, the words, the arithmetics. -/
structure Laid (w : World) : Prop where
  tab : Lib.TabIs Tryd.prog w "internal/strconv.uint64pow10" .u64 Lib.pow10Tab
  words : w.var? Tryd.prog "letterlock/parse.words" = some (strs ([] :: wordL)).toArray
  bins : w.var? Tryd.prog "letterlock/parse.bins" = some (strs ([] :: binL)).toArray
theorem var_low {w w' : World} {n : String} {cs : Array Value} (h : w.var? Tryd.prog n = some cs) (hb : Below w.heap.size w w') : w'.var? Tryd.prog n = some cs := by
  unfold World.var? at *
  cases hg : Tryd.prog.globalNamed n with
  | none => simp [hg] at h
  | some g =>
    simp only [hg, Option.bind_some] at h ⊢
    have hlt : g < w.heap.size := by
      rcases Nat.lt_or_ge g w.heap.size with h' | h'
      · exact h'
      · rw [Array.getElem?_eq_none h'] at h; simp at h
    rw [hb.block g hlt]
    exact h
theorem Laid.low {w w' : World} (h : Laid w) (hb : Below w.heap.size w w') : Laid w' := ⟨var_low h.tab hb, var_low h.words hb, var_low h.bins hb⟩
theorem Laid.quiet {w w' : World} (h : Laid w) (q : Quiet w w') : Laid w' := h.low q.low
theorem quiet_grow (w : World) (k : Nat) (os : Array Obj) : Quiet w (Go.Sort.grow (w.drewN k) os) :=
  ⟨rfl, rfl, rfl, by simp, fun i hi _ => Go.Sort.heap_grow_old (w.drewN k) os hi⟩
theorem fmt_any (n : Int) (hn : In64 n) (w : World) (ht : Laid w) : Calls Tryd.prog 40 #[.int .i64 n, .int .i64 10] w fun e w' => e = .returned (.string ⟨(Lib.itoa n).toArray⟩) ∧ Quiet w w' := by
  refine (format_any n hn.1 hn.2 w ht.tab).mono ?_
  rintro e w' ⟨rfl, k, os, rfl⟩
  exact ⟨rfl, quiet_grow w k os⟩
theorem itoa_any (n : Int) (hn : In64 n) (w : World) (ht : Laid w) : Calls Tryd.prog 47 #[.int .i64 n] w fun e w' => e = .returned (.string ⟨(Lib.itoa n).toArray⟩) ∧ Quiet w w' := by
  refine (itoaS_any n hn.1 hn.2 w ht.tab).mono ?_
  rintro e w' ⟨rfl, k, os, rfl⟩
  exact ⟨rfl, quiet_grow w k os⟩
theorem var_cell {w : World} {n : String} {g : Nat} {cs : List Value} (h : w.var? Tryd.prog n = some cs.toArray) (hg : Tryd.prog.globalNamed n = some g) (i : Nat) (v : Value) (hi : cs[i]? = some v) : w.cell? ⟨g, i, none⟩ = some v := by
  unfold World.var? at h
  rw [hg] at h
  simp only [Option.bind_some] at h
  split at h
  · rename_i c t z hc
    cases h
    simp [World.cell?, hc, hi]
  · cases h
theorem Tryd.gW : Tryd.prog.globalNamed "letterlock/parse.words" = some 0 := by kernel_rfl
theorem Tryd.gB : Tryd.prog.globalNamed "letterlock/parse.bins" = some 1 := by kernel_rfl
theorem strs_get (L : List (List UInt8)) (k : Nat) (h : k ≤ L.length) : (strs ([] :: L))[k]? = some (.string ⟨(nameIn L (k : Int)).toArray⟩) := by
  cases k with
  | zero => simp [strs, name_past]
  | succ k =>
    rw [name_at L (k + 1) (by omega) h]
    simp only [strs, List.map_cons, List.getElem?_cons_succ, List.getElem?_map]
    rw [List.getElem?_eq_getElem (by omega)]
    rfl
theorem word_any (k : Int) (w : World) (hw : Laid w) : Calls Tryd.prog 16 #[.int .i64 k] w fun e w' => e = .returned (.string ⟨(nameIn wordL k).toArray⟩) ∧ w' = w := by
  by_cases h0 : k < 0
  · have hE := hid (name_past wordL k (.inl (by omega)))
    go_enter Tryd.func16, Tryd.ntmps16
    go_wp2
    go_ret
    exact ⟨by rw [hE.out]; rfl, rfl⟩
  · obtain ⟨n, rfl⟩ : ∃ n : Nat, k = (n : Int) := ⟨k.toNat, by omega⟩
    by_cases h1 : 22 ≤ n
    · have hE := hid (name_past wordL (n : Int) (.inr (by rw [wordL_len]; omega)))
      have h1' : (22 : Int) ≤ (n : Int) := by omega
      clear h1
      go_enter Tryd.func16, Tryd.ntmps16
      go_wp2
      go_ret
      exact ⟨by rw [hE.out]; rfl, rfl⟩
    · have hc := var_cell hw.words Tryd.gW n _ (strs_get wordL n (by rw [wordL_len]; omega))
      have h1' : ¬ (22 : Int) ≤ (n : Int) := by omega
      have h2 : n < 22 := by omega
      clear hw h1
      go_enter Tryd.func16, Tryd.ntmps16
      go_wp2
      go_ret
      exact ⟨rfl, rfl⟩
theorem bin_any (k : Int) (w : World) (hw : Laid w) : Calls Tryd.prog 17 #[.int .i64 k] w fun e w' => e = .returned (.string ⟨(nameIn binL k).toArray⟩) ∧ w' = w := by
  by_cases h0 : k < 0
  · have hE := hid (name_past binL k (.inl (by omega)))
    go_enter Tryd.func17, Tryd.ntmps17
    go_wp2
    go_ret
    exact ⟨by rw [hE.out]; rfl, rfl⟩
  · obtain ⟨n, rfl⟩ : ∃ n : Nat, k = (n : Int) := ⟨k.toNat, by omega⟩
    by_cases h1 : 6 ≤ n
    · have hE := hid (name_past binL (n : Int) (.inr (by rw [binL_len]; omega)))
      have h1' : (6 : Int) ≤ (n : Int) := by omega
      clear h1
      go_enter Tryd.func17, Tryd.ntmps17
      go_wp2
      go_ret
      exact ⟨by rw [hE.out]; rfl, rfl⟩
    · have hc := var_cell hw.bins Tryd.gB n _ (strs_get binL n (by rw [binL_len]; omega))
      have h1' : ¬ (6 : Int) ≤ (n : Int) := by omega
      have h2 : n < 6 := by omega
      clear hw h1
      go_enter Tryd.func17, Tryd.ntmps17
      go_wp2
      go_ret
      exact ⟨rfl, rfl⟩
end Go.Proofs.YtbcfbelfeaakoadDoor
