/- The contract of IsDeeper: level by level, in memory that is not marked. -/
import Derived.Test.YtjcniiojcigefadMet
import Derived.Test.YtjcniiojcigefadMore
import Derived.Test.YtjcniiojcigefadAtFun
namespace Go.Proofs.Ytjcniiojcigefad
open Go.ChangeShapes Go.WideShapes Go.ChangeAt Go.RowKit
/-- The deepest of some lists. -/
def mx (ls : List Pl) : Nat := ls.foldr (fun x m => max (deeps x.1) m) 0
theorem mx_nil : mx [] = 0 := rfl
theorem mx_app (a b : List Pl) : mx (a ++ b) = max (mx a) (mx b) := by
  induction a with
  | nil => simp [mx]
  | cons x a ih => simp only [mx, List.cons_append, List.foldr_cons] at ih ⊢; rw [ih]; omega
theorem mx_one (x : Pl) : mx [x] = deeps x.1 := by simp [mx]
theorem mx_mem {ls : List Pl} {x : Pl} (h : x ∈ ls) : deeps x.1 ≤ mx ls := by
  induction ls with
  | nil => simp at h
  | cons y ls ih =>
    simp only [mx, List.foldr_cons] at ih ⊢
    rcases List.mem_cons.1 h with rfl | h
    · omega
    · have := ih h; omega
theorem mx_take (ls : List Pl) (j : Nat) (h : j < ls.length) : mx (ls.take (j + 1)) = max (mx (ls.take j)) (deeps ls[j].1) := by
  rw [List.take_add_one, mx_app, List.getElem?_eq_getElem h]; simp [mx]
/-- How many things are in some lists. -/
def ssz (ts : List Pl) : Nat := (ts.map fun x => sizes x.1).sum
theorem ssz_app (a b : List Pl) : ssz (a ++ b) = ssz a + ssz b := by simp [ssz]
theorem ssz_one (x : Pl) : ssz [x] = sizes x.1 := by simp [ssz]
theorem ssz_take (ls : List Pl) (j : Nat) (h : j < ls.length) : ssz (ls.take (j + 1)) = ssz (ls.take j) + sizes ls[j].1 := by
  rw [List.take_add_one, ssz_app, List.getElem?_eq_getElem h]; simp [ssz]
theorem ssz_take_le (ls : List Pl) (j : Nat) : ssz (ls.take j) ≤ ssz ls := by
  have h : ssz ls = ssz (ls.take j ++ ls.drop j) := by rw [List.take_append_drop]
  rw [h, ssz_app]; omega
theorem ssz_len {ts : List Pl} (h : ∀ x ∈ ts, x.1 ≠ []) : ts.length ≤ ssz ts := by
  induction ts with
  | nil => simp [ssz]
  | cons x ts ih =>
    have h1 := ih fun y hy => h y (by simp [hy])
    have h2 : 1 ≤ sizes x.1 := by have := sizes_len x.1; have := List.length_pos_iff.2 (h x (by simp)); omega
    simp [ssz] at h1 ⊢; omega
/-- Lists that lie in memory that is not marked. -/
def LieC (w : World) (ts : List Pl) : Prop := ∀ x ∈ ts, Fo (cln w) x.1 x.2.1
def kv (x : Pl) : Value := .agg #[.pointer x.2.1, .int .i64 x.1.length]
/-- What there is of the next level. -/
structure DS (W Wr : World) (bl : Value) (ks : List Pl) (es : Array MapEntry) (clock : Nat) (w : World) : Prop where
  row : w.ownsRow (Wr.heap.size + 1) 22 1 bl ks.length (ks.map slv)
  lie : LieC W ks
  ne : ∀ x ∈ ks, x.1 ≠ []
  map : w.heap[Wr.heap.size]? = some (.map es clock)
  keys : ∀ e ∈ es.toList, e.val = .agg #[] ∧ ∃ x ∈ ks, e.key = kv x
  low : Below Wr.heap.size Wr w
theorem cp_of {W w : World} {B : Nat} {x : Pl} (hl : Fo (cln W) x.1 x.2.1) (hn : x.1 ≠ []) (hB : Below B W w) (hW : W.heap.size ≤ B) : Cp w x.2.1 := by
  intro a ha
  have h0 : 0 < x.1.length := List.length_pos_iff.2 hn
  obtain ⟨b, o, e, _⟩ := hl.get 0 h0
  rw [e] at ha hl; cases ha
  obtain ⟨c, t, hc⟩ := hl.clean hn
  exact ⟨c, t, (hB.block b (by have := lt_of_block hc; omega)).trans hc⟩
theorem DS.ks {W Wr w : World} {bl : Value} {ks : List Pl} {es : Array MapEntry} {clock : Nat} (H : DS W Wr bl ks es clock w) (hW : Below W.heap.size W Wr) : Ks w es.toList := by
  intro e he
  obtain ⟨hv, x, hx, hk⟩ := H.keys e he
  exact ⟨hv, _, _, hk, cp_of (H.lie x hx) (H.ne x hx) (hW.trans (H.low.mono hW.size)) (Nat.le_refl _)⟩
theorem DS.quiet {W Wr w w' : World} {bl : Value} {ks : List Pl} {es : Array MapEntry} {clock : Nat} (H : DS W Wr bl ks es clock w) (q : Quiet w w') : DS W Wr bl ks es clock w' :=
  ⟨q.row H.row fun _ _ e => e, H.lie, H.ne, (q.block _ (lt_of_block H.map) fun e => e).trans H.map, H.keys, H.low.trans (q.below (by have := lt_of_block H.map; omega) fun _ e => e.elim)⟩
/-- A key that is there is one of those lists. -/
theorem DS.met {W Wr w : World} {bl : Value} {ks : List Pl} {es : Array MapEntry} {clock : Nat} {x : Pl} (H : DS W Wr bl ks es clock w) (hx : Fo (cln W) x.1 x.2.1) (h : hasKey es.toList x.2.1 x.1.length = true) : deeps x.1 ≤ mx ks := by
  obtain ⟨e, he, hk⟩ := List.any_eq_true.1 h
  obtain ⟨_, y, hy, hek⟩ := H.keys e he
  rw [isKey_at hek] at hk
  simp only [Bool.and_eq_true, decide_eq_true_eq] at hk
  obtain ⟨h1, h2⟩ := hk
  have h2 : x.1.length = y.1.length := by omega
  have hl : x.1 = y.1 := by
    refine List.ext_getElem h2 fun i i1 i2 => ?_
    obtain ⟨b1, o1, e1, k1⟩ := hx i i1
    obtain ⟨b2, o2, e2, k2⟩ := H.lie y hy i i2
    rw [h1, e2] at e1; cases e1
    exact at_fun _ _ _ _ k1 k2
  rw [hl]; exact mx_mem hy
theorem DS.noNil {W Wr w : World} {bl : Value} {ks : List Pl} {es : Array MapEntry} {clock : Nat} (H : DS W Wr bl ks es clock w) : hasKey es.toList none 0 = false := by
  cases h : hasKey es.toList none 0 with
  | false => rfl
  | true =>
    obtain ⟨e, he, hk⟩ := List.any_eq_true.1 h
    obtain ⟨_, y, hy, hek⟩ := H.keys e he
    rw [isKey_at hek] at hk
    simp only [Bool.and_eq_true, decide_eq_true_eq] at hk
    obtain ⟨_, h2⟩ := hk
    exact absurd (List.length_eq_zero_iff.1 (by omega)) (H.ne y hy)
/-- One list more. -/
theorem DS.push {W Wr w w5 w1 : World} {bl : Value} {ks : List Pl} {es : Array MapEntry} {clock : Nat} {x : Pl} {g cap n : Nat} {o : Obj} (H : DS W Wr bl ks es clock w) (q : Quiet w w5) (hx : Fo (cln W) x.1 x.2.1) (hne : x.1 ≠ []) (hn : n = ks.length)
    (hr1 : w1.ownsRow (Wr.heap.size + 1) 22 1 (.slice (some ⟨g, 0, none⟩) (n + 1) cap) (n + 1) (ks.map slv ++ [slv x])) (hg : ((addKey w5 Wr.heap.size es clock x.2.1 x.1.length).alloc o).grownBy w1 bl.ownBlock) :
    DS W Wr (.slice (some ⟨g, 0, none⟩) (n + 1) cap) (ks ++ [x]) (es.push { key := kv x, val := .agg #[], born := clock }) (clock + 1) w1 := by
  subst hn
  have H5 := H.quiet q
  have hz5 : (addKey w5 Wr.heap.size es clock x.2.1 x.1.length).heap.size = w5.heap.size := by simp [addKey]
  have hlt := lt_of_block H5.map
  refine ⟨by simpa using hr1, fun y hy => ?_, fun y hy => ?_, ?_, fun e he => ?_, ?_⟩
  · rcases List.mem_append.1 hy with hy | hy
    · exact H.lie y hy
    · simp at hy; subst hy; exact hx
  · rcases List.mem_append.1 hy with hy | hy
    · exact H.ne y hy
    · simp at hy; subst hy; exact hne
  · rw [hg.block Wr.heap.size (by simp; omega) (fun e => by have := (H5.row.lt _ e.symm).1; omega), Below.heap_alloc _ _ _ (by omega)]
    exact addKey_at H5.map
  · simp only [Array.toList_push, List.mem_append, List.mem_singleton] at he
    rcases he with he | rfl
    · obtain ⟨h1, y, hy, h2⟩ := H.keys e he
      exact ⟨h1, y, by simp [hy], h2⟩
    · exact ⟨rfl, x, by simp, rfl⟩
  · refine ⟨?_, ?_, ?_, ?_, fun k hk => ?_⟩
    · exact (hg.os.trans rfl).trans H5.low.os
    · exact (hg.tape.trans rfl).trans H5.low.tape
    · exact (hg.output.trans rfl).trans H5.low.output
    · have := hg.size; have := H5.low.size; simp at *; omega
    · rw [hg.block k (by simp; omega) (fun e => by have := (H5.row.lt _ e.symm).1; omega), Below.heap_alloc _ _ _ (by omega), addKey_quiet.block k (by omega) (by omega)]
      exact H5.low.block k hk
end Go.Proofs.Ytjcniiojcigefad
