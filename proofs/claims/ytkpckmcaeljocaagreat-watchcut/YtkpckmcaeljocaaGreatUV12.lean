/- Parts. -/
import Derived.Test.YtkpckmcaeljocaaGreatUV6
namespace Go.Proofs.YtkpckmcaeljocaaGreat
open Go.ChangeShapes Go.WideShapes Go.ChangeAt Go.RowKit
theorem Tryz.infoSt : (Tryz.prog.info? 47).map (fun i => (i.zero, i.size, i.bytes)) = some (some (.agg #[.int .i64 0, .int .i64 0, .int .i64 0, .int .i64 0, .int .i64 0, .int .i64 0, .int .i64 0, .int .i64 0, .slice none 0 0]), 9, 88) := by kernel_rfl
theorem Tryz.undSt : Tryz.prog.underlying 22 = some (.slice 47) := by kernel_rfl
def stC (xs : List Sx) : List Value := xs.flatMap fun x => x.vals.toList
theorem stC_app (a b : List Sx) : stC (a ++ b) = stC a ++ stC b := by simp [stC]
theorem vals_len (x : Sx) : x.vals.toList.length = 9 := rfl
theorem stC_len (xs : List Sx) : (stC xs).length = xs.length * 9 := by
  induction xs with
  | nil => rfl
  | cons x xs ih => simp only [stC, List.flatMap_cons, List.length_append, List.length_cons, vals_len] at ih ⊢; rw [ih]; omega
theorem stC_at (xs : List Sx) (k j : Nat) (hk : k < xs.length) (hj : j < 9) : (stC xs)[k * 9 + j]? = xs[k].vals[j]? := by
  induction xs generalizing k with
  | nil => simp at hk
  | cons x xs ih =>
    have h1 : stC (x :: xs) = x.vals.toList ++ stC xs := rfl
    cases k with
    | zero => rw [h1, List.getElem?_append_left (by rw [vals_len]; omega)]; simp
    | succ k => rw [h1, List.getElem?_append_right (by rw [vals_len]; omega), vals_len, show (k + 1) * 9 + j - 9 = k * 9 + j by omega, ih k (by simpa using hk)]; rfl
theorem stC_one (xs : List Sx) : ∀ u ∈ stC xs, u.oneCell' = true := by
  intro u hu
  simp only [stC, List.mem_flatMap] at hu
  obtain ⟨x, _, he⟩ := hu
  simp only [Sx.vals, List.mem_cons, List.not_mem_nil, or_false] at he
  rcases he with rfl | rfl | rfl | rfl | rfl | rfl | rfl | rfl | rfl <;> rfl
theorem StepsAt.news {w : World} {xs : List Sx} {b off : Nat} (h : StepsAt w xs (some ⟨b, off, none⟩)) : ∀ j u, (stC xs)[j]? = some u → w.cell? ((⟨b, off, none⟩ : Addr).add j) = some u := by
  intro j u hu
  have hl : j < xs.length * 9 := by rw [← stC_len]; exact (List.getElem?_eq_some_iff.1 hu).1
  have hk : j / 9 < xs.length := by omega
  obtain ⟨b', off', e, hc, _⟩ := h (j / 9) hk
  cases e
  have h1 := hc (j % 9) (by omega)
  have h2 := stC_at xs (j / 9) (j % 9) hk (by omega)
  rw [show j / 9 * 9 + j % 9 = j by omega, hu] at h2
  rw [← h2, show off + j / 9 * 9 + j % 9 = off + j by omega] at h1
  simpa [Addr.add_lit] using h1
theorem steps_row {w : World} {B cap n : Nat} {ao : Option Addr} {xs : List Sx} (h : w.ownsRow B 47 9 (.slice ao n cap) n (stC xs)) (hn : n = xs.length) (hs : ∀ x ∈ xs, SxIs w x) : StepsAt w xs ao := by
  intro i hi
  obtain ⟨g, e, hc⟩ := Gr.owns_at h (by omega)
  refine ⟨g, 0, e, fun j hj => ?_, hs _ (List.getElem_mem hi)⟩
  rw [show 0 + i * 9 + j = i * 9 + j by omega, hc _ (by omega), stC_at xs i j hi hj]
theorem mod4Y (p : Int) : ∃ k : Nat, k < 4 ∧ wrap64 ((IntKind.u64.wrap p).tmod 4) = (k : Int) := by
  have h0 : 0 ≤ IntKind.u64.wrap p := by rw [IntKind.wrap_u64]; omega
  have h1 : (IntKind.u64.wrap p).tmod 4 = (IntKind.u64.wrap p) % 4 := Int.tmod_eq_emod_of_nonneg h0
  have h2 : 0 ≤ IntKind.u64.wrap p % 4 ∧ IntKind.u64.wrap p % 4 < 4 := ⟨Int.emod_nonneg _ (by decide), Int.emod_lt_of_pos _ (by decide)⟩
  rw [h1]
  generalize IntKind.u64.wrap p % 4 = z at h2
  exact ⟨z.toNat, by omega, by unfold wrap64; omega⟩
end Go.Proofs.YtkpckmcaeljocaaGreat
namespace Go.Proofs.YtkpckmcaeljocaaGreat
open Go.ChangeShapes Go.WideShapes Go.ChangeAt Go.RowKit
open Gr (Nd Res nd0 thereB openB deriveOf addOf gateOf cutOf cellB cellOf funcB funcOf rightsN wayOf gatesOf gatesW targetOf Wf NdOk GS IntsAt)
def cutX : Sx := ⟨5, 0, 0, 0, 0, 0, 0, 0, [], none, 0⟩
theorem cutX_is (w : World) : SxIs w cutX := by
  have hz : In64 0 := in_few 0 (by decide)
  exact ⟨⟨in_few 5 (by decide), hz, hz, hz, hz, hz, hz, hz, fun v hv => by simp [cutX] at hv⟩, fun i hi => by simp [cutX] at hi⟩
def Sx.zero (x : Sx) : Sx := { x with g := 0 }
theorem SxIs.zero {w : World} {x : Sx} (h : SxIs w x) : SxIs w x.zero := ⟨⟨h.fit.kind, h.fit.p, h.fit.q, h.fit.k, h.fit.h, h.fit.r, in_few 0 (by decide), h.fit.n, h.fit.ins⟩, h.fo⟩
def Sx.thru (x : Sx) (p : Int) : Sx := if x.p = p ∧ (x.kind = 2 ∨ x.kind = 3) then x.zero else x
theorem SxIs.thru {w : World} {x : Sx} (h : SxIs w x) (p : Int) : SxIs w (x.thru p) := by
  unfold Sx.thru
  split
  · exact h.zero
  · exact h
theorem thru_behind {x : Sx} {p c : Int} (h : ¬ (x.kind = 3 ∧ x.q = p)) : Behind p ((x.thru p).sp c) := by
  unfold Sx.thru
  constructor
  · split
    · intro _ _; rfl
    · rename_i hn
      intro a b
      exact absurd ⟨a, b⟩ hn
  · split
    · intro k e; exact h ⟨k, e⟩
    · intro k e; exact h ⟨k, e⟩
structure CuS (T : WT) (W : World) (al : List Sx) (pm cut : Nat) (p : T.P) (q : T.Q) (h : Hs) (tr : List (Sp × Int)) (ra : Option Addr) (rc j : Nat) (w : World) : Prop where
  s : T.S (rowB (.slice ra al.length rc)) p q h tr w
  low : Below W.heap.size W w
  hB : W.heap.size ≤ (T.hx p).B
  trs : TrS tr h
  beh : HInv (Beh (pm : Int)) h
  pos : 0 < h.s.os.length
  shut : cut < j → Shut h.s.os
  row : w.ownsRow W.heap.size 47 9 (.slice ra al.length rc) al.length (stC al)
  len : tr.length ≤ j + 1
  es : h.s.es.length ≤ 2000 * (j + 1)
  few : ∀ p, (h.hs.getD p []).length ≤ j + 1
section
variable {T : WT} {W w w3 : World} {al : List Sx} {pm cut : Nat} {p : T.P} {q q3 : T.Q} {h : Hs} {tr : List (Sp × Int)} {ra : Option Addr} {rc j : Nat}
theorem CuS.quiet (H : CuS T W al pm cut p q h tr ra rc j w) (k : Quiet w w3) (hW : W.heap.size ≤ w.heap.size) : CuS T W al pm cut p q h tr ra rc j w3 :=
  ⟨WT.quiet H.s k, low_of H.low k hW, H.hB, H.trs, H.beh, H.pos, H.shut, k.row H.row fun _ _ e => e, H.len, H.es, H.few⟩
theorem CuS.skip (H : CuS T W al pm cut p q h tr ra rc j w) (hj : cut < j + 1 → cut < j) : CuS T W al pm cut p q h tr ra rc (j + 1) w :=
  ⟨H.s, H.low, H.hB, H.trs, H.beh, H.pos, fun e => H.shut (hj e), H.row, by have := H.len; omega, by have := H.es; omega, fun p => by have := H.few p; omega⟩
theorem CuS.did (H : CuS T W al pm cut p q h tr ra rc j w) {y : Sp} (hy : Behind (pm : Int) y) (hc : cut = j → y.kind = 5 ∧ y.g = 0) (s3 : T.S (rowB (.slice ra al.length rc)) p q3 (stepH h y).2 (tr ++ [(y, (stepH h y).1.code)]) w3) (g3 : GoesW T p q w q3 w3) :
    CuS T W al pm cut p q3 (stepH h y).2 (tr ++ [(y, (stepH h y).1.code)]) ra rc (j + 1) w3 := by
  have hA := step_adds (WT.ok H.s) y
  refine ⟨s3, WT.below H.s H.hB H.low g3, H.hB, H.trs.step y, (step_behind (Int.natCast_nonneg pm) (W := fun _ => True) (fun _ _ => trivial) H.beh hy fun _ => trivial).1, step_os gat_some H.beh H.pos y, fun e => ?_, g3.kp.row H.row fun k hk e => (T.xo H.s (show rowB _ k from hk)).2 e, by have := H.len; simp; omega, by have := H.es; have := hA.1; omega, fun p => by have := H.few p; have := hA.2 p; omega⟩
  by_cases e2 : cut < j
  · exact step_os gat_shut H.beh (H.shut e2) y
  · obtain ⟨k5, kg⟩ := hc (by omega)
    unfold stepH
    rw [if_neg (by omega), if_neg (by omega), if_neg (by omega), if_neg (by omega), if_pos k5, kg]
    exact cut_shut H.pos
theorem CuS.came (H : CuS T W al pm cut p q h tr ra rc j w) {y : Sp} (hy : Behind (pm : Int) y) (hj : cut < j) : ∃ new, (stepH h y).2.s.es = h.s.es ++ new ∧ (∀ e ∈ new, e.plugin ≠ (pm : Int)) ∧ (y.kind = 4 → y.p = (pm : Int) → new = []) :=
  (step_shut (Int.natCast_nonneg pm) H.beh (H.shut hj) hy).2.2
end
def hg1 : Hs := (stepH h00 ⟨6, 0, 0, 0, 0, 0, 0, 0, 0, []⟩).2
theorem gev (c : Int) : stepH h00 ⟨6, 0, 0, 0, 0, 0, 0, 0, c, []⟩ = (⟨0, 0, intV 0⟩, hg1) := by kernel_rfl
theorem hg1_beh (p : Nat) : HInv (Beh (p : Int)) hg1 := by
  have := (step_behind (p0 := (p : Int)) (Int.natCast_nonneg p) (W := fun _ => True) (fun _ _ => trivial) (hinv0 _) (x := ⟨6, 0, 0, 0, 0, 0, 0, 0, 0, []⟩) ⟨fun _ e => absurd e (by decide), fun e => absurd e (by decide)⟩ fun _ => trivial).1
  rw [gev] at this
  exact this
theorem hg1_trs (c : Int) : TrS [(⟨6, 0, 0, 0, 0, 0, 0, 0, c, []⟩, 0)] hg1 := by
  have h := trs0.step ⟨6, 0, 0, 0, 0, 0, 0, 0, c, []⟩
  rw [gev] at h
  exact h
theorem hg1_few (p : Nat) : (hg1.hs.getD p []).length ≤ 0 + 1 := by
  have e : hg1.hs = [[], [], [], []] := by kernel_rfl
  rw [e, List.getD_eq_getElem?_getD]
  obtain e2 | e2 : p < 4 ∨ 4 ≤ p := by omega
  · obtain rfl | rfl | rfl | rfl : p = 0 ∨ p = 1 ∨ p = 2 ∨ p = 3 := by omega
    all_goals simp
  · rw [List.getElem?_eq_none (by simpa using e2)]; simp
theorem hg1_pos : 0 < hg1.s.os.length := by
  have e : hg1.s.os.length = 1 := by kernel_rfl
  omega
theorem hg1_es : hg1.s.es.length ≤ 2000 * (0 + 1) := by
  have e : hg1.s.es.length = 0 := by kernel_rfl
  omega
theorem cus0 {T : WT} {W w6 w : World} {al : List Sx} {pm cut : Nat} {p : T.P} {q : T.Q} {c : Int} {ra : Option Addr} {rc : Nat} (s6 : T.S (fun _ => False) p q hg1 [(⟨6, 0, 0, 0, 0, 0, 0, 0, c, []⟩, 0)] w6) (low : Below W.heap.size W w6) (hB : W.heap.size ≤ (T.hx p).B) (hW : W.heap.size ≤ w6.heap.size) (k : Quiet w6 w)
    (row : w.ownsRow w6.heap.size 47 9 (.slice ra al.length rc) al.length (stC al)) : CuS T W al pm cut p q hg1 [(⟨6, 0, 0, 0, 0, 0, 0, 0, c, []⟩, 0)] ra rc 0 w :=
  ⟨T.step s6 k (fun i hi e => by have := (row.lt i e).1; omega) (fun i e => (row.lt i e).2), low_of low k hW, hB, hg1_trs c, hg1_beh pm, hg1_pos, fun e => by omega, Gr.owns_mono row hW, by simp, hg1_es, hg1_few⟩
theorem quiet_grown {w wa w' : World} {row : Option Nat} (k : Quiet w wa) (hg : wa.grownBy w' row) (hr : ∀ i, row = some i → w.heap.size ≤ i) : Quiet w w' := by
  refine ⟨hg.os.trans k.os, hg.tape.trans k.tape, hg.output.trans k.output, Nat.le_trans k.size hg.size, fun i hi _ => ?_⟩
  rw [hg.block i (Nat.lt_of_lt_of_le hi k.size) (fun e => by have := hr i e.symm; omega)]
  exact k.block i hi fun e => e
theorem row_new {w w' : World} {t : TypeId} {sz n : Nat} {v : Value} {l : List Value} (h : w'.ownsRow w.heap.size t sz v n l) : ∀ i, v.ownBlock = some i → w.heap.size ≤ i := fun i e => (h.lt i e).1
def toB (x : Sx) (p : Int) : Bool := decide (x.p = p) && (decide (x.kind = 2) || decide (x.kind = 3))
def askB (x : Sx) (p : Int) : Bool := decide (x.kind = 3) && decide (x.q = p)
theorem thru_is (x : Sx) (p : Int) : x.thru p = if toB x p = true then x.zero else x := by
  unfold Sx.thru toB
  by_cases h1 : x.p = p <;> by_cases h2 : x.kind = 2 <;> by_cases h3 : x.kind = 3 <;> simp [h1, h2, h3]
theorem ask_no {x : Sx} {p : Int} (h : askB x p = false) : ¬ (x.kind = 3 ∧ x.q = p) := by
  rintro ⟨a, b⟩
  simp [askB, a, b] at h
theorem nine_zero {w : World} {g : Nat} {a b c d e f k l m : Value} {t : TypeId} (h : w.heap[g]? = some (.cells #[a, b, c, d, e, f, k, l, m] t (0, 0))) (z : Value) : (w.setCell ⟨g, 6, none⟩ z).heap[g]? = some (.cells #[a, b, c, d, e, f, z, l, m] t (0, 0)) := by
  simp [World.setCell, Array.getElem?_modify, h]
end Go.Proofs.YtkpckmcaeljocaaGreat
