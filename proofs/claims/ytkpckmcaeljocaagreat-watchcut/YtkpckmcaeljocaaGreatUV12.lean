/- Parts. -/
import Derived.Test.YtkpckmcaeljocaaGreatUV6
import Derived.Deep.CutRange
namespace Go.Proofs.YtkpckmcaeljocaaGreat
open Go.ChangeShapes Go.WideShapes Go.ChangeAt Go.RowKit
theorem Tryz.infoSt : (Tryz.prog.info? 47).map (fun i => (i.zero, i.size, i.bytes)) = some (some (.agg #[.int .i64 0, .int .i64 0, .int .i64 0, .int .i64 0, .int .i64 0, .int .i64 0, .int .i64 0, .int .i64 0, .slice none 0 0]), 9, 88) := by kernel_rfl
theorem Tryz.undSt : Tryz.prog.underlying 22 = some (.slice 47) := by kernel_rfl
def stC (xs : List Sx) : List Value := xs.flatMap fun x => x.vals.toList
theorem stC_app (a b : List Sx) : stC (a ++ b) = stC a ++ stC b := by simp [stC]
theorem vals_len (x : Sx) : x.vals.toList.length = 9 := rfl
theorem stC_len (xs : List Sx) : (stC xs).length = xs.length * 9 := by
  induction xs with
  | nil => rfl
  | cons x xs ih => simp only [stC, List.flatMap_cons, List.length_append, List.length_cons, vals_len] at ih ⊢; rw [ih]; omega
theorem stC_at (xs : List Sx) (k j : Nat) (hk : k < xs.length) (hj : j < 9) : (stC xs)[k * 9 + j]? = xs[k].vals[j]? := by
  induction xs generalizing k with
  | nil => simp at hk
  | cons x xs ih =>
    have h1 : stC (x :: xs) = x.vals.toList ++ stC xs := rfl
    cases k with
    | zero => rw [h1, List.getElem?_append_left (by rw [vals_len]; omega)]; simp
    | succ k => rw [h1, List.getElem?_append_right (by rw [vals_len]; omega), vals_len, show (k + 1) * 9 + j - 9 = k * 9 + j by omega, ih k (by simpa using hk)]; rfl
theorem stC_one (xs : List Sx) : ∀ u ∈ stC xs, u.oneCell' = true := by
  intro u hu
  simp only [stC, List.mem_flatMap] at hu
  obtain ⟨x, _, he⟩ := hu
  simp only [Sx.vals, List.mem_cons, List.not_mem_nil, or_false] at he
  rcases he with rfl | rfl | rfl | rfl | rfl | rfl | rfl | rfl | rfl <;> rfl
theorem StepsAt.news {w : World} {xs : List Sx} {b off : Nat} (h : StepsAt w xs (some ⟨b, off, none⟩)) : ∀ j u, (stC xs)[j]? = some u → w.cell? ((⟨b, off, none⟩ : Addr).add j) = some u := by
  intro j u hu
  have hl : j < xs.length * 9 := by rw [← stC_len]; exact (List.getElem?_eq_some_iff.1 hu).1
  have hk : j / 9 < xs.length := by omega
  obtain ⟨b', off', e, hc, _⟩ := h (j / 9) hk
  cases e
  have h1 := hc (j % 9) (by omega)
  have h2 := stC_at xs (j / 9) (j % 9) hk (by omega)
  rw [show j / 9 * 9 + j % 9 = j by omega, hu] at h2
  rw [← h2, show off + j / 9 * 9 + j % 9 = off + j by omega] at h1
  simpa [Addr.add_lit] using h1
theorem steps_row {w : World} {B cap n : Nat} {ao : Option Addr} {xs : List Sx} (h : w.ownsRow B 47 9 (.slice ao n cap) n (stC xs)) (hn : n = xs.length) (hs : ∀ x ∈ xs, SxIs w x) : StepsAt w xs ao := by
  intro i hi
  obtain ⟨g, e, hc⟩ := Gr.owns_at h (by omega)
  refine ⟨g, 0, e, fun j hj => ?_, hs _ (List.getElem_mem hi)⟩
  rw [show 0 + i * 9 + j = i * 9 + j by omega, hc _ (by omega), stC_at xs i j hi hj]
theorem mod4Y (p : Int) : ∃ k : Nat, k < 4 ∧ wrap64 ((IntKind.u64.wrap p).tmod 4) = (k : Int) := by
  have h0 : 0 ≤ IntKind.u64.wrap p := by rw [IntKind.wrap_u64]; omega
  have h1 : (IntKind.u64.wrap p).tmod 4 = (IntKind.u64.wrap p) % 4 := Int.tmod_eq_emod_of_nonneg h0
  have h2 : 0 ≤ IntKind.u64.wrap p % 4 ∧ IntKind.u64.wrap p % 4 < 4 := ⟨Int.emod_nonneg _ (by decide), Int.emod_lt_of_pos _ (by decide)⟩
  rw [h1]
  generalize IntKind.u64.wrap p % 4 = z at h2
  exact ⟨z.toNat, by omega, by unfold wrap64; omega⟩
open Gr (Nd Res nd0 thereB openB deriveOf addOf gateOf cutOf cellB cellOf funcB funcOf rightsN wayOf gatesOf gatesW targetOf Wf NdOk GS IntsAt)
def cutX : Sx := ⟨5, 0, 0, 0, 0, 0, 0, 0, [], none, 0⟩
theorem cutX_is (w : World) : SxIs w cutX := by
  have hz : In64 0 := in_few 0 (by decide)
  exact ⟨⟨in_few 5 (by decide), hz, hz, hz, hz, hz, hz, hz, fun v hv => by simp [cutX] at hv⟩, fun i hi => by simp [cutX] at hi⟩
def Sx.zero (x : Sx) : Sx := { x with g := 0 }
theorem SxIs.zero {w : World} {x : Sx} (h : SxIs w x) : SxIs w x.zero := ⟨⟨h.fit.kind, h.fit.p, h.fit.q, h.fit.k, h.fit.h, h.fit.r, in_few 0 (by decide), h.fit.n, h.fit.ins⟩, h.fo⟩
def Sx.thru (x : Sx) (p : Int) : Sx := if x.p = p ∧ (x.kind = 2 ∨ x.kind = 3) then x.zero else x
theorem SxIs.thru {w : World} {x : Sx} (h : SxIs w x) (p : Int) : SxIs w (x.thru p) := by
  unfold Sx.thru
  split
  · exact h.zero
  · exact h
theorem thru_behind {x : Sx} {p c : Int} (h : ¬ (x.kind = 3 ∧ x.q = p)) : Behind p ((x.thru p).sp c) := by
  unfold Sx.thru
  constructor
  · split
    · intro _ _; rfl
    · rename_i hn
      intro a b
      exact absurd ⟨a, b⟩ hn
  · split
    · intro k e; exact h ⟨k, e⟩
    · intro k e; exact h ⟨k, e⟩
structure CuS (T : WT) (W : World) (al : List Sx) (pm cut : Nat) (p : T.P) (q : T.Q) (h : Hs) (tr : List (Sp × Int)) (ra : Option Addr) (rc j : Nat) (w : World) : Prop where
  s : T.S (rowB (.slice ra al.length rc)) p q h tr w
  low : Below W.heap.size W w
  hB : W.heap.size ≤ (T.hx p).B
  trs : TrS tr h
  beh : HInv (Beh (pm : Int)) h
  pos : 0 < h.s.os.length
  shut : cut < j → Shut h.s.os
  row : w.ownsRow W.heap.size 47 9 (.slice ra al.length rc) al.length (stC al)
  len : tr.length ≤ j + 1
  es : h.s.es.length ≤ 2000 * (j + 1)
  few : ∀ p, (h.hs.getD p []).length ≤ j + 1
section
variable {T : WT} {W w w3 : World} {al : List Sx} {pm cut : Nat} {p : T.P} {q q3 : T.Q} {h : Hs} {tr : List (Sp × Int)} {ra : Option Addr} {rc j : Nat}
theorem CuS.quiet (H : CuS T W al pm cut p q h tr ra rc j w) (k : Quiet w w3) (hW : W.heap.size ≤ w.heap.size) : CuS T W al pm cut p q h tr ra rc j w3 :=
  ⟨WT.quiet H.s k, low_of H.low k hW, H.hB, H.trs, H.beh, H.pos, H.shut, k.row H.row fun _ _ e => e, H.len, H.es, H.few⟩
theorem CuS.skip (H : CuS T W al pm cut p q h tr ra rc j w) (hj : cut < j + 1 → cut < j) : CuS T W al pm cut p q h tr ra rc (j + 1) w :=
  ⟨H.s, H.low, H.hB, H.trs, H.beh, H.pos, fun e => H.shut (hj e), H.row, by have := H.len; omega, by have := H.es; omega, fun p => by have := H.few p; omega⟩
theorem CuS.did (H : CuS T W al pm cut p q h tr ra rc j w) {y : Sp} (hy : Behind (pm : Int) y) (hc : cut = j → y.kind = 5 ∧ y.g = 0) (s3 : T.S (rowB (.slice ra al.length rc)) p q3 (stepH h y).2 (tr ++ [(y, (stepH h y).1.code)]) w3) (g3 : GoesW T p q w q3 w3) :
    CuS T W al pm cut p q3 (stepH h y).2 (tr ++ [(y, (stepH h y).1.code)]) ra rc (j + 1) w3 := by
  have hA := step_adds (WT.ok H.s) y
  refine ⟨s3, WT.below H.s H.hB H.low g3, H.hB, H.trs.step y, (step_behind (Int.natCast_nonneg pm) (W := fun _ => True) (fun _ _ => trivial) H.beh hy fun _ => trivial).1, step_os gat_some H.beh H.pos y, fun e => ?_, g3.kp.row H.row fun k hk e => (T.xo H.s (show rowB _ k from hk)).2 e, by have := H.len; simp; omega, by have := H.es; have := hA.1; omega, fun p => by have := H.few p; have := hA.2 p; omega⟩
  by_cases e2 : cut < j
  · exact step_os gat_shut H.beh (H.shut e2) y
  · obtain ⟨k5, kg⟩ := hc (by omega)
    unfold stepH
    rw [if_neg (by omega), if_neg (by omega), if_neg (by omega), if_neg (by omega), if_pos k5, kg]
    exact cut_shut H.pos
theorem CuS.came (H : CuS T W al pm cut p q h tr ra rc j w) {y : Sp} (hy : Behind (pm : Int) y) (hj : cut < j) : ∃ new, (stepH h y).2.s.es = h.s.es ++ new ∧ (∀ e ∈ new, e.plugin ≠ (pm : Int)) ∧ (y.kind = 4 → y.p = (pm : Int) → new = []) :=
  (step_shut (Int.natCast_nonneg pm) H.beh (H.shut hj) hy).2.2
end
def hg1 : Hs := (stepH h00 ⟨6, 0, 0, 0, 0, 0, 0, 0, 0, []⟩).2
theorem gev (c : Int) : stepH h00 ⟨6, 0, 0, 0, 0, 0, 0, 0, c, []⟩ = (⟨0, 0, intV 0⟩, hg1) := by kernel_rfl
theorem hg1_beh (p : Nat) : HInv (Beh (p : Int)) hg1 := by
  have := (step_behind (p0 := (p : Int)) (Int.natCast_nonneg p) (W := fun _ => True) (fun _ _ => trivial) (hinv0 _) (x := ⟨6, 0, 0, 0, 0, 0, 0, 0, 0, []⟩) ⟨fun _ e => absurd e (by decide), fun e => absurd e (by decide)⟩ fun _ => trivial).1
  rw [gev] at this
  exact this
theorem hg1_trs (c : Int) : TrS [(⟨6, 0, 0, 0, 0, 0, 0, 0, c, []⟩, 0)] hg1 := by
  have h := trs0.step ⟨6, 0, 0, 0, 0, 0, 0, 0, c, []⟩
  rw [gev] at h
  exact h
theorem hg1_few (p : Nat) : (hg1.hs.getD p []).length ≤ 0 + 1 := by
  have e : hg1.hs = [[], [], [], []] := by kernel_rfl
  rw [e, List.getD_eq_getElem?_getD]
  obtain e2 | e2 : p < 4 ∨ 4 ≤ p := by omega
  · obtain rfl | rfl | rfl | rfl : p = 0 ∨ p = 1 ∨ p = 2 ∨ p = 3 := by omega
    all_goals simp
  · rw [List.getElem?_eq_none (by simpa using e2)]; simp
theorem hg1_pos : 0 < hg1.s.os.length := by
  have e : hg1.s.os.length = 1 := by kernel_rfl
  omega
theorem hg1_es : hg1.s.es.length ≤ 2000 * (0 + 1) := by
  have e : hg1.s.es.length = 0 := by kernel_rfl
  omega
theorem cus0 {T : WT} {W w6 w : World} {al : List Sx} {pm cut : Nat} {p : T.P} {q : T.Q} {c : Int} {ra : Option Addr} {rc : Nat} (s6 : T.S (fun _ => False) p q hg1 [(⟨6, 0, 0, 0, 0, 0, 0, 0, c, []⟩, 0)] w6) (low : Below W.heap.size W w6) (hB : W.heap.size ≤ (T.hx p).B) (hW : W.heap.size ≤ w6.heap.size) (k : Quiet w6 w)
    (row : w.ownsRow w6.heap.size 47 9 (.slice ra al.length rc) al.length (stC al)) : CuS T W al pm cut p q hg1 [(⟨6, 0, 0, 0, 0, 0, 0, 0, c, []⟩, 0)] ra rc 0 w :=
  ⟨T.step s6 k (fun i hi e => by have := (row.lt i e).1; omega) (fun i e => (row.lt i e).2), low_of low k hW, hB, hg1_trs c, hg1_beh pm, hg1_pos, fun e => by omega, Gr.owns_mono row hW, by simp, hg1_es, hg1_few⟩
theorem quiet_grown {w wa w' : World} {row : Option Nat} (k : Quiet w wa) (hg : wa.grownBy w' row) (hr : ∀ i, row = some i → w.heap.size ≤ i) : Quiet w w' := by
  refine ⟨hg.os.trans k.os, hg.tape.trans k.tape, hg.output.trans k.output, Nat.le_trans k.size hg.size, fun i hi _ => ?_⟩
  rw [hg.block i (Nat.lt_of_lt_of_le hi k.size) (fun e => by have := hr i e.symm; omega)]
  exact k.block i hi fun e => e
theorem row_new {w w' : World} {t : TypeId} {sz n : Nat} {v : Value} {l : List Value} (h : w'.ownsRow w.heap.size t sz v n l) : ∀ i, v.ownBlock = some i → w.heap.size ≤ i := fun i e => (h.lt i e).1
def toB (x : Sx) (p : Int) : Bool := decide (x.p = p) && (decide (x.kind = 2) || decide (x.kind = 3))
def askB (x : Sx) (p : Int) : Bool := decide (x.kind = 3) && decide (x.q = p)
theorem thru_is (x : Sx) (p : Int) : x.thru p = if toB x p = true then x.zero else x := by
  unfold Sx.thru toB
  by_cases h1 : x.p = p <;> by_cases h2 : x.kind = 2 <;> by_cases h3 : x.kind = 3 <;> simp [h1, h2, h3]
theorem ask_no {x : Sx} {p : Int} (h : askB x p = false) : ¬ (x.kind = 3 ∧ x.q = p) := by
  rintro ⟨a, b⟩
  simp [askB, a, b] at h
theorem nine_zero {w : World} {g : Nat} {a b c d e f k l m : Value} {t : TypeId} (h : w.heap[g]? = some (.cells #[a, b, c, d, e, f, k, l, m] t (0, 0))) (z : Value) : (w.setCell ⟨g, 6, none⟩ z).heap[g]? = some (.cells #[a, b, c, d, e, f, z, l, m] t (0, 0)) := by
  simp [World.setCell, Array.getElem?_modify, h]
end Go.Proofs.YtkpckmcaeljocaaGreat
namespace Go.Proofs.YtkpckmcaeljocaaGreat
open Go.ChangeShapes Go.WideShapes Go.ChangeAt Go.RowKit
theorem gdo {T : WT} {p : T.P} {q : T.Q} {w : World} (hD : WDoC T) (H : T.S (fun _ => False) p q h00 [] w) : Calls Tryz.prog 13 #[.pointer (some ⟨T.wb p, 0, none⟩), .agg #[.int .i64 6, .int .i64 0, .int .i64 0, .int .i64 0, .int .i64 0, .int .i64 0, .int .i64 0, .int .i64 0, .slice none 0 0]] w fun e w' => ∃ c q' ao cap, e = .returned (.tuple #[.agg #[.int .i64 0, .int .i64 0, .int .i64 1, .int .i64 0, .slice ao 0 cap], .agg #[.int .i64 0, .int .i64 0]]) ∧ T.S (fun _ => False) p q' hg1 [(⟨6, 0, 0, 0, 0, 0, 0, 0, c, []⟩, 0)] w' ∧ GoesW T p q w q' w' := by
  have hz : In64 0 := in_few 0 (by decide)
  refine (hD (fun _ => False) p q h00 [] w ⟨6, 0, 0, 0, 0, 0, 0, 0, [], none, 0⟩ (fun f => f = Ex.modFault []) H trs0 ⟨in_few 6 (by decide), hz, hz, hz, hz, hz, hz, hz, fun v hv => by simp at hv⟩ (by decide) few00 (by decide) ⟨fun f _ _ v hv => by simp at hv, make_none w⟩).mono ?_
  rintro e w' ⟨c, _, q', ao, cap, he, hs, hg, _⟩
  simp only [Sx.sp, gev] at he hs
  exact ⟨c, q', ao, cap, he, hs, hg⟩
set_option maxRecDepth 8000 in
set_option maxHeartbeats 8000000 in
theorem cutLaw {T : WT} (hN : WNewC T) (hD : WDoC T) (hM : WMayC T) (hH : HHandC) (W : World) (xs ys : List Sx) (sa ya : Option Addr) (sc yc : Nat) (pp : Int) (hxs : StepsAt W xs sa) (hys : StepsAt W ys ya) :
    Calls Tryz.prog 5 #[.slice sa xs.length sc, .slice ya ys.length yc, .int .i64 pp] W fun e w' => e = .returned (.bool true) ∧ Below W.heap.size W w' := by
  have HB := hid (ybegun_of hN hD hM hH W)
  have HX := hid hxs
  have HY := hid hys
  clear hxs hys
  have HG := hid (fun (w2 : World) (k : Below W.heap.size W w2) => greatHouse_any xs sa sc 100 w2 (HX.out.low k) (by decide))
  have HK := hid (fun (w2 : World) (k : Below W.heap.size W w2) => greatHouse_any ys ya yc 60 w2 (HY.out.low k) (by decide))
  cases hg1 : greatH xs 100 with
  | true =>
    rw [hg1] at HG
    go_enter Tryz.func5, Tryz.ntmps5
    go_wp2_with (first
      | (go_at_call 8; refine (HG.out _ hl2).mono ?_; rintro e w3 ⟨rfl, q3⟩)
      | (go_at_call 7; refine HB.out.mono ?_; rintro e w2 ⟨rfl, hl2⟩))
    go_ret
    exact ⟨rfl, low_of hl2 q3 hl2.size⟩
  | false =>
    rw [hg1] at HG
    cases hg2 : greatH ys 60 with
    | true =>
      rw [hg2] at HK
      go_enter Tryz.func5, Tryz.ntmps5
      go_wp2_with (first
        | (go_at_call 8; refine (HK.out _ (low_of hl2 q3 hl2.size)).mono ?_; rintro e w4 ⟨rfl, q4⟩)
        | (go_at_call 8; refine (HG.out _ hl2).mono ?_; rintro e w3 ⟨rfl, q3⟩)
        | (go_at_call 7; refine HB.out.mono ?_; rintro e w2 ⟨rfl, hl2⟩))
      go_ret
      exact ⟨rfl, low_of (low_of hl2 q3 hl2.size) q4 (Nat.le_trans hl2.size q3.size)⟩
    | false =>
      rw [hg2] at HK
      obtain ⟨hlen, hng⟩ := greatH_no hg1
      obtain ⟨hlen2, hng2⟩ := greatH_no hg2
      have HNG := hid (And.intro hng hng2)
      clear hg1 hng hg2 hng2
      go_enter Tryz.func5, Tryz.ntmps5
      go_wp2_with (first
        | (go_at_call 12; refine (hN (fun _ => False) W.heap.size w4 (fun k e => e.elim) (Nat.le_trans (Nat.le_trans hl2.size q3.size) q4.size)).mono ?_; rintro e w5 ⟨p, q0, hMB, rfl, h5, _, q5⟩)
        | (go_at_call 8; refine (HK.out _ (low_of hl2 q3 hl2.size)).mono ?_; rintro e w4 ⟨rfl, q4⟩)
        | (go_at_call 8; refine (HG.out _ hl2).mono ?_; rintro e w3 ⟨rfl, q3⟩)
        | (go_at_call 7; refine HB.out.mono ?_; rintro e w2 ⟨rfl, hl2⟩))
      have F5 := hid (And.intro h5 (And.intro (show Below W.heap.size W w5 from low_of (low_of (low_of hl2 q3 hl2.size) q4 (Nat.le_trans hl2.size q3.size)) q5 (Nat.le_trans (Nat.le_trans hl2.size q3.size) q4.size)) hMB))
      obtain ⟨pm, hpm, epm⟩ := mod4Y pp
      have HC := hid (gdo hD h5)
      rw [epm]
      clear epm h5 hMB q5 q4 q3 hl2 HB HG HK
      refine HC.out.mono ?_
      rintro e w6 ⟨c, q6, ao6, cap6, rfl, s6, g6⟩
      have g6s := g6.kp.size
      have H6 := hid (And.intro s6 (WT.below F5.out.1 (by rw [F5.out.2.2]; exact Nat.le_refl _) F5.out.2.1 g6))
      clear s6 g6
      obtain ⟨w7, hw7⟩ : ∃ w7, w7 = (w6.alloc (.cells #[.int .i64 0, .int .i64 0, .int .i64 1, .int .i64 0, .slice ao6 0 cap6] 40)).alloc (.cells #[.int .i64 0, .int .i64 0] 27) := ⟨_, rfl⟩
      have k7 : Quiet w6 w7 := by rw [hw7]; exact (Kp.alloc _ _).trans (Kp.alloc _ _)
      have H7 := hid (And.intro k7 (And.intro H6.out.1 (And.intro H6.out.2 (Nat.le_trans F5.out.2.1.size g6s))))
      clear k7
      go_upto_region 10 with fail
      rw [← hw7]
      clear hw7
      obtain ⟨i0, hi, hz0, hz1, hz2⟩ := info_parts' Tryz.infoSt
      have hmade := hid (World.ownsRow_made (base := w7.heap.size) (e := 47) (size := 9) w7 #[] 0 (Nat.le_refl _) (by decide) (by simp))
      go_cut [10] from 45 to 50 (fun v wx => ∃ ra rc, v = .slice ra (xs.length + 1) rc ∧ Hid (Quiet w7 wx ∧ wx.ownsRow w7.heap.size 47 9 (.slice ra (xs.length + 1) rc) (xs.length + 1) (stC (xs ++ [cutX]))))
      case first =>
        by_cases hx0 : xs = []
        · subst hx0
          have hc8 := hid (show Quiet w7 ((w7.alloc (.cells #[] 47)).alloc (.cells (stC [cutX]).toArray 47)) from (Kp.alloc _ _).trans (Kp.alloc _ _))
          cases sa
          all_goals
            go_wp2_with (first
              | (at_builtin; refine wpList_append_lies _ rfl (.tmp 47) (.tmp 49) 22 rfl w7.heap.size 47 i0 _ 9 88 Tryz.undSt hi hz0 hz1 hz2 rfl (by decide) (.slice (some ⟨w7.heap.size, 0, none⟩) 0 0) 0 [] rfl (hmade.out.alloc _) ⟨w7.heap.size + 1, 0, none⟩ 1 1 (stC [cutX]) rfl rfl (Gr.news_of (t := 47) (l := stC [cutX]) (Gr.heap_two w7 _ _)) (stC_one _) (by decide) (by unfold maxLen; omega) (by omega) (by simp; omega) _ rfl ?_; intro g9 cap9 w9 hr9 hg9 _ _; have H9 := hid (And.intro hr9 (quiet_grown hc8.out hg9 (row_new hmade.out))); clear hr9 hg9))
            go_meet
            exact ⟨_, _, rfl, hid ⟨H9.out.2, by rw [stC_app]; exact H9.out.1⟩⟩
        · have hxp : 0 < xs.length := List.length_pos_iff.2 hx0
          obtain ⟨b, off, rfl, _⟩ := HX.out 0 hxp
          have hnews := hid (StepsAt.news ((HX.out.low H7.out.2.2.1).quiet (H7.out.1.trans (Kp.alloc w7 (.cells #[] 47)))))
          go_wp2_with (first
            | (at_builtin; refine wpList_append_lies _ rfl (.tmp 47) (.tmp 49) 22 rfl w7.heap.size 47 i0 _ 9 88 Tryz.undSt hi hz0 hz1 hz2 rfl (by decide) (.slice (some ⟨g8, 0, none⟩) xs.length cap8) xs.length (stC xs) rfl (H8.out.1.alloc _) ⟨w8.heap.size, 0, none⟩ 1 1 (stC [cutX]) rfl rfl (Gr.news_of (t := 47) (l := stC [cutX]) (heap_alloc_new w8 _)) (stC_one _) (by decide) (by unfold maxLen; omega) (by omega) (by have := H8.out.2.size; simp; omega) _ rfl ?_; intro g9 cap9 w9 hr9 hg9 _ _; have H9 := hid (And.intro hr9 (quiet_grown (H8.out.2.trans (Kp.alloc w8 _)) hg9 (row_new H8.out.1))); clear hr9 hg9)
            | (at_builtin; refine wpList_append_lies _ rfl (.tmp 45) (.tmp 46) 22 rfl w7.heap.size 47 i0 _ 9 88 Tryz.undSt hi hz0 hz1 hz2 rfl (by decide) (.slice (some ⟨w7.heap.size, 0, none⟩) 0 0) 0 [] rfl hmade.out ⟨b, off, none⟩ xs.length sc (stC xs) rfl (stC_len xs) hnews.out (stC_one xs) hxp (by unfold maxLen; omega) (by omega) (by simp) _ rfl ?_; intro g8 cap8 w8 hr8 hg8 _ _; rw [Nat.zero_add, List.nil_append] at hr8; have H8 := hid (And.intro hr8 (quiet_grown (Kp.alloc w7 _) hg8 (row_new hmade.out))); clear hr8 hg8))
          go_meet
          exact ⟨_, _, rfl, hid ⟨H9.out.2, by rw [stC_app]; exact H9.out.1⟩⟩
      case rest =>
        clear hmade
        obtain ⟨ra, rc, rfl, K⟩ := hcut
        rename World => w9
        go_upto_region 12 with fail
        go_cut [10] from 53 to 55 (fun v wx => ∃ ra rc, v = .slice ra (xs.length + 1 + ys.length) rc ∧ Hid (Quiet w7 wx ∧ wx.ownsRow w7.heap.size 47 9 (.slice ra (xs.length + 1 + ys.length) rc) (xs.length + 1 + ys.length) (stC (xs ++ [cutX] ++ ys))))
        case first =>
          by_cases hy0 : ys = []
          · subst hy0
            obtain ⟨g9, cap9, hv⟩ := Gr.lies_shape K.out.2 (by omega)
            cases hv
            have hcap := row_cap K.out.2
            cases ya
            all_goals
              go_wp2_with fail
              go_meet
              exact ⟨_, _, rfl, hid ⟨K.out.1, by simpa using K.out.2⟩⟩
          · have hyp : 0 < ys.length := List.length_pos_iff.2 hy0
            obtain ⟨b, off, rfl, _⟩ := HY.out 0 hyp
            have hnews := hid (StepsAt.news ((HY.out.low H7.out.2.2.1).quiet (H7.out.1.trans K.out.1)))
            go_wp2_with (at_builtin; refine wpList_append_lies _ rfl (.tmp 53) (.tmp 54) 22 rfl w7.heap.size 47 i0 _ 9 88 Tryz.undSt hi hz0 hz1 hz2 rfl (by decide) (.slice ra (xs.length + 1) rc) (xs.length + 1) (stC (xs ++ [cutX])) rfl K.out.2 ⟨b, off, none⟩ ys.length yc (stC ys) rfl (stC_len ys) hnews.out (stC_one ys) hyp (by unfold maxLen; omega) (by omega) K.out.1.size _ rfl ?_; intro g10 cap10 w10 hr10 hg10 _ _; have H10 := hid (And.intro hr10 (quiet_grown K.out.1 hg10 (row_new K.out.2))); clear hr10 hg10)
            go_meet
            exact ⟨_, _, rfl, hid ⟨H10.out.2, by rw [stC_app (xs ++ [cutX]) ys]; exact H10.out.1⟩⟩
        case rest =>
          clear K ra rc
          obtain ⟨ra, rc, rfl, K⟩ := hcut
          rename World => w10
          obtain ⟨al, hal⟩ : ∃ al, al = xs ++ [cutX] ++ ys := ⟨_, rfl⟩
          have hall : al.length = xs.length + 1 + ys.length := by rw [hal]; simp; omega
          rw [← hal, ← hall] at K
          rw [← hall]
          have HAL := hid (show ∀ x ∈ al, SxIs W x ∧ Ex.great x.fs = false from fun x hx => by
            rw [hal] at hx
            rcases List.mem_append.1 hx with hx | hx
            · rcases List.mem_append.1 hx with hx | hx
              · obtain ⟨k, hk, rfl⟩ := List.getElem_of_mem hx
                obtain ⟨_, _, _, _, h1⟩ := HX.out k hk
                exact ⟨h1, HNG.out.1 _ (List.getElem_mem hk)⟩
              · rw [List.mem_singleton.1 hx]; exact ⟨cutX_is W, rfl⟩
            · obtain ⟨k, hk, rfl⟩ := List.getElem_of_mem hx
              obtain ⟨_, _, _, _, h1⟩ := HY.out k hk
              exact ⟨h1, HNG.out.2 _ (List.getElem_mem hk)⟩)
          have HCX := hid (show ∀ (hx : xs.length < al.length), al[xs.length] = cutX from fun hx => by
            have : ∀ (l : List Sx) (hl : l = xs ++ [cutX] ++ ys) (hi : xs.length < l.length), l[xs.length] = cutX := fun l hl hi => by
              subst hl
              rw [List.getElem_append_left (by simp), List.getElem_append_right (Nat.le_refl _)]
              simp
            exact this al hal hx)
          have HS0 := hid (cus0 (T := T) (W := W) (pm := pm) (cut := xs.length) (ra := ra) (rc := rc) H7.out.2.1 H7.out.2.2.1 (by rw [F5.out.2.2]; exact Nat.le_refl _) H7.out.2.2.2 (H7.out.1.trans K.out.1) (by have := H7.out.1.size; exact Gr.owns_mono K.out.2 this))
          have hall2 : al.length ≤ 161 := by omega
          have hcl : xs.length < al.length := by omega
          clear hal hall
          go_wp2_with fail
          go_loopw [12] (fun i wr => ∃ (j : Nat) (q : T.Q) (h : Hs) (tr : List (Sp × Int)), i = .int .i64 j ∧ j ≤ al.length ∧ Hid (CuS T W al pm xs.length p q h tr ra rc j wr ∧ W.heap.size ≤ wr.heap.size)) (fun i _ => al.length - (intOf i).toNat)
          case atStart => exact ⟨0, _, _, _, rfl, Nat.zero_le _, hid ⟨HS0.out, Nat.le_trans H7.out.2.2.2 (H7.out.1.trans K.out.1).size⟩⟩
          case round =>
            clear HS0 K H7 HX HY HNG
            rename World => wq
            obtain ⟨j, q, h, tr, rfl, hj, D⟩ := hrel
            by_cases hlt : j < al.length
            · have hlt' : (j : Int) < (al.length : Int) := by omega
              obtain ⟨b, off, rfl, c0, c1, c2, c3, c4, c5, c6, c7, c8, hs⟩ := (steps_row D.out.1.row rfl fun x hx => (HAL.out x hx).1.low D.out.1.low).get j hlt
              have HSX := hid hs
              have HGX := hid (HAL.out _ (List.getElem_mem hlt)).2
              have HCJ := hid (show xs.length = j → al[j] = cutX from fun e => by subst e; exact HCX.out hlt)
              generalize al[j] = x at *
              obtain ⟨xk, xp, xq, xkk, xh, xr, xg, xn, xf, xa, xc⟩ := x
              simp only at *
              obtain ⟨w16, hw16⟩ : ∃ w16, w16 = wq.alloc (.cells #[.int .i64 xk, .int .i64 xp, .int .i64 xq, .int .i64 xkk, .int .i64 xh, .int .i64 xr, .int .i64 xg, .int .i64 xn, .slice xa xf.length xc] 47) := ⟨_, rfl⟩
              have H16 := hid (show Quiet wq w16 ∧ w16.heap[wq.heap.size]? = some (.cells #[.int .i64 xk, .int .i64 xp, .int .i64 xq, .int .i64 xkk, .int .i64 xh, .int .i64 xr, .int .i64 xg, .int .i64 xn, .slice xa xf.length xc] 47 (0, 0)) from by rw [hw16]; exact ⟨Kp.alloc _ _, heap_alloc_new wq _⟩)
              go_upto_region 17 with fail
              rw [← hw16]
              clear hw16 c0 c1 c2 c3 c4 c5 c6 c7 c8 hs
              obtain ⟨n0, n1, n2, n3, n4, n5, n6, n7, n8⟩ := nine9 H16.out.2
              generalize hb0 : toB ⟨xk, xp, xq, xkk, xh, xr, xg, xn, xf, xa, xc⟩ pm = b0
              go_cut [79] from 56 to 143 (fun v wx => v = .bool b0 ∧ Hid (wx = w16))
              case first =>
                by_cases h1 : xp = (pm : Int)
                · by_cases h2 : xk = 2
                  · have hb : b0 = true := by rw [← hb0]; simp [toB, h1, h2]
                    subst hb
                    subst h1
                    subst h2
                    clear hb0
                    go_wp2_with fail
                    go_meet
                    exact ⟨rfl, hid rfl⟩
                  · have h2' : (xk == 2) = false := by simpa using h2
                    by_cases h3 : xk = 3
                    · have hb : b0 = true := by rw [← hb0]; simp [toB, h1, h3]
                      subst hb
                      subst h1
                      subst h3
                      clear hb0
                      go_wp2_with fail
                      go_meet
                      exact ⟨rfl, hid rfl⟩
                    · have hb : b0 = false := by rw [← hb0]; simp [toB, h2, h3]
                      have h3' : (xk == 3) = false := by simpa using h3
                      subst hb
                      subst h1
                      clear hb0
                      go_wp2_with fail
                      go_meet
                      exact ⟨rfl, hid rfl⟩
                · have hb : b0 = false := by rw [← hb0]; simp [toB, h1]
                  have h1' : (xp == (pm : Int)) = false := by simpa using h1
                  subst hb
                  clear hb0
                  go_wp2_with fail
                  go_meet
                  exact ⟨rfl, hid rfl⟩
              case rest =>
                obtain ⟨rfl, hw⟩ := hcut
                replace hw := hw.out
                subst hw
                obtain ⟨xg', hxg⟩ : ∃ z : Int, z = if b0 = true then 0 else xg := ⟨_, rfl⟩
                have HTH := hid (show Sx.thru ⟨xk, xp, xq, xkk, xh, xr, xg, xn, xf, xa, xc⟩ pm = ⟨xk, xp, xq, xkk, xh, xr, xg', xn, xf, xa, xc⟩ from by rw [thru_is, hb0, hxg]; cases b0 <;> rfl)
                have HXG := hid hxg
                clear hb0 hxg
                have f6 := frozen_of_row _ _ 6 _ 47 H16.out.2
                have hl16 := lt_of_block H16.out.2
                go_upto_if 79 with fail
                go_cut [] from 56 to 143 (fun wx => Hid (Quiet wq wx ∧ wx.heap[wq.heap.size]? = some (.cells #[.int .i64 xk, .int .i64 xp, .int .i64 xq, .int .i64 xkk, .int .i64 xh, .int .i64 xr, .int .i64 xg', .int .i64 xn, .slice xa xf.length xc] 47 (0, 0))))
                case first =>
                  cases b0 with
                  | true =>
                    go_wp2_with fail
                    go_meet
                    refine hid ⟨H16.out.1.fresh (Kp.setCell _ _ _ (Nat.le_refl wq.heap.size)), ?_⟩
                    rw [HXG.out]
                    exact nine_zero H16.out.2 _
                  | false =>
                    go_wp2_with fail
                    go_meet
                    refine hid ⟨H16.out.1, ?_⟩
                    rw [HXG.out]
                    exact H16.out.2
                case rest =>
                  clear n0 n1 n2 n3 n4 n5 n6 n7 n8 f6 hl16 H16 HXG
                  rename World => w18
                  have H18 := hcut
                  clear hcut
                  obtain ⟨n0, n1, n2, n3, n4, n5, n6, n7, n8⟩ := nine9 H18.out.2
                  generalize hb1 : askB ⟨xk, xp, xq, xkk, xh, xr, xg, xn, xf, xa, xc⟩ pm = b1
                  go_upto_region 19 with fail
                  go_cut [89] from 56 to 143 (fun v wx => v = .bool b1 ∧ Hid (wx = w18))
                  case first =>
                    by_cases h1 : xk = 3
                    · by_cases h2 : xq = (pm : Int)
                      · have hb : b1 = true := by rw [← hb1]; simp [askB, h1, h2]
                        subst hb
                        subst h1
                        subst h2
                        clear hb1
                        go_wp2_with fail
                        go_meet
                        exact ⟨rfl, hid rfl⟩
                      · have hb : b1 = false := by rw [← hb1]; simp [askB, h2]
                        have h2' : (xq == (pm : Int)) = false := by simpa using h2
                        subst hb
                        subst h1
                        clear hb1
                        go_wp2_with fail
                        go_meet
                        exact ⟨rfl, hid rfl⟩
                    · have hb : b1 = false := by rw [← hb1]; simp [askB, h1]
                      have h1' : (xk == 3) = false := by simpa using h1
                      subst hb
                      clear hb1
                      go_wp2_with fail
                      go_meet
                      exact ⟨rfl, hid rfl⟩
                  case rest =>
                    obtain ⟨rfl, hw⟩ := hcut
                    replace hw := hw.out
                    subst hw
                    rename World => w18
                    cases b1 with
                    | true =>
                      have HJ := hid (show xs.length ≠ j from fun e => by have := HCJ.out e; rw [this] at hb1; simp [askB, cutX] at hb1)
                      clear hb1
                      go_wp2_with fail
                      refine ⟨⟨j + 1, q, h, tr, by go_num, by omega, hid ⟨(D.out.1.quiet H18.out.1 D.out.2).skip (by have := HJ.out; omega), Nat.le_trans D.out.2 H18.out.1.size⟩⟩, by simp [intOf]; omega⟩
                    | false =>
                      have HBE := hid (fun c : Int => (show Behind (pm : Int) (Sx.sp ⟨xk, xp, xq, xkk, xh, xr, xg', xn, xf, xa, xc⟩ c) from by rw [← HTH.out]; exact thru_behind (ask_no hb1)))
                      have HS18 := D.out.1.quiet H18.out.1 D.out.2
                      obtain ⟨m1, m2, m3, m4⟩ := WT.cells HS18.s
                      have HSY : SxIs w18 ⟨xk, xp, xq, xkk, xh, xr, xg', xn, xf, xa, xc⟩ := by rw [← HTH.out]; exact (HSX.out.quiet H18.out.1).thru pm
                      have HLG := hid (Wo.log_any _ w18 _ _ _ _ (WT.ws HS18.s) (by have := HS18.es; omega))
                      have HDO := hid (fun (w' : World) (k : Quiet w18 w') => hD _ p q h tr w' ⟨xk, xp, xq, xkk, xh, xr, xg', xn, xf, xa, xc⟩ (toldZ ⟨xk, xp, xq, xkk, xh, xr, xg', xn, xf, xa, xc⟩) (WT.quiet HS18.s k) HS18.trs HSY.fit (by have := HS18.es; omega) (fun p => by have := HS18.few p; omega) (by have := HS18.len; omega) (make_at (HSY.quiet k) HGX.out))
                      have HC5 := hid (show xs.length = j → xk = 5 ∧ xg' = 0 from fun e => by
                        have h1 := HCJ.out e
                        have h2 := HTH.out
                        rw [h1] at h2
                        simp [Sx.thru, cutX] at h1 h2
                        exact ⟨h1.1, h2.2.2.2.2.2.2.1.symm⟩)
                      simp only [Sx.vals] at HDO
                      have HCS := hid HS18
                      have hesl : h.s.es.length ≤ 400000 := by have := HS18.es; omega
                      clear HS18 HSY hb1
                      go_wp2_with (first
                        | (go_at_call 13; refine (HDO.out _ H19.out).mono ?_)
                        | (go_at_call 17; refine HLG.out.mono ?_; rintro e w19 ⟨v19, rfl, r19, k19⟩; obtain ⟨la, lc, rfl⟩ := Gr.owns_shape r19; have H19 := hid k19; have o0 := k19.cell n0 (fun e => e); have o1 := k19.cell n1 (fun e => e); have o2 := k19.cell n2 (fun e => e); have o3 := k19.cell n3 (fun e => e); have o4 := k19.cell n4 (fun e => e); have o5 := k19.cell n5 (fun e => e); have o6 := k19.cell n6 (fun e => e); have o7 := k19.cell n7 (fun e => e); have o8 := k19.cell n8 (fun e => e); clear r19 k19))
                      rintro e w20 ⟨c, _, q3, ao3, cap3, he, s3, g3, _⟩
                      subst he
                      have HN20 := hid ((HCS.out.quiet H19.out (Nat.le_trans D.out.2 H18.out.1.size)).did (HBE.out c) (fun e => HC5.out e) s3 g3)
                      have HW20 := hid (Nat.le_trans (Nat.le_trans (Nat.le_trans D.out.2 H18.out.1.size) H19.out.size) g3.kp.size)
                      have hbx := (g3.block ((H19.out.block _ (lt_of_block H18.out.2) fun e => e).trans H18.out.2) (WT.new D.out.1.s _ (Nat.le_refl _))).1
                      have HCM := hid (fun hj : xs.length < j => HCS.out.came (HBE.out c) hj)
                      generalize hy : Sx.sp ⟨xk, xp, xq, xkk, xh, xr, xg', xn, xf, xa, xc⟩ c = y at *
                      have HYK := hid (show y.kind = xk ∧ y.p = xp from by rw [← hy]; exact ⟨rfl, rfl⟩)
                      generalize (stepH h y).2 = h3 at *
                      generalize (stepH h y).1 = ev at *
                      obtain ⟨cd, fu, v⟩ := ev
                      simp only at HN20
                      clear hy s3 g3 n0 n1 n2 n3 n4 n5 n6 n7 n8 o0 o1 o2 o3 o4 o5 o6 o7 o8 m1 m2 m3 m4 HDO HLG
                      by_cases hjc : j ≤ xs.length
                      · have hjc' : (j : Int) ≤ (xs.length : Int) := by omega
                        go_wp2_with fail
                        refine ⟨⟨j + 1, q3, h3, tr ++ [(y, cd)], by go_num, by omega, hid ⟨HN20.out, HW20.out⟩⟩, by simp [intOf]; omega⟩
                      · have hjc' : ¬ ((j : Int) ≤ (xs.length : Int)) := by omega
                        obtain ⟨new, hes, hnp, hnk⟩ := HCM.out (by omega)
                        have hel : h3.s.es.length = h.s.es.length + new.length := by rw [hes]; simp
                        have hel2 : h3.s.es.length ≤ 400000 := by have := HN20.out.es; omega
                        obtain ⟨m1, m2, m3, m4⟩ := WT.cells HN20.out.s
                        have HLG := hid (Wo.log_any _ w20 _ _ _ _ (WT.ws HN20.out.s) (by omega))
                        have HES := hid (show ∀ k (hk : k < h3.s.es.length), h.s.es.length ≤ k → h3.s.es[k] ∈ new from fun k hk hm => by
                          have h1 : (h.s.es ++ new)[k]'(by rw [← hes]; exact hk) ∈ new := by
                            rw [List.getElem_append_right hm]; exact List.getElem_mem _
                          simp only [hes]; exact h1)
                        have HNW := hid (And.intro hnp (show new ≠ [] → ¬ (xk = 4 ∧ xp = (pm : Int)) from fun hn e => hn (hnk (by rw [HYK.out.1]; exact e.1) (by rw [HYK.out.2]; exact e.2))))
                        have HBX := hid hbx
                        have hle : h.s.es.length ≤ h3.s.es.length := by omega
                        clear hes hnp hnk hel HCM hbx
                        go_wp2_with (go_at_call 17; refine HLG.out.mono ?_; rintro e w21 ⟨v21, rfl, r21, k21⟩; obtain ⟨lb, ld, rfl⟩ := Gr.owns_shape r21; have H21 := hid (And.intro r21 k21); clear r21 k21)
                        go_loopw [16] (fun n wr => ∃ k : Nat, n = .int .i64 k ∧ h.s.es.length ≤ k ∧ k ≤ h3.s.es.length ∧ Hid (wr = w21)) (fun n _ => h3.s.es.length - (intOf n).toNat)
                        case atStart => exact ⟨_, rfl, Nat.le_refl _, hle, hid rfl⟩
                        case round =>
                          rename World => wr
                          obtain ⟨k, rfl, hk0, hk1, Q⟩ := hrel
                          have hwr := Q.out
                          subst hwr
                          by_cases hk : k < h3.s.es.length
                          · have hk' : (k : Int) < (h3.s.es.length : Int) := by omega
                            obtain ⟨lg, lcap, el, l0, l1, l2, l3⟩ := ents_at H21.out.1 k hk
                            cases el
                            obtain ⟨z0, z1, z2, z3, z4, z5, z6, z7, z8⟩ := nine9 ((H21.out.2.block _ (lt_of_block HBX.out) fun e => e).trans HBX.out)
                            have hen := HES.out k hk hk0
                            have hep := HNW.out.1 _ hen
                            have hnk := HNW.out.2 (List.ne_nil_of_mem hen)
                            generalize h3.s.es[k] = en at *
                            obtain ⟨ep, ecl, er, en⟩ := en
                            simp only at l0 l1 l2 l3 hep
                            have hep' : (ep == (pm : Int)) = false := by simpa using hep
                            clear hen
                            by_cases h4 : xk = 4
                            · have h5 : ¬ xp = (pm : Int) := fun e => hnk ⟨h4, e⟩
                              have h5' : (xp == (pm : Int)) = false := by simpa using h5
                              clear hnk
                              subst h4
                              go_wp2_with fail
                              refine ⟨⟨k + 1, by go_num, by omega, by omega, hid trivial⟩, by simp [intOf]; omega⟩
                            · have h4' : (xk == 4) = false := by simpa using h4
                              clear hnk
                              go_wp2_with fail
                              refine ⟨⟨k + 1, by go_num, by omega, by omega, hid trivial⟩, by simp [intOf]; omega⟩
                          · obtain rfl : k = h3.s.es.length := by omega
                            have hnl : ¬ ((h3.s.es.length : Int) < (h3.s.es.length : Int)) := by omega
                            go_wp2_with fail
                            refine ⟨⟨j + 1, q3, h3, tr ++ [(y, cd)], by go_num, by omega, hid ⟨HN20.out.quiet H21.out.2 HW20.out, Nat.le_trans HW20.out H21.out.2.size⟩⟩, by simp [intOf]; omega⟩
            · obtain rfl : j = al.length := by omega
              have hnl : ¬ ((al.length : Int) < (al.length : Int)) := by omega
              go_wp2_with fail
              go_ret
              exact ⟨rfl, D.out.1.low⟩
end Go.Proofs.YtkpckmcaeljocaaGreat
