/- What a printer writes of an expression, and of a function. -/
import Derived.Test.YtbcfbelfeaakoadDoorWriteX
namespace Go.Proofs.YtbcfbelfeaakoadDoor
open Go.ChangeShapes Go.WideShapes Go.ChangeAt Go.RowKit
/-- What is asked of expr at an expression. -/
def ExprOk (w0 : World) (b : Nat) (v : V) : Prop := ∀ (ao : Option Addr) (cap : Nat) (l : List UInt8) (w : World), Is w0 v ao → Below w0.heap.size w0 w → Bld w0.heap.size b l w → l.length + 32 * v.size ≤ 9000000 →
    Calls Tryd.prog 42 #[.pointer (some ⟨b, 0, none⟩), .agg #[.int .i64 v.kind, .int .i64 v.k, .int .i64 v.n, .slice ao v.l.length cap]] w fun e w' => e = .returned (.tuple #[]) ∧ Bld w0.heap.size b (l ++ v.text) w' ∧ Below w0.heap.size w w' ∧ Lib.OthersKept 5 (some b) w w'
set_option maxRecDepth 8000 in
set_option maxHeartbeats 4000000 in
theorem exprW_any (w0 : World) (ht : Laid w0) (b : Nat) (v : V) : ExprOk w0 b v := by
  induction v using V.ind' with
  | h v ih =>
    intro ao cap l w hI hB hb hlen
    have h1 := st_start hB hb #[.int .i64 v.kind, .int .i64 v.k, .int .i64 v.n, .slice ao v.l.length cap]
    have hfit := hI.fit
    have hhl := head_len hfit
    have hsz := size_eq v
    have hvl := sizes_len v.l
    have HTL := hid (fun x (hx : x ∈ v.l) => (show x.text.length + 1 ≤ 32 * x.size from by obtain ⟨ax, hx'⟩ := hI.kid hx; exact text_len x ax hx'))
    have HBX := hid (fun (w' : World) (l' : List UInt8) (h : St w0 b w.heap.size #[.int .i64 v.kind, .int .i64 v.k, .int .i64 v.n, .slice ao v.l.length cap] l' w') => box_cells h.box)
    have HH := hid (fun (l' : List UInt8) (w' : World) (h : St w0 b w.heap.size #[.int .i64 v.kind, .int .i64 v.k, .int .i64 v.n, .slice ao v.l.length cap] l' w') (hl : l'.length ≤ 10000000) => headW_any w0 ht b v hfit ao cap l' w' h.low h.bld hl)
    have HL := hid (And.intro (show Below w0.heap.size w (w.alloc (.cells #[.int .i64 v.kind, .int .i64 v.k, .int .i64 v.n, .slice ao v.l.length cap] 42)) from (Below.refl _ _).alloc hB.size _) (show Lib.OthersKept 5 (some b) w (w.alloc (.cells #[.int .i64 v.kind, .int .i64 v.k, .int .i64 v.n, .slice ao v.l.length cap] 42)) from (Lib.OthersKept.refl _ _ _).alloc _))
    have HE := hid (text_eq v)
    have HI := hid (And.intro hI ih)
    have hvl5 : v.l.length ≤ 9000000 := by omega
    clear hI ih hfit
    go_enter Tryd.func42, Tryd.ntmps42
    go_wp2_with (first
      | (go_at_call 66; refine (HH.out _ w2 h2 (by simp; omega)).mono ?_; rintro e w3 ⟨rfl, hb3, b3, k3⟩; have h3 := h2.next hb3 b3 k3; obtain ⟨z0, z1, z2, z3⟩ := HBX.out _ _ h3)
      | (go_at_call 43; refine (putc_st h1 40 40 rfl (by omega)).mono ?_; rintro e w2 ⟨rfl, h2, b2, k2⟩; obtain ⟨y0, y1, y2, y3⟩ := HBX.out _ _ h2))
    go_loopw [16] (fun i wr => ∃ j : Nat, j ≤ v.l.length ∧ i = .int .i64 j ∧ St w0 b w.heap.size #[.int .i64 v.kind, .int .i64 v.k, .int .i64 v.n, .slice ao v.l.length cap] (l ++ (40 :: (headX v ++ texts (v.l.take j)))) wr ∧ Below w0.heap.size w wr ∧ Lib.OthersKept 5 (some b) w wr) (fun i _ => v.l.length - (intOf i).toNat)
    case atStart =>
      refine ⟨0, Nat.zero_le _, rfl, ?_, HL.out.1.trans (b2.trans b3), HL.out.2.trans (k2.trans k3)⟩
      simpa [texts_nil] using h3
    case round =>
      obtain ⟨j, hj, rfl, h, hbw, hkw⟩ := hrel
      have hacc : (texts (v.l.take j)).length ≤ 32 * sizes (v.l.take j) := texts_len fun x hx => HTL.out x (List.mem_of_mem_take hx)
      have hstl := sizes_take_le v.l j
      by_cases hlt : j < v.l.length
      · obtain ⟨bb, oo, rfl, dh, ca, cc, ds, hk⟩ := HI.out.1.get j hlt
        obtain ⟨d0, d1, d2⟩ := head_kept (low_kept h.low) dh
        have dsk := low_kept h.low _ _ ds
        have HC := hid (HI.out.2 v.l[j] (List.getElem_mem hlt) ca cc)
        have HN := hid (texts_take v.l j hlt)
        have hst := sizes_take v.l j hlt
        have hst2 := sizes_take_le v.l (j + 1)
        have hul := HTL.out v.l[j] (List.getElem_mem hlt)
        generalize v.l[j] = u at *
        have hi := st_start h.low h.bld #[.int .i64 u.kind, .int .i64 u.k, .int .i64 u.n, .slice ca u.l.length cc]
        have HQ := hid (And.intro h (And.intro hbw hkw))
        have hBw : w0.heap.size ≤ wr.heap.size := h.low.size
        have HK := hid hk
        clear h hbw hkw dh ds hk z0 z1 z2 z3 y0 y1 y2 y3
        go_wp2_with (first
          | (go_at_call 42; refine (HC.out _ w5 HK.out h5.low h5.bld (by simp; omega)).mono ?_; rintro e w6 ⟨rfl, hb6, b6, k6⟩)
          | (go_at_call 43; refine (putc_st hi 32 32 rfl (by simp; omega)).mono ?_; rintro e w5 ⟨rfl, h5, b5, k5⟩; obtain ⟨m0, m1, m2, m3⟩ := box_cells h5.box))
        refine ⟨⟨j + 1, by omega, by go_num, ?_, HQ.out.2.1.trans (((Below.refl _ _).alloc hBw _).trans (b5.trans b6)), HQ.out.2.2.trans (((Lib.OthersKept.refl _ _ _).alloc _).trans (k5.trans k6))⟩, by simp [intOf]; omega⟩
        have h6 := ((HQ.out.1.quiet (Kp.alloc _ _)).next h5.bld b5 k5).next hb6 b6 k6
        rw [HN.out]
        simpa only [List.append_assoc, List.cons_append, List.nil_append] using h6
      · have hjl : j = v.l.length := by omega
        subst hjl
        rw [List.take_length] at h hacc
        clear z0 z1 z2 z3 y0 y1 y2 y3
        go_wp2_with (go_at_call 43; refine (putc_st h 41 41 rfl (by simp; omega)).mono ?_; rintro e w5 ⟨rfl, h5, b5, k5⟩)
        go_end0
        refine ⟨rfl, ?_, hbw.trans b5, hkw.trans k5⟩
        have h6 := h5.bld
        rw [HE.out]
        simpa only [List.append_assoc, List.cons_append, List.nil_append] using h6
set_option maxRecDepth 8000 in
set_option maxHeartbeats 2000000 in
theorem line_any (w0 : World) (ht : Laid w0) (b : Nat) (v : V) (ao : Option Addr) (cap : Nat) (l : List UInt8) (w : World) (hI : Is w0 v ao) (hB : Below w0.heap.size w0 w) (hb : Bld w0.heap.size b l w) (hlen : l.length + 37 * v.size ≤ 8000000) :
    Calls Tryd.prog 28 #[.pointer (some ⟨b, 0, none⟩), .agg #[.int .i64 v.kind, .int .i64 v.k, .int .i64 v.n, .slice ao v.l.length cap]] w fun e w' => e = .returned (.tuple #[]) ∧ Bld w0.heap.size b (l ++ lineX v) w' ∧ Below w0.heap.size w w' ∧ Lib.OthersKept 5 (some b) w w' := by
  have h1 := st_start hB hb #[.int .i64 v.kind, .int .i64 v.k, .int .i64 v.n, .slice ao v.l.length cap]
  have hvs := size_pos v
  have htl := text_len v ao hI
  have HBX := hid (fun (w' : World) (l' : List UInt8) (h : St w0 b w.heap.size #[.int .i64 v.kind, .int .i64 v.k, .int .i64 v.n, .slice ao v.l.length cap] l' w') => box_cells h.box)
  have HH := hid (fun (l' : List UInt8) (w' : World) (h : St w0 b w.heap.size #[.int .i64 v.kind, .int .i64 v.k, .int .i64 v.n, .slice ao v.l.length cap] l' w') (hl : l'.length + 32 * v.size ≤ 9000000) => exprW_any w0 ht b v ao cap l' w' hI h.low h.bld hl)
  have HL := hid (And.intro (show Below w0.heap.size w (w.alloc (.cells #[.int .i64 v.kind, .int .i64 v.k, .int .i64 v.n, .slice ao v.l.length cap] 42)) from (Below.refl _ _).alloc hB.size _) (show Lib.OthersKept 5 (some b) w (w.alloc (.cells #[.int .i64 v.kind, .int .i64 v.k, .int .i64 v.n, .slice ao v.l.length cap] 42)) from (Lib.OthersKept.refl _ _ _).alloc _))
  have HP := hid (fun (l' : List UInt8) (w' : World) (h : St w0 b w.heap.size #[.int .i64 v.kind, .int .i64 v.k, .int .i64 v.n, .slice ao v.l.length cap] l' w') (hl : l'.length ≤ 9000000) => (show Calls Tryd.prog 41 #[.pointer (some ⟨b, 0, none⟩), .string ⟨#[102, 117, 110, 32]⟩] w' _ from puts_st h [102, 117, 110, 32] (by simp; omega)))
  clear hI
  go_enter Tryd.func28, Tryd.ntmps28
  go_wp2_with (first
    | (go_at_call 43; refine (putc_st h3 10 10 rfl (by simp; omega)).mono ?_; rintro e w4 ⟨rfl, h4, b4, k4⟩)
    | (go_at_call 42; refine (HH.out _ w2 h2 (by simp; omega)).mono ?_; rintro e w3 ⟨rfl, hb3, b3, k3⟩; have h3 := h2.next hb3 b3 k3)
    | (go_at_call 41; refine (HP.out _ _ h1 (by omega)).mono ?_; rintro e w2 ⟨rfl, h2, b2, k2⟩; obtain ⟨y0, y1, y2, y3⟩ := HBX.out _ _ h2))
  go_end0
  refine ⟨rfl, ?_, HL.out.1.trans (b2.trans (b3.trans b4)), HL.out.2.trans (k2.trans (k3.trans k4))⟩
  have h5 := h4.bld
  rw [lineX]
  simpa only [List.append_assoc, List.cons_append, List.nil_append] using h5
end Go.Proofs.YtbcfbelfeaakoadDoor
