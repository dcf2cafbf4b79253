/- Parts. -/
import Derived.Test.YtkpckmcaeljocaaGreatUM3
namespace Go.Proofs.YtkpckmcaeljocaaGreat
open Go.ChangeShapes Go.WideShapes Go.ChangeAt Go.RowKit
open Gr (Nd Res nd0 thereB deriveOf addOf gateOf cutOf rightsN wayOf gatesOf gatesW targetOf Wf NdOk GS IntsAt)
section
variable {M : Mx} {X : Nat → Prop} {q : Vs} {s : Sg} {left fr : Nat} {w : World} {v : V} {va : Option Addr} {vc : Nat} {n : Int}
set_option maxRecDepth 8000 in
set_option maxHeartbeats 8000000 in
theorem xask_deep (H : MS M X q s left fr w) (hr : (rightsN s.ns s.os n).testBit 3 = true) (hp : ¬ (targetOf s.ns n).plugin < 0) (hf : (funOf M.ms (targetOf s.ns n).plugin (targetOf s.ns n).func).isSome = true) (hfr : 20 ≤ (fr : Int)) : Calls Tryz.prog 167 #[.pointer (some ⟨M.mb, 0, none⟩), .int .i64 n, .agg #[.int .i64 v.kind, .int .i64 v.n, .slice va v.l.length vc]] w fun e w' => MQ M X q fr (bad 4 left s) w e w' := by
  have HT := hid (xtarget_yes (H.quiet (ask_quiet w v va vc)) (.inr (.inr ⟨rfl, rfl⟩) : RBit 3 8) n hr)
  obtain ⟨kk, hk⟩ := target_ok H.gs.2 hr
  have hl1 := hk.l1
  generalize targetOf s.ns n = tn at *
  have HF := hid (fun w => xisFunc_any tn w)
  rw [decide_eq_true (show 0 ≤ tn.plugin by omega)] at HF
  obtain ⟨t0, t1, t2, t3, t4, t5⟩ := tn
  simp only [Gr.Nd.agg] at HT HF hp hf hl1
  obtain ⟨j, rfl⟩ : ∃ j : Nat, t4 = j := ⟨t4.toNat, by omega⟩
  have hj : j < 4 := by omega
  have hj4 : (j : Int) < 4 := by omega
  have HH := hid H
  have HJ := hid (And.intro hj hf)
  have HFR := hid hfr
  clear H hr hp hk hl1 hf hj hfr
  go_enter Tryz.func167, Tryz.ntmps167
  go_wp2_with (first
    | (go_at_call 154; refine (xneed_yes _ _).mono ?_; rintro e w4 ⟨rfl, h4⟩; replace h4 := h4.symm; subst h4)
    | (go_at_call 175; refine (HF.out _).mono ?_; rintro e w3 ⟨rfl, q3⟩; have HS := hid ((ask_start HH.out q2 t0 t1 t2 t3 j t5).quiet q3))
    | (go_at_call 174; refine HT.out.mono ?_; rintro e w2 ⟨rfl, q2⟩))
  obtain ⟨x0, x1, x2, x3, x4, x5⟩ := Gr.six HS.out.b2
  obtain ⟨c0, c1, c2, c3⟩ := HS.out.m.cells
  obtain ⟨th, ao, pn, cap, y2, y3, y4, hP⟩ := HS.out.m.plug j HJ.out.1
  obtain ⟨p0, p1, p2, p3, p4, hhas, _⟩ := hP
  have hb : (th && decide (0 ≤ t5) && decide (t5 < (pn : Int))) = true := by rw [hhas t5]; exact HJ.out.2
  have HB := hid (fun w => xhas_any th ao pn cap y2 y3 y4 t5 w)
  rw [hb] at HB
  generalize hk2 : w2.heap.size = k2 at *
  clear hhas hb q2 q3 hk2
  go_still_tail 12, Tryz.mixedM
  go_wp2_with (first
    | (go_at_call 166; refine (xneedRoom_no (HS.out.m.quiet Q5.out) (by have := HFR.out; omega)).mono ?_; rintro e w6 ⟨rfl, h6⟩; replace h6 := h6.symm; subst h6)
    | (go_at_call 154; refine (xneed_yes _ _).mono ?_; rintro e w4 ⟨rfl, h4⟩; replace h4 := h4.symm; subst h4)
    | (go_at_call 104; refine (HB.out _).mono ?_; rintro e w5 ⟨rfl, q5⟩; have Q5 := hid ((Kp.drew (F := fun _ => False) w3).trans q5); clear q5))
  exact ⟨rfl, MQ.mk_bad (q' := q) (calls' := fr) rfl (GoesM.quiet M q (HS.out.q.trans Q5.out)) (HS.out.m.quiet Q5.out) rfl⟩
set_option maxRecDepth 8000 in
set_option maxHeartbeats 8000000 in
theorem xask_e1 (H : MS M X q s left fr w) (hr : (rightsN s.ns s.os n).testBit 3 = true) (hp : ¬ (targetOf s.ns n).plugin < 0) (hf : (funOf M.ms (targetOf s.ns n).plugin (targetOf s.ns n).func).isSome = true) (hfr : (fr : Int) < 20) (hS : v.size ≤ 500) (hI : SafeF (fun k => M.own q k ∨ X k) (fun w => Is w v va) w) {c : Int} (hg : (crossR v (gatesOf s.ns n) left s).got = .error c) : Calls Tryz.prog 167 #[.pointer (some ⟨M.mb, 0, none⟩), .int .i64 n, .agg #[.int .i64 v.kind, .int .i64 v.n, .slice va v.l.length vc]] w fun e w' => MQ M X q fr (crossR v (gatesOf s.ns n) left s) w e w' := by
  have HT := hid (xtarget_yes (H.quiet (ask_quiet w v va vc)) (.inr (.inr ⟨rfl, rfl⟩) : RBit 3 8) n hr)
  obtain ⟨kk, hk⟩ := target_ok H.gs.2 hr
  have hl1 := hk.l1
  obtain ⟨gs, hgs⟩ : ∃ gs, gs = gatesOf s.ns n := ⟨_, rfl⟩
  have HG := hid (And.intro (gates_lt H.gs.2 H.gs.1.ln n) (fun (w' : World) (h : MS M X q s left fr w') => Gr.gates_any h.gs.1 h.gs.2 n))
  rw [← hgs] at HG hg ⊢
  clear hgs
  have HV := hid (And.intro hS hI)
  clear hS hI
  generalize targetOf s.ns n = tn at *
  have HF := hid (fun w => xisFunc_any tn w)
  rw [decide_eq_true (show 0 ≤ tn.plugin by omega)] at HF
  obtain ⟨t0, t1, t2, t3, t4, t5⟩ := tn
  simp only [Gr.Nd.agg] at HT HF hp hf hl1
  obtain ⟨j, rfl⟩ : ∃ j : Nat, t4 = j := ⟨t4.toNat, by omega⟩
  have hj : j < 4 := by omega
  have hj4 : (j : Int) < 4 := by omega
  have HH := hid H
  have HJ := hid (And.intro hj hf)
  have HFR := hid hfr
  clear H hr hp hk hl1 hf hj hfr
  go_enter Tryz.func167, Tryz.ntmps167
  go_wp2_with (first
    | (go_at_call 154; refine (xneed_yes _ _).mono ?_; rintro e w4 ⟨rfl, h4⟩; replace h4 := h4.symm; subst h4)
    | (go_at_call 175; refine (HF.out _).mono ?_; rintro e w3 ⟨rfl, q3⟩; have HS := hid ((ask_start HH.out q2 t0 t1 t2 t3 j t5).quiet q3))
    | (go_at_call 174; refine HT.out.mono ?_; rintro e w2 ⟨rfl, q2⟩))
  obtain ⟨x0, x1, x2, x3, x4, x5⟩ := Gr.six HS.out.b2
  obtain ⟨c0, c1, c2, c3⟩ := HS.out.m.cells
  obtain ⟨th, ao, pn, cap, y2, y3, y4, hP⟩ := HS.out.m.plug j HJ.out.1
  obtain ⟨p0, p1, p2, p3, p4, hhas, _⟩ := hP
  have hb : (th && decide (0 ≤ t5) && decide (t5 < (pn : Int))) = true := by rw [hhas t5]; exact HJ.out.2
  have HB := hid (fun w => xhas_any th ao pn cap y2 y3 y4 t5 w)
  rw [hb] at HB
  generalize hk2 : w2.heap.size = k2 at *
  clear hhas hb q2 q3 hk2
  go_still_tail 12, Tryz.mixedM
  go_wp2_with (first
    | (go_at_call 176; refine (HG.out.2 _ (HS.out.m.quiet Q5.out)).mono ?_; rintro e w6 ⟨sv, rfl, r6, q6⟩; obtain ⟨ga, gc, rfl⟩ := owns_shape r6; have H6 := hid (And.intro (HS.out.quiet (Q5.out.trans q6)) (ints_new (F := fun k => M.own q k ∨ (X k ∨ k = w.heap.size + 1)) r6 (ask_lt (HS.out.quiet Q5.out)))); clear r6 q6)
    | (go_at_call 166; refine (xneedRoom_yes (HS.out.m.quiet Q5.out) (by have := HFR.out; omega)).mono ?_; rintro e w6 ⟨rfl, h6⟩; replace h6 := h6.symm; subst h6)
    | (go_at_call 154; refine (xneed_yes _ _).mono ?_; rintro e w4 ⟨rfl, h4⟩; replace h4 := h4.symm; subst h4)
    | (go_at_call 104; refine (HB.out _).mono ?_; rintro e w5 ⟨rfl, q5⟩; have Q5 := hid ((Kp.drew (F := fun _ => False) w3).trans q5); have e0 := (HS.out.m.quiet Q5.out).cells.1; have e1 := (HS.out.m.quiet Q5.out).bcells.1; clear q5))
  have M6 := hid (HH.out.ext H6.out.1.q (w.heap.size + 1) (by omega) (lt_of_block H6.out.1.b1))
  obtain ⟨z0, z1, z2⟩ := box_cells H6.out.1.b0
  obtain ⟨n0, n1, n2, n3, n4, n5⟩ := Gr.six H6.out.1.b2
  have z0a := cell_on z0 (.cells #[.int .i64 0, .int .i64 0, .slice none 0 0] 38)
  have z1a := cell_on z1 (.cells #[.int .i64 0, .int .i64 0, .slice none 0 0] 38)
  have z2a := cell_on z2 (.cells #[.int .i64 0, .int .i64 0, .slice none 0 0] 38)
  have n4a := cell_on n4 (.cells #[.int .i64 0, .int .i64 0, .slice none 0 0] 38)
  have n5a := cell_on n5 (.cells #[.int .i64 0, .int .i64 0, .slice none 0 0] 38)
  clear x0 x1 x2 x3 x4 x5 c0 c1 c2 c3 p0 p1 p2 p3 p4 n0 n1 n2 n3
  have HA := hid (fun (w' : World) (z : Quiet w6 w') => xacross_any (M6.out.quiet z) v va vc gs ga gc HV.out.1 HG.out.1 (safe_quiet (safe_ext HV.out.2 H6.out.1.q (by omega)) z) ((safe_quiet H6.out.2 z).mono fun i _ e => .inl e))
  have HO := hid hg
  clear hg
  go_region_dies
  all_goals
    refine (HA.out _ ?_).mono ?_
    · first | exact Kp.drew _ | exact (Kp.alloc _ _).trans (Kp.drew _) | exact (Kp.drew _).trans (Kp.alloc _ _)
    · intro e w7 x7
      obtain ⟨he, q7, c7, g7, m7⟩ := x7.bad HO.out
      subst he
      refine ⟨rfl, MQ.mk_bad (q' := q7) (calls' := c7) HO.out ?_ (m7.less (fun i e => .inl e) HH.out.xm) rfl⟩
      first
        | exact (GoesM.quiet M q (H6.out.1.q.trans (Kp.drew _))).trans g7
        | exact (GoesM.quiet M q (H6.out.1.q.trans ((Kp.alloc _ (.cells #[.int .i64 0, .int .i64 0, .slice none 0 0] 38)).trans (Kp.drew _)))).trans g7
end
end Go.Proofs.YtkpckmcaeljocaaGreat
