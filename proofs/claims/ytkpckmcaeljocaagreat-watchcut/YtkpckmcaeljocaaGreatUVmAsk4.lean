/- Parts. -/
import Derived.Test.YtkpckmcaeljocaaGreatUM3
namespace Go.Proofs.YtkpckmcaeljocaaGreat
open Go.ChangeShapes Go.WideShapes Go.ChangeAt Go.RowKit
open Gr (Nd Res nd0 thereB deriveOf addOf gateOf cutOf rightsN wayOf gatesOf gatesW targetOf Wf NdOk GS IntsAt)
section
variable {M : Mx} {X : Nat → Prop} {q : Vs} {s : Sg} {left fr : Nat} {w : World} {v : V} {va : Option Addr} {vc : Nat} {n : Int}
set_option maxRecDepth 8000 in
set_option maxHeartbeats 8000000 in
theorem xask_e2 (H : MS M X q s left fr w) (hr : (rightsN s.ns s.os n).testBit 3 = true) (hp : ¬ (targetOf s.ns n).plugin < 0) (hf : (funOf M.ms (targetOf s.ns n).plugin (targetOf s.ns n).func).isSome = true) (hfr : (fr : Int) < 20) (hS : v.size ≤ 500) (hI : SafeF (fun k => M.own q k ∨ X k) (fun w => Is w v va) w) (hC : CallC M fr) (hes : s.es.length + left ≤ 902000) {x : V} (hg : (crossR v (gatesOf s.ns n) left s).got = .ok x) {c : Int} (hcg : (CallF M.ms fr (targetOf s.ns n).plugin (targetOf s.ns n).func x (crossR v (gatesOf s.ns n) left s).left (crossR v (gatesOf s.ns n) left s).s).got = .error c) : Calls Tryz.prog 167 #[.pointer (some ⟨M.mb, 0, none⟩), .int .i64 n, .agg #[.int .i64 v.kind, .int .i64 v.n, .slice va v.l.length vc]] w fun e w' => MQ M X q fr (((crossR v (gatesOf s.ns n) left s).then fun x left' s' => (CallF M.ms fr (targetOf s.ns n).plugin (targetOf s.ns n).func x left' s').then fun y left2 s2 => crossR y (gatesOf s.ns n) left2 s2)) w e w' := by
  have HT := hid (xtarget_yes (H.quiet (ask_quiet w v va vc)) (.inr (.inr ⟨rfl, rfl⟩) : RBit 3 8) n hr)
  obtain ⟨kk, hk⟩ := target_ok H.gs.2 hr
  have hl1 := hk.l1
  have HX := hid (And.intro ((passed_ok (gs := gatesOf s.ns n) (v := v) H.gs.2 H.gs.1.ln).2) (Nat.le_trans (cross_pot v (gatesOf s.ns n) left s) hes))
  obtain ⟨gs, hgs⟩ : ∃ gs, gs = gatesOf s.ns n := ⟨_, rfl⟩
  have HG := hid (And.intro (gates_lt H.gs.2 H.gs.1.ln n) (fun (w' : World) (h : MS M X q s left fr w') => Gr.gates_any h.gs.1 h.gs.2 n))
  rw [← hgs] at HG HX hg hcg ⊢
  clear hgs
  have HV := hid (And.intro hS hI)
  obtain ⟨o1, ho1⟩ : ∃ o1, o1 = crossR v gs left s := ⟨_, rfl⟩
  have hxc : x.check = 0 := by
    have h1 := hg
    unfold crossR at h1
    split at h1
    · rename_i h0; cases h1; exact HX.out.1 h0
    · cases h1
  have hpot : o1.s.es.length + o1.left ≤ 902000 := by rw [ho1]; exact HX.out.2
  rw [← ho1] at hg hcg ⊢
  have HO1 := hid hg
  clear hS hI hg
  have HXC := hid (And.intro hxc (And.intro hpot hC))
  have hiv : Inv o1.s := by
    rw [ho1]
    exact (fine_cross H.inv v gs left).inv
  have HIV := hid hiv
  clear hxc hpot hC hes HX hiv
  generalize targetOf s.ns n = tn at *
  have HF := hid (fun w => xisFunc_any tn w)
  rw [decide_eq_true (show 0 ≤ tn.plugin by omega)] at HF
  obtain ⟨t0, t1, t2, t3, t4, t5⟩ := tn
  simp only [Gr.Nd.agg] at HT HF hp hf hl1
  obtain ⟨o2, ho2⟩ : ∃ o2, o2 = CallF M.ms fr t4 t5 x o1.left o1.s := ⟨_, rfl⟩
  rw [← ho2] at hcg
  have HO2 := hid (And.intro hcg ho2)
  have HT2 := hid (show (o1.then fun x left' s' => (CallF M.ms fr t4 t5 x left' s').then fun y left2 s2 => crossR y gs left2 s2) = o2 by unfold Out.then; rw [HO1.out]; simp only; rw [← ho2]; simp only [HO2.out.1])
  rw [HT2.out]
  have HO3 := hid ho1
  clear hcg ho2 ho1
  obtain ⟨j, rfl⟩ : ∃ j : Nat, t4 = j := ⟨t4.toNat, by omega⟩
  have hj : j < 4 := by omega
  have hj4 : (j : Int) < 4 := by omega
  have HH := hid H
  have HJ := hid (And.intro hj hf)
  have HFR := hid hfr
  clear H hr hp hk hl1 hf hj hfr
  go_enter Tryz.func167, Tryz.ntmps167
  go_wp2_with (first
    | (go_at_call 154; refine (xneed_yes _ _).mono ?_; rintro e w4 ⟨rfl, h4⟩; replace h4 := h4.symm; subst h4)
    | (go_at_call 175; refine (HF.out _).mono ?_; rintro e w3 ⟨rfl, q3⟩; have HS := hid ((ask_start HH.out q2 t0 t1 t2 t3 j t5).quiet q3))
    | (go_at_call 174; refine HT.out.mono ?_; rintro e w2 ⟨rfl, q2⟩))
  obtain ⟨x0, x1, x2, x3, x4, x5⟩ := Gr.six HS.out.b2
  obtain ⟨c0, c1, c2, c3⟩ := HS.out.m.cells
  obtain ⟨th, ao, pn, cap, y2, y3, y4, hP⟩ := HS.out.m.plug j HJ.out.1
  obtain ⟨p0, p1, p2, p3, p4, hhas, _⟩ := hP
  have hb : (th && decide (0 ≤ t5) && decide (t5 < (pn : Int))) = true := by rw [hhas t5]; exact HJ.out.2
  have HB := hid (fun w => xhas_any th ao pn cap y2 y3 y4 t5 w)
  rw [hb] at HB
  generalize hk2 : w2.heap.size = k2 at *
  clear hhas hb q2 q3 hk2
  go_still_tail 12, Tryz.mixedM
  go_wp2_with (first
    | (go_at_call 176; refine (HG.out.2 _ (HS.out.m.quiet Q5.out)).mono ?_; rintro e w6 ⟨sv, rfl, r6, q6⟩; obtain ⟨ga, gc, rfl⟩ := owns_shape r6; have H6 := hid (And.intro (HS.out.quiet (Q5.out.trans q6)) (ints_new (F := fun k => M.own q k ∨ (X k ∨ k = w.heap.size + 1)) r6 (ask_lt (HS.out.quiet Q5.out)))); clear r6 q6)
    | (go_at_call 166; refine (xneedRoom_yes (HS.out.m.quiet Q5.out) (by have := HFR.out; omega)).mono ?_; rintro e w6 ⟨rfl, h6⟩; replace h6 := h6.symm; subst h6)
    | (go_at_call 154; refine (xneed_yes _ _).mono ?_; rintro e w4 ⟨rfl, h4⟩; replace h4 := h4.symm; subst h4)
    | (go_at_call 104; refine (HB.out _).mono ?_; rintro e w5 ⟨rfl, q5⟩; have Q5 := hid ((Kp.drew (F := fun _ => False) w3).trans q5); have e0 := (HS.out.m.quiet Q5.out).cells.1; have e1 := (HS.out.m.quiet Q5.out).bcells.1; clear q5))
  have M6 := hid (HH.out.ext H6.out.1.q (w.heap.size + 1) (by omega) (lt_of_block H6.out.1.b1))
  obtain ⟨z0, z1, z2⟩ := box_cells H6.out.1.b0
  obtain ⟨n0, n1, n2, n3, n4, n5⟩ := Gr.six H6.out.1.b2
  have z0a := cell_on z0 (.cells #[.int .i64 0, .int .i64 0, .slice none 0 0] 38)
  have z1a := cell_on z1 (.cells #[.int .i64 0, .int .i64 0, .slice none 0 0] 38)
  have z2a := cell_on z2 (.cells #[.int .i64 0, .int .i64 0, .slice none 0 0] 38)
  have n4a := cell_on n4 (.cells #[.int .i64 0, .int .i64 0, .slice none 0 0] 38)
  have n5a := cell_on n5 (.cells #[.int .i64 0, .int .i64 0, .slice none 0 0] 38)
  clear x0 x1 x2 x3 x4 x5 c0 c1 c2 c3 p0 p1 p2 p3 p4 n0 n1 n2 n3
  have HA := hid (fun (Y : Nat → Prop) (w' : World) (m : MS M Y q s left fr w') (z : Quiet w6 w') (hY : ∀ k, k < w6.heap.size → Y k → X k ∨ k = w.heap.size + 1) => (show Calls Tryz.prog 177 #[.pointer (some ⟨M.mb, 0, none⟩), .agg #[.int .i64 v.kind, .int .i64 v.n, .slice va v.l.length vc], .slice ga gs.length gc] w' fun e w'' => MQ M Y q fr o1 w' e w'' by
    rw [HO3.out]
    refine xacross_any m v va vc gs ga gc HV.out.1 HG.out.1 ((safe_ext (b := w.heap.size + 1) HV.out.2 H6.out.1.q (by omega)).step (z.mono fun _ _ e => e.elim) fun i hi e => ?_) ((safe_quiet H6.out.2 z).mono fun i _ e => .inl e)
    rcases e with e | e
    · exact .inl e
    · exact .inr (hY i hi e)))
  have HCL := hid (fun (Y : Nat → Prop) (q7 : Vs) (w7 : World) (xa : Option Addr) (xc : Nat) (m : MS M Y q7 o1.s o1.left fr w7) (hs : SafeF (fun k => M.own q7 k ∨ Y k) (fun w => Is w x xa) w7) => (show Calls Tryz.prog 108 #[.pointer (some ⟨M.mb, 0, none⟩), .int .i64 j, .int .i64 t5, .agg #[.int .i64 x.kind, .int .i64 x.n, .slice xa x.l.length xc]] w7 fun e w' => MQ M Y q7 fr o2 w7 e w' by
    rw [HO2.out.2]
    exact HXC.out.2.2 Y q7 o1.s o1.left w7 j t5 x xa xc m HJ.out.2 HXC.out.1 HXC.out.2.1 hs))
  have HN2 := hid (show ¬ M.own q k2 from fun e => by have := HH.out.ownlt k2 (.inl e); have := H6.out.1.k2; omega)
  go_region_law ((first
      | (go_simp; go_at_call 108; first
        | (refine calls_dies (.agg #[.int .i64 0, .int .i64 0, .slice none 0 0]) ((HCL.out (fun k => (X k ∨ k = w.heap.size + 1) ∨ k = w6.heap.size) q7 _ xa xc HA7.out.1.m HA7.out.1.safe).mono fun _ _ x => x.bad HO2.out.1) ?_; intro w8 x8; obtain ⟨q8, c8, g8, m8⟩ := x8; have h3 := (g8.block HA7.out.2 (HA7.out.1.m.apart HA7.out.2).2 (HA7.out.1.m.apart HA7.out.2).1).1; obtain ⟨m0, m1, m2⟩ := box_cells h3; obtain ⟨f0, f1, f2⟩ := box_free3 h3; have hz := lt_of_block h3; clear h3; refine ⟨?_, fun hF => ?_⟩; exact ⟨rfl, MQ.mk_bad (q' := q8) (calls' := c8) HO2.out.1 ((GoesM.quiet M q H6.out.1.q).trans (HA7.out.1.g.trans g8)) (m8.less (fun i e => .inl (.inl e)) HH.out.xm) rfl⟩; have HF := hid hF; clear hF g8 m8)
        | (refine calls_dies (.agg #[.int .i64 0, .int .i64 0, .slice none 0 0]) ((HCL.out (fun k => (X k ∨ k = w.heap.size + 1) ∨ k = w7.heap.size) q7 _ xa xc (HB7.out.m.ext (Kp.alloc w7 (.cells #[.int .i64 0, .int .i64 0, .slice none 0 0] 38)) w7.heap.size (Nat.le_refl _) (by simp)) (safe_ext HB7.out.safe (Kp.alloc w7 (.cells #[.int .i64 0, .int .i64 0, .slice none 0 0] 38)) (Nat.le_refl _))).mono fun _ _ x => x.bad HO2.out.1) ?_; intro w8 x8; obtain ⟨q8, c8, g8, m8⟩ := x8; have hk7 : Quiet w7 (w7.alloc (.cells #[.int .i64 0, .int .i64 0, .slice none 0 0] 38)) := Kp.alloc _ _; have mm7 := HB7.out.m.ext hk7 w7.heap.size (Nat.le_refl _) (by simp); have h3 := (g8.block (heap_alloc_new w7 (.cells #[.int .i64 0, .int .i64 0, .slice none 0 0] 38)) (mm7.apart (heap_alloc_new w7 _)).2 (mm7.apart (heap_alloc_new w7 _)).1).1; obtain ⟨m0, m1, m2⟩ := box_cells h3; obtain ⟨f0, f1, f2⟩ := box_free3 h3; have hz := lt_of_block h3; clear h3 mm7; refine ⟨?_, fun hF => ?_⟩; exact ⟨rfl, MQ.mk_bad (q' := q8) (calls' := c8) HO2.out.1 ((GoesM.quiet M q H6.out.1.q).trans (HB7.out.g.trans (g8.after hk7))) (m8.less (fun i e => .inl (.inl e)) HH.out.xm) rfl⟩; have HF := hid hF; clear hF g8 m8; clear hk7)
        | (refine calls_dies (.agg #[.int .i64 0, .int .i64 0, .slice none 0 0]) ((HCL.out (fun k => X k ∨ k = w.heap.size + 1) q7 _ xa xc HB7.out.m HB7.out.safe).mono fun _ _ x => x.bad HO2.out.1) ?_; intro w8 x8; obtain ⟨q8, c8, g8, m8⟩ := x8; refine ⟨?_, fun hF => ?_⟩; exact ⟨rfl, MQ.mk_bad (q' := q8) (calls' := c8) HO2.out.1 ((GoesM.quiet M q H6.out.1.q).trans (HB7.out.g.trans g8)) (m8.less (fun i e => .inl e) HH.out.xm) rfl⟩; have HF := hid hF; clear hF g8 m8))
      | (go_simp; go_at_call 177; first
        | (refine (HA.out (fun k => (X k ∨ k = w.heap.size + 1) ∨ k = w6.heap.size) _ ((M6.out.ext (Kp.alloc w6 (.cells #[.int .i64 0, .int .i64 0, .slice none 0 0] 38)) w6.heap.size (Nat.le_refl _) (by simp)).quiet (Kp.drew _)) ((Kp.alloc w6 (.cells #[.int .i64 0, .int .i64 0, .slice none 0 0] 38)).trans (Kp.drew _)) (fun i hi e => by rcases e with e | e; exact e; omega)).mono ?_; rintro e w7 x7; obtain ⟨q7, xa, xc, rfl, g7, m7, s7⟩ := x7.ok HO1.out; have A7 := gone1 ((M6.out.ext (Kp.alloc w6 (.cells #[.int .i64 0, .int .i64 0, .slice none 0 0] 38)) w6.heap.size (Nat.le_refl _) (by simp)).quiet (Kp.drew _)) ((Kp.alloc w6 (.cells #[.int .i64 0, .int .i64 0, .slice none 0 0] 38)).trans (Kp.drew _)) H6.out.1.b1 H6.out.1.b2 HN2.out m7 g7 s7; have hb3 := (g7.block (show (w6.alloc (.cells #[.int .i64 0, .int .i64 0, .slice none 0 0] 38)).drew.heap[w6.heap.size]? = some (.cells #[.int .i64 0, .int .i64 0, .slice none 0 0] 38 (0, 0)) from heap_alloc_new w6 _) (((M6.out.ext (Kp.alloc w6 (.cells #[.int .i64 0, .int .i64 0, .slice none 0 0] 38)) w6.heap.size (Nat.le_refl _) (by simp)).quiet (Kp.drew _)).apart (heap_alloc_new w6 _)).2 (((M6.out.ext (Kp.alloc w6 (.cells #[.int .i64 0, .int .i64 0, .slice none 0 0] 38)) w6.heap.size (Nat.le_refl _) (by simp)).quiet (Kp.drew _)).apart (heap_alloc_new w6 _)).1).1; obtain ⟨_, _, _, _, u4, u5⟩ := Gr.six A7.b2; have HA7 := hid (And.intro A7 hb3); clear A7 hb3 g7 m7 s7 x7)
        | (refine (HA.out (fun k => X k ∨ k = w.heap.size + 1) _ (M6.out.quiet (Kp.drew _)) (Kp.drew _) (fun i _ e => e)).mono ?_; rintro e w7 x7; obtain ⟨q7, xa, xc, rfl, g7, m7, s7⟩ := x7.ok HO1.out; have B7 := gone1 (M6.out.quiet (Kp.drew _)) (Kp.drew _) H6.out.1.b1 H6.out.1.b2 HN2.out m7 g7 s7; obtain ⟨_, _, _, _, u4, u5⟩ := Gr.six B7.b2; have u4a := cell_on u4 (.cells #[.int .i64 0, .int .i64 0, .slice none 0 0] 38); have u5a := cell_on u5 (.cells #[.int .i64 0, .int .i64 0, .slice none 0 0] 38); have HB7 := hid B7; clear B7 g7 m7 s7 x7))))
  all_goals exact HF.out.elim
end
end Go.Proofs.YtkpckmcaeljocaaGreat
