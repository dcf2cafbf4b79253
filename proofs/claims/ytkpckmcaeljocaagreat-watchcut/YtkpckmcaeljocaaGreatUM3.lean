/- Parts. -/
import Derived.Test.YtkpckmcaeljocaaGreatUM2
namespace Go.Proofs.YtkpckmcaeljocaaGreat
open Go.ChangeShapes Go.WideShapes Go.ChangeAt Go.RowKit
open Gr (Nd Res nd0 thereB deriveOf addOf gateOf cutOf rightsN wayOf gatesOf gatesW targetOf Wf NdOk GS IntsAt)
section
variable {M : Mx} {X : Nat → Prop} {q : Vs} {s : Sg} {left fr : Nat} {w : World} {v : V} {va : Option Addr} {vc : Nat} {n : Int}
theorem ask_quiet (w : World) (v : V) (va : Option Addr) (vc : Nat) : Quiet w ((w.alloc (.cells #[.int .i64 v.kind, .int .i64 v.n, .slice va v.l.length vc] 38)).alloc (.cells #[.int .i64 0, .int .i64 0, .slice none 0 0] 38)) := (Kp.alloc _ _).trans (Kp.alloc _ _)
set_option maxRecDepth 8000 in
set_option maxHeartbeats 2000000 in
theorem xask_right (H : MS M X q s left fr w) (hr : (rightsN s.ns s.os n).testBit 3 = false) : Calls Tryz.prog 167 #[.pointer (some ⟨M.mb, 0, none⟩), .int .i64 n, .agg #[.int .i64 v.kind, .int .i64 v.n, .slice va v.l.length vc]] w fun e w' => MQ M X q fr (bad 9 left s) w e w' := by
  have HT := hid (xtarget_no (H.quiet (ask_quiet w v va vc)) (.inr (.inr ⟨rfl, rfl⟩) : RBit 3 8) n hr)
  have HH := hid (And.intro H (ask_quiet w v va vc))
  clear H hr
  go_enter Tryz.func167, Tryz.ntmps167
  go_wp2_with (go_at_call 174; refine HT.out.mono ?_; rintro e w2 ⟨rfl, q2⟩)
  exact ⟨rfl, MQ.mk_bad (q' := q) (calls' := fr) rfl (GoesM.quiet M q (HH.out.2.trans q2)) (HH.out.1.quiet (HH.out.2.trans q2)) rfl⟩
set_option maxRecDepth 8000 in
set_option maxHeartbeats 2000000 in
theorem xask_kind (H : MS M X q s left fr w) (hr : (rightsN s.ns s.os n).testBit 3 = true) (hp : (targetOf s.ns n).plugin < 0) : Calls Tryz.prog 167 #[.pointer (some ⟨M.mb, 0, none⟩), .int .i64 n, .agg #[.int .i64 v.kind, .int .i64 v.n, .slice va v.l.length vc]] w fun e w' => MQ M X q fr (bad 2 left s) w e w' := by
  have HT := hid (xtarget_yes (H.quiet (ask_quiet w v va vc)) (.inr (.inr ⟨rfl, rfl⟩) : RBit 3 8) n hr)
  have HH := hid (And.intro H (ask_quiet w v va vc))
  generalize targetOf s.ns n = tn at *
  have HF := hid (fun w => xisFunc_any tn w)
  rw [decide_eq_false (show ¬ 0 ≤ tn.plugin by omega)] at HF
  obtain ⟨t0, t1, t2, t3, t4, t5⟩ := tn
  simp only [Gr.Nd.agg] at HT HF
  clear H hr hp
  go_enter Tryz.func167, Tryz.ntmps167
  go_wp2_with (first
    | (go_at_call 154; refine (xneed_no _ _).mono ?_; rintro e w4 ⟨rfl, h4⟩; replace h4 := h4.symm; subst h4)
    | (go_at_call 175; refine (HF.out _).mono ?_; rintro e w3 ⟨rfl, q3⟩)
    | (go_at_call 174; refine HT.out.mono ?_; rintro e w2 ⟨rfl, q2⟩))
  have qz := (HH.out.2.trans q2).trans ((Kp.alloc _ (.cells #[.int .i64 t0, .int .i64 t1, .int .i64 t2, .int .i64 t3, .int .i64 t4, .int .i64 t5] 72)).trans q3)
  exact ⟨rfl, MQ.mk_bad (q' := q) (calls' := fr) rfl (GoesM.quiet M q qz) (HH.out.1.quiet qz) rfl⟩
structure AskS (M : Mx) (X : Nat → Prop) (q : Vs) (s : Sg) (left fr : Nat) (v : V) (va : Option Addr) (vc k2 : Nat) (t0 t1 t2 t3 t4 t5 : Int) (w wx : World) : Prop where
  m : MS M X q s left fr wx
  q : Quiet w wx
  b0 : wx.heap[w.heap.size]? = some (.cells #[.int .i64 v.kind, .int .i64 v.n, .slice va v.l.length vc] 38 (0, 0))
  b1 : wx.heap[w.heap.size + 1]? = some (.cells #[.int .i64 0, .int .i64 0, .slice none 0 0] 38 (0, 0))
  b2 : wx.heap[k2]? = some (.cells #[.int .i64 t0, .int .i64 t1, .int .i64 t2, .int .i64 t3, .int .i64 t4, .int .i64 t5] 72 (0, 0))
  k2 : w.heap.size + 2 ≤ k2
theorem AskS.quiet {k2 : Nat} {t0 t1 t2 t3 t4 t5 : Int} {wx wy : World} (H : AskS M X q s left fr v va vc k2 t0 t1 t2 t3 t4 t5 w wx) (k : Quiet wx wy) : AskS M X q s left fr v va vc k2 t0 t1 t2 t3 t4 t5 w wy :=
  ⟨H.m.quiet k, H.q.trans k, (k.block _ (lt_of_block H.b0) fun e => e).trans H.b0, (k.block _ (lt_of_block H.b1) fun e => e).trans H.b1, (k.block _ (lt_of_block H.b2) fun e => e).trans H.b2, H.k2⟩
theorem ask_start (H : MS M X q s left fr w) {w2 : World} (q2 : Quiet ((w.alloc (.cells #[.int .i64 v.kind, .int .i64 v.n, .slice va v.l.length vc] 38)).alloc (.cells #[.int .i64 0, .int .i64 0, .slice none 0 0] 38)) w2) (t0 t1 t2 t3 t4 t5 : Int) : AskS M X q s left fr v va vc w2.heap.size t0 t1 t2 t3 t4 t5 w (w2.alloc (.cells #[.int .i64 t0, .int .i64 t1, .int .i64 t2, .int .i64 t3, .int .i64 t4, .int .i64 t5] 72)) := by
  have b0 : ((w.alloc (.cells #[.int .i64 v.kind, .int .i64 v.n, .slice va v.l.length vc] 38)).alloc (.cells #[.int .i64 0, .int .i64 0, .slice none 0 0] 38)).heap[w.heap.size]? = some (.cells #[.int .i64 v.kind, .int .i64 v.n, .slice va v.l.length vc] 38 (0, 0)) := by rw [Below.heap_alloc _ _ _ (by simp)]; exact heap_alloc_new w _
  have b1 := heap_two w (.cells #[.int .i64 v.kind, .int .i64 v.n, .slice va v.l.length vc] 38) (.cells #[.int .i64 0, .int .i64 0, .slice none 0 0] 38)
  have q3 : Quiet w2 (w2.alloc (.cells #[.int .i64 t0, .int .i64 t1, .int .i64 t2, .int .i64 t3, .int .i64 t4, .int .i64 t5] 72)) := Kp.alloc _ _
  have qz := q2.trans q3
  refine ⟨H.quiet ((ask_quiet w v va vc).trans qz), (ask_quiet w v va vc).trans qz, (qz.block _ (lt_of_block b0) fun e => e).trans b0, (qz.block _ (lt_of_block b1) fun e => e).trans b1, heap_alloc_new w2 _, ?_⟩
  have := q2.size
  simp at this
  omega
set_option maxRecDepth 8000 in
set_option maxHeartbeats 4000000 in
theorem xask_none (H : MS M X q s left fr w) (hr : (rightsN s.ns s.os n).testBit 3 = true) (hp : ¬ (targetOf s.ns n).plugin < 0) (hf : (funOf M.ms (targetOf s.ns n).plugin (targetOf s.ns n).func).isSome = false) : Calls Tryz.prog 167 #[.pointer (some ⟨M.mb, 0, none⟩), .int .i64 n, .agg #[.int .i64 v.kind, .int .i64 v.n, .slice va v.l.length vc]] w fun e w' => MQ M X q fr (bad 8 left s) w e w' := by
  have HT := hid (xtarget_yes (H.quiet (ask_quiet w v va vc)) (.inr (.inr ⟨rfl, rfl⟩) : RBit 3 8) n hr)
  obtain ⟨kk, hk⟩ := target_ok H.gs.2 hr
  have hl1 := hk.l1
  generalize targetOf s.ns n = tn at *
  have HF := hid (fun w => xisFunc_any tn w)
  rw [decide_eq_true (show 0 ≤ tn.plugin by omega)] at HF
  obtain ⟨t0, t1, t2, t3, t4, t5⟩ := tn
  simp only [Gr.Nd.agg] at HT HF hp hf hl1
  obtain ⟨j, rfl⟩ : ∃ j : Nat, t4 = j := ⟨t4.toNat, by omega⟩
  have hj : j < 4 := by omega
  have hj4 : (j : Int) < 4 := by omega
  have HH := hid H
  have HJ := hid (And.intro hj hf)
  clear H hr hp hk hl1 hf hj
  go_enter Tryz.func167, Tryz.ntmps167
  go_wp2_with (first
    | (go_at_call 154; refine (xneed_yes _ _).mono ?_; rintro e w4 ⟨rfl, h4⟩; replace h4 := h4.symm; subst h4)
    | (go_at_call 175; refine (HF.out _).mono ?_; rintro e w3 ⟨rfl, q3⟩; have HS := hid ((ask_start HH.out q2 t0 t1 t2 t3 j t5).quiet q3))
    | (go_at_call 174; refine HT.out.mono ?_; rintro e w2 ⟨rfl, q2⟩))
  obtain ⟨x0, x1, x2, x3, x4, x5⟩ := Gr.six HS.out.b2
  obtain ⟨c0, c1, c2, c3⟩ := HS.out.m.cells
  obtain ⟨th, ao, pn, cap, y2, y3, y4, hP⟩ := HS.out.m.plug j HJ.out.1
  obtain ⟨p0, p1, p2, p3, p4, hhas, _⟩ := hP
  have hb : (th && decide (0 ≤ t5) && decide (t5 < (pn : Int))) = false := by rw [hhas t5]; exact HJ.out.2
  have HB := hid (fun w => xhas_any th ao pn cap y2 y3 y4 t5 w)
  rw [hb] at HB
  clear hhas hb q2 q3
  go_still_tail 12, Tryz.mixedM
  go_wp2_with (first
    | (go_at_call 154; refine (xneed_no _ _).mono ?_; rintro e w4 ⟨rfl, h4⟩; replace h4 := h4.symm; subst h4)
    | (go_at_call 104; refine (HB.out _).mono ?_; rintro e w5 ⟨rfl, q5⟩))
  have qz := (Kp.drew (F := fun _ => False) w3).trans q5
  exact ⟨rfl, MQ.mk_bad (q' := q) (calls' := fr) rfl (GoesM.quiet M q (HS.out.q.trans qz)) (HS.out.m.quiet qz) rfl⟩
end
section
variable {M : Mx} {X : Nat → Prop} {q : Vs} {s : Sg} {left fr : Nat} {w : World} {v : V} {va : Option Addr} {vc : Nat} {n : Int}
theorem ints_at_of {w : World} {B : Nat} {gs : List Int} {ga : Option Addr} {gc : Nat} (h : w.ownsRow B 3 1 (.slice ga gs.length gc) gs.length (ints gs)) : IntsAt w ga gs := by
  intro j hj
  obtain ⟨g, e, d⟩ := owns_at h (by omega)
  refine ⟨g, 0, e, ?_⟩
  rw [Nat.zero_add, d j (by omega)]
  simp [ints, hj]
theorem ints_new {w : World} {B : Nat} {gs : List Int} {ga : Option Addr} {gc : Nat} {F : Nat → Prop} (h : w.ownsRow B 3 1 (.slice ga gs.length gc) gs.length (ints gs)) (hF : ∀ k, F k → k < B) : SafeF F (fun w => IntsAt w ga gs) w := by
  intro w' k j hj
  obtain ⟨g, o, e, c⟩ := ints_at_of h j hj
  subst e
  obtain ⟨g', e', _⟩ := owns_at h (by omega)
  simp only [Option.some.injEq, Addr.mk.injEq, and_true] at e'
  obtain ⟨rfl, rfl⟩ := e'
  have hb := (h.lt g rfl).1
  exact ⟨g, 0, rfl, k.cell c fun e => by have := hF _ e; simp only at this; omega⟩
theorem gates_lt {ns : List Nd} {g : Nat} (hw : Wf ns g) (hl : ns.length ≤ 80) (n : Int) : (gatesOf ns n).length ≤ 100 := by
  have h1 := Gr.gates_len (wayOf ns n)
  have h2 := Gr.way_len hw n
  simp only [gatesOf]
  omega
theorem ask_lt {k2 : Nat} {t0 t1 t2 t3 t4 t5 : Int} {wx : World} (H : AskS M X q s left fr v va vc k2 t0 t1 t2 t3 t4 t5 w wx) : ∀ k, M.own q k ∨ (X k ∨ k = w.heap.size + 1) → k < wx.heap.size := fun k e => by
  rcases e with e | e | e
  · exact H.m.ownlt k (.inl e)
  · exact H.m.ownlt k (.inr e)
  · rw [e]; exact lt_of_block H.b1
structure Gone1 (M : Mx) (Y : Nat → Prop) (q q7 : Vs) (s7 : Sg) (left7 fr : Nat) (k1 k2 : Nat) (t0 t1 t2 t3 t4 t5 : Int) (x : V) (xa : Option Addr) (W w7 : World) : Prop where
  m : MS M Y q7 s7 left7 fr w7
  g : GoesM M q W q7 w7
  b1 : w7.heap[k1]? = some (.cells #[.int .i64 0, .int .i64 0, .slice none 0 0] 38 (0, 0))
  b2 : w7.heap[k2]? = some (.cells #[.int .i64 t0, .int .i64 t1, .int .i64 t2, .int .i64 t3, .int .i64 t4, .int .i64 t5] 72 (0, 0))
  safe : SafeF (fun k => M.own q7 k ∨ Y k) (fun w => Is w x xa) w7
theorem gone1 {Y : Nat → Prop} {q7 : Vs} {s7 : Sg} {left7 k1 k2 : Nat} {t0 t1 t2 t3 t4 t5 : Int} {x : V} {xa : Option Addr} {W W' w7 : World} (m0 : MS M Y q s left fr W') (kW : Quiet W W') (b1 : W.heap[k1]? = some (.cells #[.int .i64 0, .int .i64 0, .slice none 0 0] 38 (0, 0))) (b2 : W.heap[k2]? = some (.cells #[.int .i64 t0, .int .i64 t1, .int .i64 t2, .int .i64 t3, .int .i64 t4, .int .i64 t5] 72 (0, 0))) (hn : ¬ M.own q k2)
    (m : MS M Y q7 s7 left7 fr w7) (g : GoesM M q W' q7 w7) (hs : SafeF (fun k => M.own q7 k ∨ Y k) (fun w => Is w x xa) w7) : Gone1 M Y q q7 s7 left7 fr k1 k2 t0 t1 t2 t3 t4 t5 x xa W w7 := by
  have c1 := (kW.block _ (lt_of_block b1) fun e => e).trans b1
  have c2 := (kW.block _ (lt_of_block b2) fun e => e).trans b2
  refine ⟨m, g.after kW, (g.block c1 (m0.apart c1).2 (m0.apart c1).1).1, (g.block c2 hn fun e => ?_).1, hs⟩
  rw [e, m0.ma] at c2
  simp at c2
end
end Go.Proofs.YtkpckmcaeljocaaGreat
