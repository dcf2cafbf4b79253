/- Parts. -/
import Derived.Test.YtkpckmcaeljocaaGreatUM0
import Derived.Deep.RegionWith
import Derived.Deep.CutRange
namespace Go.Proofs.YtkpckmcaeljocaaGreat
open Go.ChangeShapes Go.WideShapes Go.ChangeAt Go.RowKit
open Gr (Nd Res nd0 thereB deriveOf addOf gateOf cutOf rightsN wayOf gatesOf gatesW targetOf Wf NdOk GS IntsAt)
section
variable {M : Mx} {q : Vs} {w : World} {X : Nat → Prop} {s : Sg} {left : Nat} {calls : Int}
theorem across_safe {W W2 w2 : World} {k1 : Nat} {vn' vo' : Value} {Y : Nat → Prop} {y : V} {a : Option Addr} (H1 : MS M (fun k => X k ∨ k = k1) q s left calls W) (kW : Quiet W W2) (hY : ∀ k, Y k → (X k ∨ k = k1) ∨ k < W2.heap.size) (hs : SafeF (fun k => Gr.Own M.g vn' vo' k ∨ k < W2.heap.size) (fun w => Is w y a) w2) :
    SafeF (fun k => M.own ⟨vn', vo', q.l⟩ k ∨ Y k) (fun w => Is w y a) w2 := by
  refine hs.mono fun k _ e => ?_
  obtain ⟨pa, pb, pc, pd, hb, _⟩ := H1.box
  have hsz := kW.size
  rcases e with (e | e | e) | e
  · right; have := hb.lt; omega
  · exact .inl e
  · right; have := (hb.ws.own_lt k e).2; omega
  · right
    rcases hY k e with e | e
    · have := H1.xo k e; omega
    · exact e
theorem acrossA {W w2 : World} {k1 k2 : Nat} {o1 : Array Value} {vn' vo' : Value} {ns' : List Nd} {y : V} {a : Option Addr} (H1 : MS M (fun k => X k ∨ k = k1) q s left calls W) (bW : W.heap[k1]? = some (.cells o1 38 (0, 0))) (h2 : W.heap.size = k2)
    (hgo : Gr.Goes M.g q.n q.o (W.drew.alloc (.cells #[.int .i64 0, .int .i64 0, .slice none 0 0] 38)) vn' vo' w2) (hg : GS 101 M.B w2 M.g vn' vo' ns' s.os) (hwf : Wf ns' s.os.length) (hs : SafeF (fun k => Gr.Own M.g vn' vo' k ∨ k < (W.drew.alloc (.cells #[.int .i64 0, .int .i64 0, .slice none 0 0] 38)).heap.size) (fun w => Is w y a) w2) :
    MS M (fun k => (X k ∨ k = k1) ∨ k = k2) ⟨vn', vo', q.l⟩ { s with ns := ns', os := s.os } left calls w2 ∧ GoesM M q W ⟨vn', vo', q.l⟩ w2 ∧ w2.heap[k1]? = some (.cells o1 38 (0, 0)) ∧ w2.heap[k2]? = some (.cells #[.int .i64 0, .int .i64 0, .slice none 0 0] 38 (0, 0)) ∧ SafeF (fun k => M.own ⟨vn', vo', q.l⟩ k ∨ ((X k ∨ k = k1) ∨ k = k2)) (fun w => Is w y a) w2 := by
  subst h2
  have kW : Quiet W (W.drew.alloc (.cells #[.int .i64 0, .int .i64 0, .slice none 0 0] 38)) := (Kp.drew W).trans (Kp.alloc _ _)
  have b2 : (W.drew.alloc (.cells #[.int .i64 0, .int .i64 0, .slice none 0 0] 38)).heap[W.heap.size]? = some (.cells #[.int .i64 0, .int .i64 0, .slice none 0 0] 38 (0, 0)) := heap_alloc_new W.drew _
  have H2 := H1.ext kW W.heap.size (Nat.le_refl _) (lt_of_block b2)
  have hx := H2.graph hgo hg hwf
  have b1 := (kW.block _ (lt_of_block bW) fun e => e).trans bW
  refine ⟨hx.1, hx.2.after kW, (hx.2.block b1 (H2.apart b1).2 (H2.apart b1).1).1, (hx.2.block b2 (H2.apart b2).2 (H2.apart b2).1).1, across_safe H1 kW (fun k e => ?_) hs⟩
  rcases e with e | e
  · exact .inl e
  · right; rw [e]; exact lt_of_block b2
theorem acrossB {W w2 : World} {k1 : Nat} {o1 : Array Value} {vn' vo' : Value} {ns' : List Nd} {y : V} {a : Option Addr} (H1 : MS M (fun k => X k ∨ k = k1) q s left calls W) (bW : W.heap[k1]? = some (.cells o1 38 (0, 0)))
    (hgo : Gr.Goes M.g q.n q.o W.drew vn' vo' w2) (hg : GS 101 M.B w2 M.g vn' vo' ns' s.os) (hwf : Wf ns' s.os.length) (hs : SafeF (fun k => Gr.Own M.g vn' vo' k ∨ k < W.drew.heap.size) (fun w => Is w y a) w2) :
    MS M (fun k => X k ∨ k = k1) ⟨vn', vo', q.l⟩ { s with ns := ns', os := s.os } left calls w2 ∧ GoesM M q W ⟨vn', vo', q.l⟩ w2 ∧ w2.heap[k1]? = some (.cells o1 38 (0, 0)) ∧ SafeF (fun k => M.own ⟨vn', vo', q.l⟩ k ∨ (X k ∨ k = k1)) (fun w => Is w y a) w2 := by
  have kW : Quiet W W.drew := Kp.drew W
  have H2 := H1.quiet kW
  have hx := H2.graph hgo hg hwf
  have b1 := (kW.block _ (lt_of_block bW) fun e => e).trans bW
  exact ⟨hx.1, hx.2.after kW, (hx.2.block b1 (H2.apart b1).2 (H2.apart b1).1).1, across_safe H1 kW (fun k e => .inl e) hs⟩
structure AX (M : Mx) (X : Nat → Prop) (q q' : Vs) (s' : Sg) (left : Nat) (calls : Int) (k1 k2 : Nat) (y : V) (a : Option Addr) (c : Nat) (W wx : World) : Prop where
  m : MS M (fun k => X k ∨ k = k1) q' s' left calls wx
  g : GoesM M q W q' wx
  b1 : wx.heap[k1]? = some (.cells #[.int .i64 0, .int .i64 0, .slice none 0 0] 38 (0, 0))
  b2 : wx.heap[k2]? = some (.cells #[.int .i64 y.kind, .int .i64 y.n, .slice a y.l.length c] 38 (0, 0))
  safe : SafeF (fun k => M.own q' k ∨ (X k ∨ k = k1)) (fun w => Is w y a) wx
theorem ax_A {W w2 : World} {k1 k2 : Nat} {q' : Vs} {s' : Sg} {y : V} {a : Option Addr} (c : Nat) (h12 : k1 ≠ k2) (hw : W.heap.size ≤ k2) (hx : X M.mb)
    (h : MS M (fun k => (X k ∨ k = k1) ∨ k = k2) q' s' left calls w2 ∧ GoesM M q W q' w2 ∧ w2.heap[k1]? = some (.cells #[.int .i64 0, .int .i64 0, .slice none 0 0] 38 (0, 0)) ∧ w2.heap[k2]? = some (.cells #[.int .i64 0, .int .i64 0, .slice none 0 0] 38 (0, 0)) ∧ SafeF (fun k => M.own q' k ∨ ((X k ∨ k = k1) ∨ k = k2)) (fun w => Is w y a) w2) :
    AX M X q q' s' left calls k1 k2 y a c W (((w2.setCell ⟨k2, 0, none⟩ (.int .i64 y.kind)).setCell ⟨k2, 1, none⟩ (.int .i64 y.n)).setCell ⟨k2, 2, none⟩ (.slice a y.l.length c)) := by
  obtain ⟨h1, h2, h3, h4, h5⟩ := h
  have hk := three_set w2 k2 (.int .i64 y.kind) (.int .i64 y.n) (.slice a y.l.length c)
  exact ⟨h1.unext hk h4 (.inl hx), h2.fresh (hk.mono fun k _ e => by omega), (hk.block _ (lt_of_block h3) h12).trans h3, three_put h4 _ _ _, safe_unext h5 hk⟩
theorem ax_B {W w2 : World} {k1 : Nat} {q' : Vs} {s' : Sg} {y : V} {a : Option Addr} (c : Nat)
    (h : MS M (fun k => X k ∨ k = k1) q' s' left calls w2 ∧ GoesM M q W q' w2 ∧ w2.heap[k1]? = some (.cells #[.int .i64 0, .int .i64 0, .slice none 0 0] 38 (0, 0)) ∧ SafeF (fun k => M.own q' k ∨ (X k ∨ k = k1)) (fun w => Is w y a) w2) :
    AX M X q q' s' left calls k1 w2.heap.size y a c W (w2.alloc (.cells #[.int .i64 y.kind, .int .i64 y.n, .slice a y.l.length c] 38)) := by
  obtain ⟨h1, h2, h3, h5⟩ := h
  have hk : Quiet w2 (w2.alloc (.cells #[.int .i64 y.kind, .int .i64 y.n, .slice a y.l.length c] 38)) := Kp.alloc _ _
  exact ⟨h1.quiet hk, h2.trans (GoesM.quiet M q' hk), (hk.block _ (lt_of_block h3) fun e => e).trans h3, heap_alloc_new _ _, safe_quiet h5 hk⟩
set_option maxRecDepth 8000 in
set_option maxHeartbeats 4000000 in
theorem xacross_any (H : MS M X q s left calls w) (v : V) (ao : Option Addr) (cap : Nat) (gs : List Int) (ga : Option Addr) (gc : Nat) (hS : v.size ≤ 500) (hgl : gs.length ≤ 100)
    (hI : SafeF (fun k => M.own q k ∨ X k) (fun w => Is w v ao) w) (hG : SafeF (M.own q) (fun w => IntsAt w ga gs) w) :
    Calls Tryz.prog 177 #[.pointer (some ⟨M.mb, 0, none⟩), .agg #[.int .i64 v.kind, .int .i64 v.n, .slice ao v.l.length cap], .slice ga gs.length gc] w fun e w' => MQ M X q calls (crossR v gs left s) w e w' := by
  obtain ⟨W, hW⟩ : ∃ W, W = (w.alloc (.cells #[.int .i64 v.kind, .int .i64 v.n, .slice ao v.l.length cap] 38)).alloc (.cells #[.int .i64 0, .int .i64 0, .slice none 0 0] 38) := ⟨_, rfl⟩
  have qW : Quiet w W := by rw [hW]; exact (Kp.alloc _ _).trans (Kp.alloc _ _)
  have bV : W.heap[w.heap.size]? = some (.cells #[.int .i64 v.kind, .int .i64 v.n, .slice ao v.l.length cap] 38 (0, 0)) := by rw [hW, Below.heap_alloc _ _ _ (by simp)]; exact heap_alloc_new w _
  have bW : W.heap[w.heap.size + 1]? = some (.cells #[.int .i64 0, .int .i64 0, .slice none 0 0] 38 (0, 0)) := by rw [hW]; exact heap_two w _ _
  have H1 := H.ext qW (w.heap.size + 1) (by omega) (lt_of_block bW)
  obtain ⟨c0, c1, c2, c3⟩ := H1.cells
  obtain ⟨b0, b1⟩ := H1.bcells
  obtain ⟨z0, z1, z2⟩ := box_cells bV
  have kW2 : Quiet W (W.alloc (.cells #[.int .i64 0, .int .i64 0, .slice none 0 0] 38)) := Kp.alloc _ _
  have d0 := (H1.quiet kW2).cells.1
  have e0 := (H1.quiet kW2).bcells.1
  obtain ⟨y0, y1, y2⟩ := box_cells ((kW2.block _ (lt_of_block bV) fun e => e).trans bV)
  have hos := H1.gs.2
  have HA := hid (fun (w' : World) (k : Quiet W w') => across_c M.B M.g s.os gs v ao cap ga gc w' q.n q.o s.ns (H1.quiet k).gs.1 (H1.quiet k).gs.2 hS hgl ((safe_quiet hI (qW.trans k)).mono fun i _ e => .inl (.inr (.inl e))) ((safe_quiet hG (qW.trans k)).mono fun i _ e => .inr (.inl e)))
  obtain ⟨P, hP⟩ : ∃ P, P = passedOf s.ns s.os gs v := ⟨_, rfl⟩
  have HN := hid (show Wf P.2.2 s.os.length by rw [hP]; exact (passed_ok H1.gs.2 H1.gs.1.ln).1.wf)
  unfold crossR
  rw [← hP] at HA ⊢
  obtain ⟨y, cd, ns'⟩ := P
  simp only at HN HA ⊢
  unfold HandQ at HA
  simp only at HA
  have HH := hid (And.intro H1 (And.intro qW (And.intro bW (And.intro H.xm hW))))
  have HS := hid (show W.heap.size = w.heap.size + 1 + 1 by rw [hW]; simp)
  rw [hW] at c0 c1 c2 c3 b0 b1 z0 z1 z2 d0 e0 y0 y1 y2 HA
  clear kW2 H H1 qW bW hI hG hS hgl hos hP bV hW
  obtain ⟨o, ho⟩ : ∃ o, o = (if cd = 0 then okV y left { s with ns := ns' } else bad cd left { s with ns := ns' }) := ⟨_, rfl⟩
  rw [← ho]
  have HO := hid ho
  clear ho
  go_enter Tryz.func177, Tryz.ntmps177
  go_wp2
  go_cut [7, 8] from 9 to 21 (fun p c wx => ∃ k2 vn' vo' a cc, p = .pointer (some ⟨k2, 0, none⟩) ∧ c = .int .i64 cd ∧ Hid (AX M X q ⟨vn', vo', q.l⟩ { s with ns := ns', os := s.os } left calls (w.heap.size + 1) k2 y a cc W wx))
  case first =>
    go_region_with (go_at_call 180; first
      | (refine (HA.out _ ((Kp.drew _).trans (Kp.alloc _ (.cells #[.int .i64 0, .int .i64 0, .slice none 0 0] 38)))).mono ?_; rintro e w2 ⟨a, c, vn', vo', rfl, hs, hg, hgo⟩; rw [← HH.out.2.2.2.2] at hgo hs; have HX := hid (acrossA HH.out.1 HH.out.2.2.1 HS.out hgo hg HN.out hs); obtain ⟨m0, m1, m2⟩ := box_cells HX.out.2.2.1; obtain ⟨f0, f1, f2⟩ := box_free3 HX.out.2.2.1; have hz := lt_of_block HX.out.2.2.1; obtain ⟨l0, l1, l2⟩ := box_cells HX.out.2.2.2.1; obtain ⟨g0, g1, g2⟩ := box_free3 HX.out.2.2.2.1; have hz2 := lt_of_block HX.out.2.2.2.1; clear hs hg hgo)
      | (refine (HA.out _ (Kp.drew _)).mono ?_; rintro e w2 ⟨a, c, vn', vo', rfl, hs, hg, hgo⟩; rw [← HH.out.2.2.2.2] at hgo hs; have HX := hid (acrossB HH.out.1 HH.out.2.2.1 hgo hg HN.out hs); obtain ⟨m0, m1, m2⟩ := box_cells HX.out.2.2.1; obtain ⟨f0, f1, f2⟩ := box_free3 HX.out.2.2.1; have hz := lt_of_block HX.out.2.2.1; clear hs hg hgo))
    all_goals
      go_wp2_with fail
      go_meet
      first
        | exact ⟨_, vn', vo', a, c, rfl, rfl, ax_A c (by omega) (by rw [HS.out]; omega) HH.out.2.2.2.1 HX.out⟩
        | exact ⟨_, vn', vo', a, c, rfl, rfl, ax_B c HX.out⟩
  case rest =>
    obtain ⟨k2, vn', vo', a, cc, rfl, rfl, HX⟩ := hcut
    obtain ⟨l0, l1, l2⟩ := box_cells HX.out.b2
    obtain ⟨m0, m1, m2⟩ := box_cells HX.out.b1
    obtain ⟨f0, f1, f2⟩ := box_free3 HX.out.b1
    have hz := lt_of_block HX.out.b1
    clear d0 e0 y0 y1 y2 c0 c1 c2 c3 b0 b1 z0 z1 z2
    by_cases hc : cd = 0
    · subst hc
      go_wp2_with (go_at_call 154; refine (xneed_yes _ _).mono ?_; rintro e w4 ⟨rfl, h4⟩; replace h4 := h4.symm; subst h4)
      refine bodyPost_ret (v := .agg #[.int .i64 y.kind, .int .i64 y.n, .slice a y.l.length cc]) (by simp [results, Tryz.results177, go_sem, m0, m1, m2]) rfl ?_
      have hk := three_set wc (w.heap.size + 1) (.int .i64 y.kind) (.int .i64 y.n) (.slice a y.l.length cc)
      have ho := HO.out
      rw [if_pos trivial] at ho
      subst ho
      exact MQ.mk_ok (q' := ⟨vn', vo', q.l⟩) (v := y) (ao := a) (cap := cc) rfl ((HX.out.g.after HH.out.2.1).fresh (hk.mono fun k _ e => by omega)) (HX.out.m.unext hk HX.out.b1 HH.out.2.2.2.1) rfl (safe_unext HX.out.safe hk)
    · have hcb : (cd == 0) = false := by simpa using hc
      have HC := hid hc
      clear hc
      go_wp2_with (go_at_call 154; refine (xneed_no _ _).mono ?_; rintro e w4 ⟨rfl, h4⟩; replace h4 := h4.symm; subst h4)
      refine ⟨rfl, ?_⟩
      have ho := HO.out
      rw [if_neg HC.out] at ho
      subst ho
      exact MQ.mk_bad (q' := ⟨vn', vo', q.l⟩) (calls' := calls) rfl (HX.out.g.after HH.out.2.1) (HX.out.m.less (fun k e => .inl e) HH.out.2.2.2.1) rfl
end
end Go.Proofs.YtkpckmcaeljocaaGreat
