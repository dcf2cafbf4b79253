/- Parts. -/
import Derived.Test.YtkpckmcaeljocaaGreatUV6
import Derived.Deep.CutRange
namespace Go.Proofs.YtkpckmcaeljocaaGreat
open Go.ChangeShapes Go.WideShapes Go.ChangeAt Go.RowKit
open Gr (Nd Res nd0 thereB openB deriveOf addOf gateOf cutOf cellB cellOf funcB funcOf rightsN wayOf gatesOf gatesW targetOf Wf NdOk GS IntsAt)
theorem Tryz.mixedY : Tryz.prog.follows .mixedOrders = true := by kernel_rfl
set_option maxRecDepth 8000 in
set_option maxHeartbeats 8000000 in
theorem givenLaw {T : WT} (hN : WNewC T) (hD : WDoC T) (hM : WMayC T) (hH : HHandC) (W : World) (xs : List Sx) (sa : Option Addr) (sc : Nat) (hxs : StepsAt W xs sa) (hsc : xs.length ≤ sc) :
    Calls Tryz.prog 4 #[.slice sa xs.length sc] W fun e w' => e = .returned (.bool true) ∧ Below W.heap.size W w' := by
  have HB := hid (ybegun_of hN hD hM hH W)
  have HX := hid hxs
  clear hxs
  have hsc' : (xs.length : Int) ≤ (sc : Int) := by omega
  have HG := hid (fun (w2 : World) (k : Below W.heap.size W w2) => greatHouse_any xs sa sc 120 w2 (HX.out.low k) (by decide))
  cases hg1 : greatH xs 120 with
  | true =>
    rw [hg1] at HG
    go_enter Tryz.func4, Tryz.ntmps4
    go_wp2_with (first
      | (go_at_call 8; refine (HG.out _ hl2).mono ?_; rintro e w3 ⟨rfl, q3⟩)
      | (go_at_call 7; refine HB.out.mono ?_; rintro e w2 ⟨rfl, hl2⟩))
    go_ret
    exact ⟨rfl, low_of hl2 q3 hl2.size⟩
  | false =>
    rw [hg1] at HG
    obtain ⟨hlen, hng⟩ := greatH_no hg1
    have HNG := hid hng
    clear hg1 hng
    obtain ⟨i0, hi, hz0, hz1, hz2⟩ := info_parts' Tryz.infoEv
    go_enter Tryz.func4, Tryz.ntmps4
    go_wp2_with (first
      | (go_at_call 12; refine (hN (fun _ => False) W.heap.size w3 (fun k e => e.elim) (Nat.le_trans hl2.size q3.size)).mono ?_; rintro e w5 ⟨p, q0, hMB, rfl, h5, _, q5⟩)
      | (go_at_call 8; refine (HG.out _ hl2).mono ?_; rintro e w3 ⟨rfl, q3⟩)
      | (go_at_call 7; refine HB.out.mono ?_; rintro e w2 ⟨rfl, hl2⟩))
    have F5 := hid (show GvS T W xs p q0 h00 [] none 0 [] w5 from ⟨T.step h5 (Kp.refl _ _) (fun _ _ e => by simp [rowB, Value.ownBlock] at e) (fun _ e => by simp [rowB, Value.ownBlock] at e), low_of (low_of hl2 q3 hl2.size) q5 (Nat.le_trans hl2.size q3.size), by omega, trs0, rfl, fun i h1 => by simp at h1, fun i h1 => by simp at h1, World.ownsRow_nil _ _ _ _⟩)
    have HWZ := hid (Nat.le_trans (Nat.le_trans hl2.size q3.size) q5.size)
    clear h5 hMB q5 q3 hl2 HB HG
    go_loopw [4, 5, 6] (fun e n i wr => ∃ (j : Nat) (q : T.Q) (h : Hs) (tr : List (Sp × Int)) (ea : Option Addr) (ec : Nat) (evs : List (Int × Int × Kd)), e = .slice ea j ec ∧ n = .int .i64 (h.s.es.length : Nat) ∧ i = .int .i64 j ∧ j ≤ xs.length ∧ Hid (GvS T W xs p q h tr ea ec evs wr ∧ h.s.es.length ≤ 2000 * j ∧ (∀ p, (h.hs.getD p []).length ≤ j) ∧ evs.length = j ∧ W.heap.size ≤ wr.heap.size)) (fun _ _ i _ => xs.length - (intOf i).toNat)
    case atStart => exact ⟨0, q0, h00, [], none, 0, [], rfl, rfl, rfl, Nat.zero_le _, hid ⟨F5.out, by decide, fun p => by show ((List.replicate 4 ([] : List V)).getD p []).length ≤ 0; rw [List.getD_eq_getElem?_getD, List.getElem?_replicate]; split <;> simp, rfl, HWZ.out⟩⟩
    case round =>
      clear F5 HWZ
      rename World => wq
      obtain ⟨j, q, h, tr, ea, ec, evs, rfl, rfl, rfl, hj, D⟩ := hrel
      by_cases hlt : j < xs.length
      · obtain ⟨b, off, rfl, c0, c1, c2, c3, c4, c5, c6, c7, c8, hs⟩ := (HX.out.low D.out.1.low).get j hlt
        have htl : tr.length = j := D.out.1.len.trans D.out.2.2.2.1
        have HC := hid (hD _ p q h tr wq xs[j] (toldZ xs[j]) D.out.1.s D.out.1.trs hs.fit (by have := D.out.2.1; omega) (fun p => by have := D.out.2.2.1 p; omega) (by omega) (make_at hs (HNG.out _ (List.getElem_mem hlt))))
        have HSP := hid (show ∀ c (h2 : tr.length < xs.length), ∃ c', (xs[j].sp c) = (xs[tr.length]).sp c' from fun c h2 => ⟨c, by simp only [htl]⟩)
        generalize xs[j] = x at *
        obtain ⟨xk, xp, xq, xkk, xh, xr, xg, xn, xf, xa, xc⟩ := x
        simp only [Sx.vals] at *
        clear hs
        go_wp2_with (go_at_call 13; refine HC.out.mono ?_)
        rintro e w3 ⟨c, _, q3, ao3, cap3, rfl, s3, g3, _⟩
        have HM3 := hid (D.out.1.did s3 g3)
        have HT3 := hid (D.out.1.trs.step (Sx.sp ⟨xk, xp, xq, xkk, xh, xr, xg, xn, xf, xa, xc⟩ c))
        have HA := hid (step_adds (WT.ok D.out.1.s) (Sx.sp ⟨xk, xp, xq, xkk, xh, xr, xg, xn, xf, xa, xc⟩ c))
        have HE := hid (step_may2 D.out.1.trs.ok D.out.1.trs.inv (Sx.sp ⟨xk, xp, xq, xkk, xh, xr, xg, xn, xf, xa, xc⟩ c))
        have HY := hid (HSP.out c)
        have HZ := hid (Nat.le_trans D.out.2.2.2.2 g3.kp.size)
        generalize Sx.sp ⟨xk, xp, xq, xkk, xh, xr, xg, xn, xf, xa, xc⟩ c = y at *
        generalize (stepH h y).2 = h3 at *
        generalize (stepH h y).1 = ev at *
        obtain ⟨cd, fu, v⟩ := ev
        simp only at HM3 HT3
        clear s3 g3 HC HSP
        obtain ⟨W4, hW4⟩ : ∃ W4, W4 = ((w3.alloc (.cells #[.int .i64 cd, .int .i64 fu, .int .i64 v.kind, .int .i64 v.n, .slice ao3 v.l.length cap3] 40)).alloc (.cells #[.int .i64 0, .int .i64 0] 27)) := ⟨_, rfl⟩
        have a3 : Quiet w3 W4 := by rw [hW4]; exact (Kp.alloc _ _).trans (Kp.alloc _ _)
        have a4 : Quiet W4 (W4.alloc (.cells #[.int .i64 cd, .int .i64 fu, .int .i64 v.kind, .int .i64 v.n, .slice ao3 v.l.length cap3] 40)) := Kp.alloc _ _
        have HZ4 := Nat.le_trans HZ.out a3.size
        have HM5 := hid ((HM3.out.quiet a3 HZ.out).quiet a4 HZ4)
        have HW5 := hid (Nat.le_trans HZ4 a4.size)
        have HZ4' := hid HZ4
        have HZZ := hid (show W4.heap.size = w3.heap.size + 1 + 1 by rw [hW4]; simp)
        clear a3 a4 HZ4
        obtain rfl : evs.length = j := D.out.2.2.2.1
        have hev : evs.length ≤ 120 := by omega
        go_wp2_with (first
          | (go_at_call 17; refine (Wo.log_any _ w6 _ _ _ _ (WT.ws H6.out.1.s) (by have := H6.out.2.1; omega)).mono ?_; rintro e w7 ⟨v7, rfl, r7, k7⟩; obtain ⟨la, lc, rfl⟩ := Gr.owns_shape r7; have H7 := hid (And.intro r7 k7); clear r7 k7)
          | (at_builtin; rw [← hW4]; refine wpList_append_lies _ rfl (.tmp 35) (.tmp 37) 25 rfl W.heap.size 40 i0 _ 5 56 Tryz.undEv hi hz0 hz1 hz2 rfl (by decide) (.slice ea evs.length ec) evs.length (evC evs) rfl HM5.out.row ⟨W4.heap.size, 0, none⟩ 1 1 (evC1 (cd, fu, (v, ao3, cap3))) (by rw [HZZ.out]; rfl) rfl (Gr.news_of (t := 40) (l := evC1 (cd, fu, (v, ao3, cap3))) (heap_alloc_new W4 _)) (evC1_one _) (by decide) (by unfold maxLen; omega) (by omega) HW5.out _ rfl ?_; intro gg cap6 w6 hr6 hg6 hat6 hlt6; have h6 := GvM.push D.out.1 HM5.out HT3.out rfl HY.out hr6 hg6 (by rcases hat6 with e | e; exact .inl e; exact .inr (Nat.le_of_eq e.symm)) HW5.out; obtain ⟨m1, m2, m3, m4⟩ := WT.cells h6.s; have HC6 := hid (row_cap hr6); have H6 := hid (And.intro h6 (And.intro (show h3.s.es.length ≤ 2000 * (evs.length + 1) by have := HA.out.1; have := D.out.2.1; omega) (And.intro (show ∀ p, (h3.hs.getD p []).length ≤ evs.length + 1 from fun p => by have := HA.out.2 p; have := D.out.2.2.1 p; omega) (Nat.le_trans HW5.out hg6.size)))); clear h6 hr6 hg6 hat6 hlt6))
        obtain ⟨new, hes, hnew⟩ := HE.out
        have HNW := hid hnew
        have HES := hid (show ∀ k (hk : k < h3.s.es.length), h.s.es.length ≤ k → h3.s.es[k] ∈ new from fun k hk hm => by
          have h1 : (h.s.es ++ new)[k]'(by rw [← hes]; exact hk) ∈ new := by
            rw [List.getElem_append_right hm]; exact List.getElem_mem _
          simp only [hes]; exact h1)
        have hle : h.s.es.length ≤ h3.s.es.length := by rw [hes]; simp
        have HSC := hid (fun (w' : World) (k : Quiet w7 w') => ((H6.out.1.sc HX.out (by simp; have := D.out.1.len; omega)).quiet (H7.out.2.trans k)).less)
        have HYS := hid (fun (w' : World) (k : Quiet w7 w') => WT.quiet H6.out.1.s (H7.out.2.trans k))
        have HLR := hid (fun (w' : World) (k : Quiet w7 w') => k.row H7.out.1 fun _ _ e => e)
        have HTL := hid (show tr.length = evs.length from D.out.1.len)
        have HTS := hid D.out.1.trs
        have hbd : h3.s.es.length ≤ 300000 := by have := H6.out.2.1; omega
        clear hes hnew HE HM5 HM3 HT3 HA HZ4' HW5 HZZ hW4 hi hz0 hz1 hz2 c0 c1 c2 c3 c4 c5 c6 c7 c8 m1 m2 m3 m4 D
        go_loopw [5] (fun n wr => ∃ k : Nat, n = .int .i64 k ∧ h.s.es.length ≤ k ∧ k ≤ h3.s.es.length ∧ Hid (Quiet w7 wr)) (fun n _ => h3.s.es.length - (intOf n).toNat)
        case atStart => exact ⟨_, rfl, Nat.le_refl _, hle, hid (Kp.refl _ _)⟩
        case round =>
          rename World => wr
          obtain ⟨k, rfl, hk0, hk1, Q⟩ := hrel
          by_cases hk : k < h3.s.es.length
          · have hk' : (k : Int) < (h3.s.es.length : Int) := by omega
            obtain ⟨lg, lcap, el, l0, l1, l2, l3⟩ := ents_at (HLR.out wr Q.out) k hk
            cases el
            obtain ⟨hpl, bit, hbit, hright, hmay, hthere, htp, htc, hway⟩ := HNW.out _ (HES.out k hk hk0)
            generalize h3.s.es[k] = en at *
            obtain ⟨ep, ecl, er, en⟩ := en
            simp only at l0 l1 l2 l3 hpl hright hmay hthere htp htc hway
            subst hright
            obtain ⟨wn, hwn⟩ : ∃ wn, wn = wr.alloc (.cells #[.int .i64 ep, .int .i64 ecl, .int .i64 (rbit bit), .int .i64 en] 70) := ⟨_, rfl⟩
            have qn : Quiet w7 wn := by rw [hwn]; exact Q.out.trans (Kp.alloc _ _)
            have bn : wn.heap[wr.heap.size]? = some (.cells #[.int .i64 ep, .int .i64 ecl, .int .i64 (rbit bit), .int .i64 en] 70 (0, 0)) := by rw [hwn]; exact heap_alloc_new wr _
            have HMD := hid (fun (w' : World) (z : Quiet wn w') => maydo_any xs _ _ sc cap6 tr ep ecl bit w' (HSC.out w' (qn.trans z)) HTS.out.ok HTS.out.rights hpl (by have := HTL.out; omega) hbit hmay)
            rw [HTL.out] at HMD
            have HBN := hid (And.intro qn bn)
            have HWY := hid (And.intro hthere (And.intro htp (And.intro htc hway)))
            have HRB := hid (fun (a : Nat) (h1 : a ≤ 15) (h2 : a.testBit bit = true) => (show (bits .and .i64 (a : Int) (rbit bit) != rbit bit) = false from by have := rbitY_and a bit h1 hbit; rw [h2] at this; simp [bne, this]))
            generalize rbit bit = rt at *
            have hkx : (evs.length : Int) ≤ xs.length := by omega
            have hky : (evs.length : Int) ≤ (evs.length : Int) + 1 := by omega
            clear qn bn hpl hmay hthere htp htc hway
            generalize Value.tuple #[Value.agg #[.int .i64 cd, .int .i64 fu, .int .i64 v.kind, .int .i64 v.n, .slice ao3 v.l.length cap3], Value.agg #[.int .i64 0, .int .i64 0]] = z1 at *
            generalize Value.agg #[.int .i64 cd, .int .i64 fu, .int .i64 v.kind, .int .i64 v.n, .slice ao3 v.l.length cap3] = z2 at *
            generalize Value.agg #[.int .i64 xk, .int .i64 xp, .int .i64 xq, .int .i64 xkk, .int .i64 xh, .int .i64 xr, .int .i64 xg, .int .i64 xn, .slice xa xf.length xc] = z3 at *
            generalize Value.agg #[.int .i64 0, .int .i64 0] = z4 at *
            obtain ⟨n0, n1, n2, n3⟩ := ents_cells HBN.out.2
            have hc1 : (evs.length : Int) ≤ (sc : Int) := by omega
            have hc2 : (evs.length : Int) ≤ (cap6 : Int) := by have := HC6.out; omega
            go_upto_region 17 with fail
            rw [← hwn]
            clear hwn
            go_still_tail 12, Tryz.mixedY
            go_upto_region 19 with (go_at_call 16; refine (HMD.out _ (Kp.drewN _ _)).mono ?_; rintro e wm ⟨rfl, qm⟩; have QM := hid ((Kp.drewN (F := fun _ => False) wn _).trans qm); clear qm)
            have SM := HYS.out wm (HBN.out.1.trans QM.out)
            have HTG := hid (fun (w' : World) (z : Quiet wm w') => Gr.target_any (WT.gs (WT.quiet SM z)) (WT.ok SM).inv.wf en)
            have HND := hid (fun (w' : World) (z : Quiet wm w') => Gr.nodes_any (WT.gs (WT.quiet SM z)))
            have sAll := hid (fun (w' : World) (z : Quiet wm w') => show w'.cell? ⟨T.wb p, 0, none⟩ = some (.pointer (some ⟨(T.hx p).hb, 0, none⟩)) ∧ w'.cell? ⟨(T.hx p).hb, 0, none⟩ = some (.pointer (some ⟨(T.hx p).bb, 0, none⟩)) ∧ w'.cell? ⟨(T.hx p).bb, 0, none⟩ = some (.pointer (some ⟨(T.hx p).g, 0, none⟩)) ∧ w'.cell? ⟨wr.heap.size, 3, none⟩ = some (.int .i64 en) from by
              obtain ⟨a1, a2, a3, _⟩ := WT.cells (WT.quiet SM z)
              exact ⟨a1, a2, a3, (QM.out.trans z).cell n3 fun e => e⟩)
            have HWF := hid (WT.ok SM).inv.wf
            have HNL := hid (WT.ok SM).inv.ln
            rw [HWY.out.1] at HTG
            have HTP := hid HWY.out.2.1
            have HTC := hid HWY.out.2.2.1
            generalize targetOf h3.s.ns en = tgt at HTG HTP HTC
            obtain ⟨tp, tg, tt, tc, tl, tf⟩ := tgt
            rw [show ∀ n : Nd, n.agg = .agg #[.int .i64 n.parent, .int .i64 n.gate, .int .i64 n.rights, .int .i64 n.cell, .int .i64 n.plugin, .int .i64 n.func] from fun _ => rfl] at HTG
            simp only at HTG HTP HTC
            obtain ⟨s1, s2, s3, s4⟩ := sAll.out wm (Kp.refl _ _)
            clear SM HMD
            go_cut [11, 12] from 74 to 89 (fun pt okv wx => ∃ tb, pt = .pointer (some ⟨tb, 0, none⟩) ∧ okv = .bool true ∧ Hid (Quiet wm wx ∧ wx.heap[tb]? = some (.cells #[.int .i64 tp, .int .i64 tg, .int .i64 tt, .int .i64 tc, .int .i64 tl, .int .i64 tf] 72 (0, 0))))
            case first =>
              clear HRB HND HWF HNL HTP HTC HWY HSC HYS HLR HES HNW HTS HTL H6 H7 HX HNG HC6 HBN HZ HY Q QM hsc hsc' hlen hlt hj hle hbd hk hk' hk0 hk1 hkx hky hc1 hc2 l0 l1 l2 l3 n0 n1 n2
              have z0 : Quiet wm wm.drew := Kp.drew _
              obtain ⟨s1a, s2a, s3a, s4a⟩ := sAll.out (wm.alloc (.cells #[.int .i64 0, .int .i64 0, .int .i64 0, .int .i64 0, .int .i64 0, .int .i64 0] 72)) (Kp.alloc _ _)
              go_region_law ((go_simp; go_at_call 18; refine (HTG.out _ (by first | with_reducible exact Kp.drew _ | with_reducible exact (Kp.alloc _ _).trans (Kp.drew _))).mono ?_; rintro e wt ⟨rfl, qt⟩; first
                  | (have bt := (qt.block wm.heap.size (by simp) (fun e => e)).trans (heap_alloc_new wm (.cells #[.int .i64 0, .int .i64 0, .int .i64 0, .int .i64 0, .int .i64 0, .int .i64 0] 72)); have zt := ((Kp.alloc (F := fun _ => False) wm (.cells #[.int .i64 0, .int .i64 0, .int .i64 0, .int .i64 0, .int .i64 0, .int .i64 0] 72)).trans (Kp.drew _)).trans qt; obtain ⟨⟨o0, o1, o2, o3, o4, o5⟩, f0, f1, f2, f3, f4, f5⟩ := six_cells bt; have hzt := lt_of_block bt; have ZB := hid (And.intro (zt.fresh ((six_set wt wm.heap.size (.int .i64 tp) (.int .i64 tg) (.int .i64 tt) (.int .i64 tc) (.int .i64 tl) (.int .i64 tf)).mono fun i _ e => by omega)) (sixY_put bt (.int .i64 tp) (.int .i64 tg) (.int .i64 tt) (.int .i64 tc) (.int .i64 tl) (.int .i64 tf))); clear z0 qt bt)
                  | (have zt := z0.trans qt; have ZT := hid (And.intro zt (heap_alloc_new wt (.cells #[.int .i64 tp, .int .i64 tg, .int .i64 tt, .int .i64 tc, .int .i64 tl, .int .i64 tf] 72))); clear z0 qt)))
              all_goals
                go_wp2_with fail
                go_meet
                first
                  | exact ⟨_, rfl, rfl, hid ⟨ZT.out.1.trans (Kp.alloc _ _), ZT.out.2⟩⟩
                  | exact ⟨_, rfl, rfl, hid ⟨ZB.out.1, ZB.out.2⟩⟩
            case rest =>
              rename World => wt
              obtain ⟨tb, rfl, rfl, HT9⟩ := hcut
              obtain ⟨⟨o0, o1, o2, o3, o4, o5⟩, _⟩ := six_cells HT9.out.2
              obtain ⟨s1, s2, s3, s4⟩ := sAll.out wt HT9.out.1
              have qE := QM.out.trans HT9.out.1
              have y1 := qE.cell n1 fun e => e
              have y2 := qE.cell n2 fun e => e
              have y3 := qE.cell n3 fun e => e
              have HNR := hid (HND.out wt HT9.out.1)
              have htl0 : ¬ 0 ≤ tl := by have := HTP.out; omega
              have htl1 : decide (0 ≤ tl) = false := by simpa using htl0
              obtain rfl : tc = ecl := HTC.out
              have htc1 : (tc != tc) = false := by simp
              go_wp2_with (go_at_call 19; refine HNR.out.mono ?_; rintro e w8 ⟨v8, rfl, r8, q8⟩; obtain ⟨na, nc, rfl⟩ := Gr.owns_shape r8; have o3' := q8.cell o3 fun e => e; have o4' := q8.cell o4 fun e => e; have y1' := q8.cell y1 fun e => e; have y2' := q8.cell y2 fun e => e; have y3' := q8.cell y3 fun e => e; have H8 := hid (And.intro r8 q8); clear r8 q8)
              have HQ8 := hid (HBN.out.1.trans (QM.out.trans (HT9.out.1.trans H8.out.2)))
              clear o0 o1 o2 o3 o4 o5 o3' o4' s1 s2 s3 s4 qE y1 y2 y3 y1' HNR
              go_loopw [14] (fun kv wx => ∃ kk : Int, kv = .int .i64 kk ∧ -1 ≤ kk ∧ Hid (Quiet w8 wx ∧ (0 ≤ kk → thereB h3.s.ns.length kk = true ∧ ∀ n ∈ wayOf h3.s.ns kk, n.rights.toNat.testBit bit = true))) (fun kv _ => (intOf kv + 1).toNat)
              case atStart => exact ⟨en, rfl, by have h1 := there_pos HWY.out.1; omega, hid ⟨Kp.refl _ _, fun _ => ⟨HWY.out.1, HWY.out.2.2.2⟩⟩⟩
              case round =>
                rename World => wk
                obtain ⟨kk, rfl, hkk, K3⟩ := hrel
                by_cases h0 : 0 ≤ kk
                · obtain ⟨hth, hw⟩ := K3.out.2 h0
                  obtain ⟨m, rfl⟩ : ∃ m : Nat, kk = m := ⟨kk.toNat, by omega⟩
                  have hm : m < h3.s.ns.length := by have h1 : 0 ≤ (m : Int) ∧ (m : Int) < h3.s.ns.length := by simpa [thereB] using hth
                                                     omega
                  obtain ⟨ng, rfl, hc⟩ := Gr.owns_at (K3.out.1.row H8.out.1 fun _ _ e => e) (by omega)
                  obtain ⟨d0, _, d2, _⟩ := Gr.nd_cells hc m hm
                  have hok := HWF.out m hm
                  have HWW := hid (Gr.way_yes HWF.out hm)
                  have hw1 := hw h3.s.ns[m] (by rw [HWW.out]; exact List.mem_cons_self)
                  have hp0 := hok.p0
                  have hp1 := hok.p1
                  have hr0 := hok.r0
                  have hr1 := hok.r1
                  obtain ⟨rn, hrn⟩ : ∃ rn : Nat, h3.s.ns[m].rights = rn := ⟨h3.s.ns[m].rights.toNat, by omega⟩
                  have hb3 := HRB.out rn (by omega) (by rw [hrn] at hw1; simpa using hw1)
                  rw [hrn] at d2
                  have HNX := hid (show ∀ n ∈ wayOf h3.s.ns h3.s.ns[m].parent, n.rights.toNat.testBit bit = true from fun n hn => hw n (by rw [HWW.out]; exact List.mem_cons_of_mem _ hn))
                  have HPL := hid (show 0 ≤ h3.s.ns[m].parent → thereB h3.s.ns.length h3.s.ns[m].parent = true from fun h => by simp [thereB]; omega)
                  clear hok hw hw1 hr0 hr1 hrn hth hc
                  generalize h3.s.ns[m].parent = pa at *
                  have e1 : ¬ ((h3.s.ns.length : Int) ≤ (m : Int)) := by omega
                  have e2 : decide ((h3.s.ns.length : Int) ≤ (m : Int)) = false := by simpa using hm
                  have e3 : ¬ ((m : Int) ≤ pa) := by omega
                  have e4 : decide ((m : Int) ≤ pa) = false := by simpa using hp1
                  have yc := K3.out.1.cell y2' fun e => e
                  go_wp2_with fail
                  go_quiet (fail)
                  go_wp2
                  refine ⟨⟨pa, rfl, hp0, hid ⟨K3.out.1.trans (Kp.drewN _ _), fun h => ⟨HPL.out h, HNX.out⟩⟩⟩, by simp [intOf]; omega⟩
                · have h0' : decide (0 ≤ kk) = false := by simpa using h0
                  go_wp2
                  refine ⟨⟨k + 1, by go_num, by omega, by omega, hid (HQ8.out.trans K3.out.1)⟩, by simp [intOf]; omega⟩
          · obtain rfl : k = h3.s.es.length := by omega
            have hnl : ¬ ((h3.s.es.length : Int) < (h3.s.es.length : Int)) := by omega
            go_wp2
            refine ⟨⟨evs.length + 1, q3, h3, tr ++ [(y, cd)], some ⟨gg, 0, none⟩, cap6, evs ++ [(cd, fu, (v, ao3, cap3))], rfl, rfl, by go_num, by omega, hid ⟨gvs_quiet H6.out.1 (H7.out.2.trans Q.out) H6.out.2.2.2, H6.out.2.1, H6.out.2.2.1, by simp, Nat.le_trans H6.out.2.2.2 (H7.out.2.trans Q.out).size⟩⟩, by simp [intOf]; omega⟩
      · obtain rfl : j = xs.length := by omega
        have hnl : ¬ ((xs.length : Int) < (xs.length : Int)) := by omega
        go_wp2
        go_ret
        exact ⟨rfl, D.out.1.low⟩
end Go.Proofs.YtkpckmcaeljocaaGreat
