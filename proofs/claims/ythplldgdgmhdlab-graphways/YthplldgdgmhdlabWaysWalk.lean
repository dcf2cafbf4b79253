/- The walk of the law GraphWays. -/
import Derived.Test.YthplldgdgmhdlabLaw
namespace Go.Proofs.Ythplldgdgmhdlab
open Go.ChangeShapes Go.WideShapes Go.ChangeAt Go.RowKit
theorem owns_cap {w : World} {base : Nat} {e : TypeId} {size : Nat} {ao : Option Addr} {cap n : Nat} {xs : List Value} (h : w.ownsRow base e size (.slice ao n cap) n xs) : n ≤ cap := by
  rcases h.2 with ⟨h', h0⟩ | ⟨g, cap', cur, h', _, _, hc, _⟩
  · omega
  · simp only [Value.slice.injEq] at h'
    obtain ⟨_, _, rfl⟩ := h'
    exact hc
set_option maxRecDepth 8000 in
set_option maxHeartbeats 20000000 in
theorem waysLaw (w : World) (ao : Option Addr) (cap : Nat) (ss : List Stp) (hS : Lies w ao ss) :
    Calls Try.prog 5 #[.slice ao ss.length cap] w fun e w' => e = .returned (.bool true) ∧ Below w.heap.size w w' := by
  have HS := hid hS
  clear hS
  by_cases hl : ss.length ≤ 150
  · go_enter Try.func5, Try.ntmps5
    go_wp2_with (first
      | (go_at_call 6; refine (begun_any _).mono ?_; rintro e w1 ⟨rfl, b1⟩)
      | (go_at_call 7; refine (new_any w.heap.size _ b1.size).mono ?_; rintro e w2 ⟨rfl, h2, k2⟩))
    have b2 := k2.qbelow b1.size b1
    generalize w1.heap.size = gb at *
    go_loopw [4] (fun i wr => ∃ (k : Nat) (ns : List Nd) (os : List Bool) (vn vo : Value), k ≤ ss.length ∧ i = .int .i64 k ∧ Below w.heap.size w wr ∧ GS 52 w.heap.size wr gb vn vo ns os ∧ Wf ns os.length) (fun i _ => ss.length - (intOf i).toNat)
    case atStart => exact ⟨0, [], [], _, _, Nat.zero_le _, rfl, b2, h2, Wf.nil _⟩
    case round =>
      clear b2 h2 k2 b1
      obtain ⟨k, ns, os, vn, vo, hk, rfl, hbel, hG, hW⟩ := hrel
      by_cases hlt : k < ss.length
      · obtain ⟨a, off, rfl, ha, c0', c1', c2', c3', c4'⟩ := HS.out k hlt
        have hstep := hid (step_len ns os ss[k])
        have hgr := hid ((step_grows ns os ss[k]).wf hW)
        have HW := hid hW
        have HB := hid hbel
        have hln := hG.ln
        clear hW hbel
        obtain ⟨hn1, hn2, hpre⟩ := hstep.out
        have HP := hid hpre
        clear hpre hstep
        generalize hx : ss[k] = x at *
        have HX := hid hx
        clear hx
        go_wp2_with (first
          | (go_at_call 8; refine (nodes_any hG).mono ?_; rintro e w3 ⟨v3, rfl, r3, q3⟩; have h3 := hG.quiet q3; have b3 := q3.qbelow hG.size HB.out; have n3 : ∀ y, v3.ownBlock = some y → ¬ Own gb vn vo y := (fun y e e2 => by have := (r3.lt y e).1; have := (hG.own y e2).2; omega); obtain ⟨a3, cap3, rfl⟩ := owns_shape r3; have b3' := b3.alloc h3.size (.cells #[.slice none 0 0, .slice none 0 0] 34); rw [← b3'.cell (by exact ha)] at c0' c1' c2' c3' c4'; clear hG q3)
          | (go_at_call 10; refine (lstep_any h3 x).mono ?_; rintro e w4 ⟨q4, vn4, vo4, rfl, h4, k4⟩; have b4 := k4.below h3 b3; obtain ⟨r4, n4⟩ := k4.row r3 n3; clear h3 b3 r3 n3 b3' k4 c0' c1' c2' c3' c4')
          | (go_at_call 8; refine (nodes_any h4).mono ?_; rintro e w5 ⟨v5, rfl, r5, q5⟩; have h5 := h4.quiet q5; have b5 := q5.qbelow h4.size b4; have r3' := q5.row r4 (fun _ _ e => e); obtain ⟨a5, cap5, rfl⟩ := owns_shape r5; have hc5 := owns_cap r5; have hl5 := h5.ln; clear h4 b4 r4 n4 q5)
          | (go_at_call 18; refine (sameNodes_any _ _ _ _ _ ns _ ns _ _ _ _ (by omega) r5 r3' HP.out (List.prefix_refl _)).mono ?_; rintro e w6 ⟨rfl, q6⟩; have HF := hid (And.intro (q6.qbelow h5.size b5) (h5.quiet q6)); clear h5 b5 r3' r5 q6))
        exact ⟨⟨k + 1, _, _, _, _, by omega, by go_num, HF.out.1, HF.out.2, hgr.out⟩, by simp [intOf]; omega⟩
      · go_wp2_with (go_at_call 8; refine (nodes_any hG).mono ?_; rintro e w3 ⟨v3, rfl, r3, q3⟩; have h3 := hG.quiet q3; have b3 := q3.qbelow hG.size hbel; obtain ⟨a3, cap3, rfl⟩ := owns_shape r3; clear hG hbel q3)
        have HR := hid r3
        have HG := hid h3
        have HB := hid b3
        have hln := h3.ln
        clear r3 h3 b3 HS
        go_loopw [8] (fun i wq => ∃ m : Nat, m ≤ ns.length ∧ i = .int .i64 m ∧ Quiet w3 wq) (fun i _ => ns.length - (intOf i).toNat)
        case atStart => exact ⟨0, Nat.zero_le _, rfl, Kp.refl _ _⟩
        case round =>
          obtain ⟨m, hm, rfl, hq⟩ := hrel
          have hG := HG.out.quiet hq
          have hB := hq.qbelow HG.out.size HB.out
          by_cases hmn : m < ns.length
          · obtain ⟨hroot, kk, hok⟩ := target_root hW (m + 1) m (by omega) hmn
            have hkm := hW m hmn
            have hr := hq.row HR.out (fun _ _ e => e)
            obtain ⟨g, cap0, hv⟩ := lies_shape hr (by omega)
            simp only [Value.slice.injEq, true_and] at hv
            obtain ⟨rfl, rfl⟩ := hv
            have hthere := there_nat hmn
            have P0 := hkm.p0
            have P1 := hkm.p1
            have R0 := hkm.r0
            have R1 := hkm.r1
            have C0 := hok.c0
            have C1 := hok.c1
            have L1 := hok.l1
            have F0 := hok.f0
            have F1 := hok.f1
            have HH := hid (And.intro hq hr)
            clear hkm hok hq hr
            generalize hx : targetOf ns m = tx at *
            obtain ⟨tp, tg, tr, tc, tl, tf⟩ := tx
            dsimp only at hroot C0 C1 L1 F0 F1
            subst hroot
            have HX := hid hx
            clear hx
            have D1 : decide ((m : Int) ≤ ns[m].parent) = false := by simp; omega
            have D2 : decide (ns[m].parent < -1) = false := by simp; omega
            have D3 : decide (ns[m].rights < 0) = false := by simp; omega
            have D4 : decide (15 < ns[m].rights) = false := by simp; omega
            have D5 : decide (tc < 0) = false := by simp; omega
            have D6 : decide (12 ≤ tc) = false := by simp; omega
            have D7 : decide (4 ≤ tl) = false := by simp; omega
            have D8 : decide (tf < 0) = false := by simp; omega
            have D9 : decide (6 ≤ tf) = false := by simp; omega
            generalize hpp : ns[m].parent = pp at *
            generalize hrr : ns[m].rights = rr at *
            go_wp2_with (go_at_call 11; refine (target_any hG hW _).mono ?_; rintro e w4 ⟨rfl, q4⟩; rw [hthere, HX.out]; simp only [Nd.agg]; have HQ4 := hid (HH.out.1.trans (q4.trans (Kp.alloc w4 (.cells #[.int .i64 (-1), .int .i64 tg, .int .i64 tr, .int .i64 tc, .int .i64 tl, .int .i64 tf] 38)))); obtain ⟨d0, d1, d2, d3, d4, d5⟩ := nd_cells' ((q4.trans (Kp.alloc w4 (.cells #[.int .i64 (-1), .int .i64 tg, .int .i64 tr, .int .i64 tc, .int .i64 tl, .int .i64 tf] 38))).row HH.out.2 (fun _ _ e => e)) m hmn; rw [hpp] at d0; rw [hrr] at d2; clear q4 hG hB)
            all_goals exact ⟨⟨m + 1, by omega, by go_num, HQ4.out⟩, by simp [intOf]; omega⟩
          · have hme : m = ns.length := by omega
            subst hme
            have hno : thereB ns.length (ns.length : Int) = false := by simp [thereB]
            have hno2 : thereB ns.length (-1) = false := by simp [thereB]
            have e1 := target_no hno
            have e2 := rights_no (os := os) hno
            have e3 := rights_no (os := os) hno2
            have E1 := hid e1
            have E2 := hid e2
            have E3 := hid e3
            clear e1 e2 e3
            go_wp2_with (first
              | (go_at_call 11; refine (target_any hG hW _).mono ?_; rintro e w4 ⟨rfl, q4⟩; rw [hno, E1.out]; simp only [Nd.agg, nd0]; have b4 := (q4.trans (Kp.alloc w4 (.cells #[.int .i64 0, .int .i64 0, .int .i64 0, .int .i64 0, .int .i64 0, .int .i64 0] 38))).qbelow hG.size hB; have h4 := hG.quiet (q4.trans (Kp.alloc w4 (.cells #[.int .i64 0, .int .i64 0, .int .i64 0, .int .i64 0, .int .i64 0, .int .i64 0] 38))); clear hG hB q4)
              | (go_at_call 9; refine (rights_any h4 hW _).mono ?_; rintro e w5 ⟨rfl, q5⟩; rw [E2.out]; have b5 := q5.qbelow h4.size b4; have h5 := h4.quiet q5; clear h4 b4 q5)
              | (go_at_call 9; refine (rights_any h5 hW _).mono ?_; rintro e w6 ⟨rfl, q6⟩; rw [E3.out]; have b6 := q6.qbelow h5.size b5; clear h5 b5 q6))
            go_ret
            exact ⟨rfl, b6⟩
  · go_enter Try.func5, Try.ntmps5
    go_wp2_with (go_at_call 6; refine (begun_any _).mono ?_; rintro e w2 ⟨rfl, b2⟩)
    go_ret
    exact ⟨rfl, b2⟩
end Go.Proofs.Ythplldgdgmhdlab
