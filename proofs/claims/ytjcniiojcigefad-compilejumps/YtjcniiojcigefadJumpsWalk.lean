/- The law CompileJumps: the walk. What is handed in may lie in marked memory: what Check tells of depth may then be anything; nothing hangs on it. -/
import Derived.Test.YtjcniiojcigefadCBegun
import Derived.Test.YtjcniiojcigefadJMath
import Derived.Test.YtjcniiojcigefadRefMod
import Derived.Deep.QuietTactic
namespace Go.Proofs.Ytjcniiojcigefad
open Go.ChangeShapes Go.WideShapes Go.ChangeAt Go.RowKit
theorem box_keeps {w w' : World} {c : Array Value} {t : TypeId} (q : Quiet (w.alloc (.cells c t)) w') : w'.heap[w.heap.size]? = some (.cells c t (0, 0)) := (q.block _ (lt_of_block (heap_alloc_new w _)) fun e => e).trans (heap_alloc_new w _)
/-- The state of the inner loop: names that are open, steps so far. -/
def JS (c : List Ik) (k : Nat) (o t : Int) : Prop := o = openL (c.take k) 0 ∧ t = tickL (c.take k)
theorem js_start (c : List Ik) : JS c 0 0 0 := ⟨rfl, rfl⟩
theorem js_next {c : List Ik} {k : Nat} {o t : Int} (h : JS c k o t) (hk : k < c.length) : JS c (k + 1) (openI c[k] o) (t + tickI c[k]) := ⟨by rw [openL_take c k hk, h.1], by rw [tickL_take c k hk, h.2]⟩
theorem js_good {c : List Ik} {k : Nat} {o t : Int} (h : JS c k o t) (hg : Goods c.length c 0 0) (hk : k < c.length) : Good c.length k c[k] o := by
  have := goods_get c.length c 0 0 hg k hk
  rw [Nat.zero_add, ← h.1] at this; exact this
set_option maxRecDepth 8000 in
set_option maxHeartbeats 8000000 in
theorem jumpsLaw (w : World) (l : List V) (la : Option Addr) (lc : Nat) (hL : Fo (thw w) l la) :
    Calls Try.prog 4 #[.agg #[.slice la l.length lc]] w fun e w' => e = .returned (.bool true) ∧ Below w.heap.size w w' := by
  have qW : Quiet w (w.alloc (.cells #[.slice la l.length lc] 24)) := Kp.alloc _ _
  have sB := hid (fun (w' : World) (q : Quiet (w.alloc (.cells #[.slice la l.length lc] 24)) w') => And.intro (mod_cell (box_keeps q)) (lt_of_block (box_keeps q)))
  have HB := hid (cbegun_any (w.alloc (.cells #[.slice la l.length lc] 24)))
  have HV := hid (hL.thawQ qW)
  clear hL
  cases hgl : great l with
  | true =>
    go_enter Try.func4, Try.ntmps4
    go_wp2_with (first
      | (go_at_call 6; refine (great_any l la lc _ (HV.out.unthaw.quiet q2)).mono ?_; rintro e w3 ⟨rfl, q3⟩; rw [hgl])
      | (go_at_call 5; refine HB.out.mono ?_; rintro e w2 ⟨rfl, q2⟩; obtain ⟨c0, d0⟩ := sB.out _ q2))
    go_ret
    exact ⟨rfl, (qW.trans (q2.trans q3)).low⟩
  | false =>
    obtain ⟨hlb, hub⟩ := great_false hgl
    have hSl := great_sizes hgl
    have hSl2 : sizes l ≤ 20000 := by omega
    have HU := hid hub
    clear hub
    have HP := hid (fun (w' : World) (h2 : Fo (thw w') l la) => make_z l la lc w' h2 hSl2)
    go_enter Try.func4, Try.ntmps4
    go_wp2_with (first
      | (go_at_call 8; refine (HP.out _ (HV.out.thawQ q3)).mono ?_)
      | (go_at_call 6; refine (great_any l la lc _ (HV.out.unthaw.quiet q2)).mono ?_; rintro e w3 ⟨rfl, q3⟩; rw [hgl]; replace q3 := q2.trans q3; obtain ⟨e0, f0⟩ := sB.out _ q3)
      | (go_at_call 5; refine HB.out.mono ?_; rintro e w2 ⟨rfl, q2⟩; obtain ⟨c0, d0⟩ := sB.out _ q2))
    rintro e w5 ⟨⟨c, a⟩, hPf, q5, hr⟩
    have Q5 := hid (q3.trans q5)
    obtain ⟨c5, d5⟩ := sB.out _ Q5.out
    clear c0 d0 e0 f0
    rcases hr with ⟨h0, he⟩ | ⟨h0, ma, mc, ps, he, hM, hps⟩
    · subst he
      have hc1 : (c != 0) = true := by simpa using h0
      go_wp2
      go_ret
      exact ⟨rfl, (qW.trans (Q5.out.trans (Kp.alloc _ _))).low⟩
    · subst he
      simp only at h0
      have HBD := hid (hPf h0).2
      have HMd := hid hM
      have HPS := hid hps
      have HQ5 := hid (qW.trans Q5.out)
      clear hM hps hPf h0 HB HP q2 q3 q5 qW
      go_wp2
      go_loopw [5] (fun i wr => ∃ j : Nat, j ≤ l.length ∧ i = .int .i64 j ∧ Hid (Quiet w5 wr)) (fun i _ => l.length - (intOf i).toNat)
      case atStart => exact ⟨0, Nat.zero_le _, rfl, Kp.alloc _ _⟩
      case round =>
        rename World => wq
        obtain ⟨j, hj, rfl, hqr⟩ := hrel
        by_cases hlt : j < l.length
        · obtain ⟨m0, n0⟩ := sB.out _ (Q5.out.trans hqr.out)
          have hbd := HBD.out l[j] (List.getElem_mem hlt)
          have hus := HU.out l[j] (List.getElem_mem hlt)
          have hfu : (l.map funC)[j]? = some (funC l[j]) := by rw [List.getElem?_map, List.getElem?_eq_getElem hlt]; rfl
          have HF := hid ((HV.out.unthaw.quiet (Q5.out.trans hqr.out)).get j hlt)
          generalize l[j] = u at *
          obtain ⟨gm, fa, fc, rfl, c0, hr0⟩ := HMd.out.get j (funC u) (by rw [HPS.out]; exact hfu)
          obtain ⟨gf, hgf, hjunk⟩ := ins_at hr0 rfl 0 (by have := funC_pos u; omega)
          clear hjunk
          subst hgf
          have hul := funC_len u
          have hup := funC_pos u
          have HG := hid (fun_good hbd)
          have HR0 := hid hr0
          generalize funC u = ci at *
          obtain ⟨nf, hnf⟩ : ∃ n, ci.length = n := ⟨_, rfl⟩
          rw [hnf] at c0 hul hup
          have HNF := hid hnf
          have c1 := hqr.out.cell c0 (fun e => e)
          clear hfu hr0 c0 hnf hbd c5 d5
          go_wp2
          go_loopw [6, 7, 8] (fun op tk i wr => ∃ (k : Nat) (o t : Int), k ≤ nf ∧ op = .int .i64 o ∧ tk = .int .i64 t ∧ i = .int .i64 k ∧ Hid (Quiet wq wr) ∧ Hid (JS ci k o t) ∧ 0 ≤ o ∧ o ≤ 12 ∧ 0 ≤ t ∧ t ≤ k) (fun _ _ i _ => nf - (intOf i).toNat)
          case atStart => exact ⟨0, 0, 0, Nat.zero_le _, rfl, rfl, rfl, Kp.refl _ _, js_start ci, by decide, by decide, by decide, by decide⟩
          case round =>
            obtain ⟨k, o, t, hk, rfl, rfl, rfl, hq3, hJ, ho0, ho12, ht0, htk⟩ := hrel
            have c4 := hq3.out.cell c1 (fun e => e)
            by_cases hk2 : k < nf
            · have hk3 : k < ci.length := by rw [HNF.out]; exact hk2
              have hrA := (hqr.out.trans hq3.out).row HR0.out (fun _ _ e => e)
              obtain ⟨g1, e1, d0, d1, d2⟩ := ins_at hrA rfl k hk3
              cases e1
              have hg := js_good hJ.out HG.out.1 hk3
              have HN := hid (js_next hJ.out hk3)
              rw [HNF.out] at hg
              generalize ci[k] = x at *
              obtain ⟨xo, xk, xn⟩ := x
              obtain ⟨gj, gv, glo, ghi, gb⟩ := hg
              simp only at d0 d1 d2 gj gv gb
              clear hk3 hrA c1
              have c5 := cell_on c4
              by_cases x100 : xo = 100
              · subst x100
                have hkn : ¬ k + 1 = nf := fun h => by have := gb.2 h; simp at this
                have hkb : ((k : Int) == (nf : Int) - 1) = false := by simp; omega
                have g1 : 0 ≤ o := glo
                have g2 : o ≤ 12 := ghi
                have HN2 := HN
                have hn0 : decide (o < 0) = false := by simp; omega
                have hn1 : decide (12 < o) = false := by simp; omega
                have hn2 : ¬ o < 0 := by omega
                have hn3 : ¬ 12 < o := by omega
                clear gj gv glo ghi gb HN
                go_wp2_with fail
                go_quiet (fail)
                go_wp2_with fail
                exact ⟨⟨k + 1, o, t + 1, by omega, by go_num, by go_num, by go_num, hq3.out.trans ((Kp.alloc _ _).trans (Kp.drewN _ _)), HN2.out, by omega, by omega, by omega, by omega⟩, by simp [intOf]; omega⟩
              by_cases x101 : xo = 101
              · subst x101
                have hkn : ¬ k + 1 = nf := fun h => by have := gb.2 h; simp at this
                have hkb : ((k : Int) == (nf : Int) - 1) = false := by simp; omega
                have g1 : 0 ≤ o + 1 := glo
                have g2 : o + 1 ≤ 12 := ghi
                have HN2 := hid (show JS ci (k + 1) (o + 1) t by have h := HN.out; rw [show tickI ⟨101, xk, xn⟩ = 0 from rfl, Int.add_zero] at h; exact h)
                have hn0 : decide (o + 1 < 0) = false := by simp; omega
                have hn1 : decide (12 < o + 1) = false := by simp; omega
                have hn2 : ¬ o + 1 < 0 := by omega
                have hn3 : ¬ 12 < o + 1 := by omega
                clear gj gv glo ghi gb HN
                go_wp2_with fail
                go_quiet (fail)
                go_wp2_with fail
                exact ⟨⟨k + 1, o + 1, t, by omega, by go_num, by go_num, by go_num, hq3.out.trans ((Kp.alloc _ _).trans (Kp.drewN _ _)), HN2.out, by omega, by omega, by omega, by omega⟩, by simp [intOf]; omega⟩
              by_cases x102 : xo = 102
              · subst x102
                have hkn : ¬ k + 1 = nf := fun h => by have := gb.2 h; simp at this
                have hkb : ((k : Int) == (nf : Int) - 1) = false := by simp; omega
                have g1 : 0 ≤ o - 1 := glo
                have g2 : o - 1 ≤ 12 := ghi
                have HN2 := hid (show JS ci (k + 1) (o - 1) t by have h := HN.out; rw [show tickI ⟨102, xk, xn⟩ = 0 from rfl, Int.add_zero] at h; exact h)
                have hn0 : decide (o - 1 < 0) = false := by simp; omega
                have hn1 : decide (12 < o - 1) = false := by simp; omega
                have hn2 : ¬ o - 1 < 0 := by omega
                have hn3 : ¬ 12 < o - 1 := by omega
                clear gj gv glo ghi gb HN
                go_wp2_with fail
                go_quiet (fail)
                go_wp2_with fail
                exact ⟨⟨k + 1, o - 1, t, by omega, by go_num, by go_num, by go_num, hq3.out.trans ((Kp.alloc _ _).trans (Kp.drewN _ _)), HN2.out, by omega, by omega, by omega, by omega⟩, by simp [intOf]; omega⟩
              by_cases x103 : xo = 103
              · subst x103
                have hkn : ¬ k + 1 = nf := fun h => by have := gb.2 h; simp at this
                have hkb : ((k : Int) == (nf : Int) - 1) = false := by simp; omega
                have g1 : 0 ≤ o := glo
                have g2 : o ≤ 12 := ghi
                have HN2 := hid (show JS ci (k + 1) (o) t by have h := HN.out; rw [show tickI ⟨103, xk, xn⟩ = 0 from rfl, Int.add_zero] at h; exact h)
                have hn0 : decide (o < 0) = false := by simp; omega
                have hn1 : decide (12 < o) = false := by simp; omega
                have hn2 : ¬ o < 0 := by omega
                have hn3 : ¬ 12 < o := by omega
                obtain ⟨j1, j2⟩ := gj (by decide)
                have hj1 : decide (xk ≤ (k : Int)) = false := by simp; omega
                have hj2 : decide ((nf : Int) ≤ xk) = false := by simp; omega
                have hj3 : ¬ xk ≤ (k : Int) := by omega
                have hj4 : ¬ (nf : Int) ≤ xk := by omega
                clear gj gv glo ghi gb HN
                go_wp2_with fail
                go_quiet (fail)
                go_wp2_with fail
                go_quiet (fail)
                go_wp2_with fail
                exact ⟨⟨k + 1, o, t, by omega, by go_num, by go_num, by go_num, hq3.out.trans ((Kp.alloc _ _).trans (Kp.drewN _ _)), HN2.out, by omega, by omega, by omega, by omega⟩, by simp [intOf]; omega⟩
              by_cases x104 : xo = 104
              · subst x104
                have hkn : ¬ k + 1 = nf := fun h => by have := gb.2 h; simp at this
                have hkb : ((k : Int) == (nf : Int) - 1) = false := by simp; omega
                have g1 : 0 ≤ o := glo
                have g2 : o ≤ 12 := ghi
                have HN2 := hid (show JS ci (k + 1) (o) t by have h := HN.out; rw [show tickI ⟨104, xk, xn⟩ = 0 from rfl, Int.add_zero] at h; exact h)
                have hn0 : decide (o < 0) = false := by simp; omega
                have hn1 : decide (12 < o) = false := by simp; omega
                have hn2 : ¬ o < 0 := by omega
                have hn3 : ¬ 12 < o := by omega
                obtain ⟨j1, j2⟩ := gj (by decide)
                have hj1 : decide (xk ≤ (k : Int)) = false := by simp; omega
                have hj2 : decide ((nf : Int) ≤ xk) = false := by simp; omega
                have hj3 : ¬ xk ≤ (k : Int) := by omega
                have hj4 : ¬ (nf : Int) ≤ xk := by omega
                clear gj gv glo ghi gb HN
                go_wp2_with fail
                go_quiet (fail)
                go_wp2_with fail
                go_quiet (fail)
                go_wp2_with fail
                exact ⟨⟨k + 1, o, t, by omega, by go_num, by go_num, by go_num, hq3.out.trans ((Kp.alloc _ _).trans (Kp.drewN _ _)), HN2.out, by omega, by omega, by omega, by omega⟩, by simp [intOf]; omega⟩
              by_cases x4 : xo = 4
              · subst x4
                have hkn : ¬ k + 1 = nf := fun h => by have := gb.2 h; simp at this
                have hkb : ((k : Int) == (nf : Int) - 1) = false := by simp; omega
                have g1 : 0 ≤ o := glo
                have g2 : o ≤ 12 := ghi
                have HN2 := hid (show JS ci (k + 1) (o) t by have h := HN.out; rw [show tickI ⟨4, xk, xn⟩ = 0 from rfl, Int.add_zero] at h; exact h)
                have hn0 : decide (o < 0) = false := by simp; omega
                have hn1 : decide (12 < o) = false := by simp; omega
                have hn2 : ¬ o < 0 := by omega
                have hn3 : ¬ 12 < o := by omega
                have hv1 := gv rfl
                have hv2 : decide (o ≤ xk) = false := by simp; omega
                have hv3 : ¬ o ≤ xk := by omega
                clear gj gv glo ghi gb HN
                go_wp2_with fail
                go_quiet (fail)
                go_wp2_with fail
                exact ⟨⟨k + 1, o, t, by omega, by go_num, by go_num, by go_num, hq3.out.trans ((Kp.alloc _ _).trans (Kp.drewN _ _)), HN2.out, by omega, by omega, by omega, by omega⟩, by simp [intOf]; omega⟩
              by_cases x105 : xo = 105
              · subst x105
                have hkn : k + 1 = nf := gb.1 rfl
                have hkb : ((k : Int) == (nf : Int) - 1) = true := by simp; omega
                have g1 : 0 ≤ o := glo
                have g2 : o ≤ 12 := ghi
                have HN2 := hid (show JS ci (k + 1) (o) t by have h := HN.out; rw [show tickI ⟨105, xk, xn⟩ = 0 from rfl, Int.add_zero] at h; exact h)
                have hn0 : decide (o < 0) = false := by simp; omega
                have hn1 : decide (12 < o) = false := by simp; omega
                have hn2 : ¬ o < 0 := by omega
                have hn3 : ¬ 12 < o := by omega
                clear gj gv glo ghi gb HN
                go_wp2_with fail
                go_quiet (fail)
                go_wp2_with fail
                exact ⟨⟨k + 1, o, t, by omega, by go_num, by go_num, by go_num, hq3.out.trans ((Kp.alloc _ _).trans (Kp.drewN _ _)), HN2.out, by omega, by omega, by omega, by omega⟩, by simp [intOf]; omega⟩
              have hkn : ¬ k + 1 = nf := fun h => x105 (gb.2 h)
              have hkb : ((k : Int) == (nf : Int) - 1) = false := by simp; omega
              have HN2 := hid (show JS ci (k + 1) o t by have h := HN.out; rw [show tickI ⟨xo, xk, xn⟩ = 0 from if_neg x100, Int.add_zero, show openI ⟨xo, xk, xn⟩ o = o by unfold openI; rw [if_neg x101, if_neg x102]] at h; exact h)
              have b100 : (xo == 100) = false := by simpa using x100
              have b101 : (xo == 101) = false := by simpa using x101
              have b102 : (xo == 102) = false := by simpa using x102
              have b103 : (xo == 103) = false := by simpa using x103
              have b104 : (xo == 104) = false := by simpa using x104
              have b4 : (xo == 4) = false := by simpa using x4
              have b105 : (xo == 105) = false := by simpa using x105
              have hn0 : decide (o < 0) = false := by simp; omega
              have hn1 : decide (12 < o) = false := by simp; omega
              have hn2 : ¬ o < 0 := by omega
              have hn3 : ¬ 12 < o := by omega
              clear gj gv glo ghi gb HN
              go_wp2_with fail
              go_quiet (fail)
              go_wp2_with fail
              exact ⟨⟨k + 1, o, t, by omega, by go_num, by go_num, by go_num, hq3.out.trans ((Kp.alloc _ _).trans (Kp.drewN _ _)), HN2.out, by omega, by omega, by omega, by omega⟩, by simp [intOf]; omega⟩
            · have hkn : k = nf := by omega
              subst hkn
              have hfin := hJ.out
              unfold JS at hfin
              rw [← HNF.out, List.take_length, HG.out.2.1, HG.out.2.2] at hfin
              obtain ⟨rfl, rfl⟩ := hfin
              obtain ⟨m0, n0⟩ := sB.out _ (Q5.out.trans (hqr.out.trans hq3.out))
              obtain ⟨bb, oo, rfl, dh, ca, cc, ds, hki⟩ := HF.out
              obtain ⟨d0, d1, d2⟩ := head_kept (low_kept hq3.out.low) dh
              have dsk := low_kept hq3.out.low _ _ ds
              have HC := hid (size_any 601 u ca cc 600 wr (by omega) (by omega) (hki.quiet hq3.out))
              clear dh ds hki c1
              go_wp2_with (go_at_call 12; refine HC.out.mono ?_; rintro e w7 ⟨r, rfl, _, _, hr7, _, q7⟩; have hr8 := hr7 hus; subst hr8; clear hr7)
              exact ⟨⟨j + 1, by omega, by go_num, hqr.out.trans (hq3.out.trans q7)⟩, by simp [intOf]; omega⟩
        · go_wp2
          go_ret
          exact ⟨rfl, (HQ5.out.trans hqr.out).low⟩
end Go.Proofs.Ytjcniiojcigefad
