/- The law CompileMakes: the walk. -/
import Derived.Test.YtjcniiojcigefadCBegun
import Derived.Test.YtjcniiojcigefadRCodeO
import Derived.Test.YtjcniiojcigefadRefTell
import Derived.Test.YtjcniiojcigefadRefMod
import Derived.Deep.QuietTactic
namespace Go.Proofs.Ytjcniiojcigefad
open Go.ChangeShapes Go.WideShapes Go.ChangeAt Go.RowKit
theorem HoldL.clean {lo : Nat} {w : World} {l : List V} {ao : Option Addr} (h : HoldL lo w l ao) : Fo (cln w) l ao := h _ fun _ _ _ _ hc => cln_same hc
theorem box_keeps {w w' : World} {c : Array Value} {t : TypeId} (q : Quiet (w.alloc (.cells c t)) w') : w'.heap[w.heap.size]? = some (.cells c t (0, 0)) := (q.block _ (lt_of_block (heap_alloc_new w _)) fun e => e).trans (heap_alloc_new w _)
theorem funs_zero (F : Int) (l : List V) : ∀ i, (funs F l i).1 = 0 → funs F l i = (0, 0) := by
  induction l with
  | nil => intro i _; rfl
  | cons x l ih =>
    intro i h
    rw [funs] at h ⊢
    by_cases h0 : fun1 F x = 0
    · rw [if_pos h0] at h ⊢; exact ih _ h
    · rw [if_neg h0] at h; exact absurd h h0
theorem modFault_zero {l : List V} (h : (modFault l).1 = 0) : modFault l = (0, 0) := by
  unfold modFault at h ⊢
  by_cases h1 : l.length < 1 ∨ 6 < l.length
  · rw [if_pos h1] at h; cases h
  · rw [if_neg h1] at h ⊢; exact funs_zero _ l 0 h
/-- Make of a module in which nothing is wrong, and of another one. -/
theorem make_good (l : List V) (h : modFault l = (0, 0)) (ao : Option Addr) (cap : Nat) (w : World) (hF : Fo (cln w) l ao) (hS : sizes l ≤ 20000) :
    Calls Try.prog 8 #[.agg #[.slice ao l.length cap]] w fun e w' => ∃ ao cap ps, e = .returned (.tuple #[.slice ao l.length cap, .agg #[.int .i64 0, .int .i64 0]]) ∧ Md w.heap.size w' (.slice ao l.length cap) l.length ps ∧ ps.map (·.1) = l.map funC ∧ Quiet w w' := by
  refine (make_any l ao cap w hF hS).mono ?_
  rintro e w' ⟨f, hf, q, h'⟩
  rw [h] at hf
  subst hf
  rcases h' with ⟨h0, _⟩ | ⟨_, ao, cap, ps, he, hM, hp⟩
  · exact absurd rfl h0
  · exact ⟨ao, cap, ps, he, hM, hp, q⟩
theorem make_bad (l : List V) (c a : Int) (h : modFault l = (c, a)) (hc : c ≠ 0) (ao : Option Addr) (cap : Nat) (w : World) (hF : Fo (cln w) l ao) (hS : sizes l ≤ 20000) :
    Calls Try.prog 8 #[.agg #[.slice ao l.length cap]] w fun e w' => e = .returned (.tuple #[.slice none 0 0, .agg #[.int .i64 c, .int .i64 a]]) ∧ Quiet w w' := by
  refine (make_any l ao cap w hF hS).mono ?_
  rintro e w' ⟨f, hf, q, h'⟩
  rw [h] at hf
  subst hf
  rcases h' with ⟨_, he⟩ | ⟨h0, _⟩
  · exact ⟨he, q⟩
  · exact absurd h0 hc
set_option maxRecDepth 8000 in
set_option maxHeartbeats 8000000 in
theorem makesLaw (w : World) (l : List V) (la : Option Addr) (lc : Nat) (hL : Fo w l la) :
    Calls Try.prog 3 #[.agg #[.slice la l.length lc]] w fun e w' => e = .returned (.bool true) ∧ Below w.heap.size w w' := by
  have qW : Quiet w (w.alloc (.cells #[.slice la l.length lc] 24)) := Kp.alloc _ _
  have sB := hid (fun (w' : World) (q : Quiet (w.alloc (.cells #[.slice la l.length lc] 24)) w') => And.intro (mod_cell (box_keeps q)) (lt_of_block (box_keeps q)))
  have HB := hid (cbegun_any (w.alloc (.cells #[.slice la l.length lc] 24)))
  have HV := hid (hL.quiet qW)
  clear hL
  cases hgl : great l with
  | true =>
    go_enter Try.func3, Try.ntmps3
    go_wp2_with (first
      | (go_at_call 6; refine (great_any l la lc _ (HV.out.quiet q2)).mono ?_; rintro e w3 ⟨rfl, q3⟩; rw [hgl])
      | (go_at_call 5; refine HB.out.mono ?_; rintro e w2 ⟨rfl, q2⟩; obtain ⟨c0, d0⟩ := sB.out _ q2))
    go_ret
    exact ⟨rfl, (qW.trans (q2.trans q3)).low⟩
  | false =>
    obtain ⟨hlb, hub⟩ := great_false hgl
    have hSl := great_sizes hgl
    have hSl2 : sizes l ≤ 20000 := by omega
    have HU := hid hub
    clear hub
    have hq := eqF
    have HCF := hid (fun (w' : World) (h2 : Fo w' l la) => codeFault_any l la lc w' h2 (by omega) (fun x hx => by have := HU.out x hx; omega))
    by_cases hc0 : (modFault l).1 = 0
    · have hmf := modFault_zero hc0
      have HP := hid (fun (oa : Option Addr) (oc : Nat) (w' : World) (h2 : Fo (cln w') l oa) => make_good l hmf oa oc w' h2 hSl2)
      have HOK := hid (modFault_ok hc0)
      rw [hmf] at HCF
      clear hc0 hmf
      go_enter Try.func3, Try.ntmps3
      go_wp2_with (first
        | (go_at_call 10; refine (sameR_any l l oa la oc lc _ (HO.out.cleanQ (q8'.trans (Kp.alloc _ _))).unclean (HV.out.quiet (Q8.out.trans (Kp.alloc _ _))) hSl2).mono ?_; rintro e w9 ⟨rfl, q9⟩; rw [sames_true rfl]; have Q9 := hid (Q8.out.trans ((Kp.alloc _ _).trans q9)); obtain ⟨m0, n0⟩ := sB.out _ Q9.out; obtain ⟨r0, r1, r2, r3⟩ := fault_cells ((q9.block _ (by simp) fun e => e).trans (heap_alloc_new w8 _)))
        | (go_at_call 9; refine (HCF.out _ (HV.out.quiet (Q7.out.trans (Kp.alloc _ _)))).mono ?_; rintro e w8 ⟨rfl, q8⟩; have Q8 := hid (Q7.out.trans ((Kp.alloc _ _).trans q8)); have q8' := q7.trans ((Kp.alloc _ _).trans q8); obtain ⟨g0, h0⟩ := sB.out _ Q8.out; have g1 := mod_cell (box_keeps q8'); have h1 := lt_of_block (box_keeps q8'); obtain ⟨i0, i1, i2, i3⟩ := fault_cells (box_keeps q8); have j0 := lt_of_block (box_keeps q8))
        | (go_at_call 8; refine (HP.out oa oc _ HO.out).mono ?_; rintro e w7 ⟨ma, mc, ps, rfl, hM, hps, q7⟩; have Q7 := hid (Q5.out.trans ((Kp.alloc _ _).trans q7)); have HM := hid (And.intro hM hps); obtain ⟨c7, d7⟩ := sB.out _ Q7.out; clear hM hps)
        | (go_at_call 7; refine (ownMod_any l la lc _ (HV.out.quiet q3) hSl2).mono ?_; rintro e w5 ⟨oa, oc, rfl, hH, q5⟩; have Q5 := hid (q3.trans q5); have HO := hid (hH.clean.cleanQ (Kp.alloc w5 (.cells #[.slice oa l.length oc] 24))); clear hH)
        | (go_at_call 6; refine (great_any l la lc _ (HV.out.quiet q2)).mono ?_; rintro e w3 ⟨rfl, q3⟩; rw [hgl]; replace q3 := q2.trans q3; obtain ⟨e0, f0⟩ := sB.out _ q3)
        | (go_at_call 5; refine HB.out.mono ?_; rintro e w2 ⟨rfl, q2⟩; obtain ⟨c0, d0⟩ := sB.out _ q2))
      have HMd := hid (HM.out.1.quiet (((Kp.alloc _ _).trans q8).trans ((Kp.alloc _ _).trans q9)))
      have HPS := hid HM.out.2
      have HQ9 := hid (qW.trans Q9.out)
      obtain ⟨i0, hi, hz0, hz1, hz2⟩ := info_parts' Try.infoR
      clear c0 d0 e0 f0 c7 d7 g0 h0 g1 h1 q2 q3 q5 q7 q8 q8' q9 HO HP HCF HB HM Q5 Q7 Q8 r0 r1 r2 r3 m0 n0 qW hq j0 i1 i2 i3
      go_loopw [7] (fun i wr => ∃ j : Nat, j ≤ l.length ∧ i = .int .i64 j ∧ Hid (Quiet w9 wr)) (fun i _ => l.length - (intOf i).toNat)
      case atStart => exact ⟨0, Nat.zero_le _, rfl, Kp.refl _ _⟩
      case round =>
        rename World => wq
        obtain ⟨j, hj, rfl, hqr⟩ := hrel
        by_cases hlt : j < l.length
        · obtain ⟨m0, n0⟩ := sB.out _ (Q9.out.trans hqr.out)
          obtain ⟨bb, oo, rfl, dh, ca, cc, ds, hki⟩ := (HV.out.quiet (Q9.out.trans hqr.out)).get j hlt
          obtain ⟨d0, d1, d2⟩ := dh
          have hO := HOK.out l[j] (List.getElem_mem hlt)
          have hus := HU.out l[j] (List.getElem_mem hlt)
          have hfu : (l.map funC)[j]? = some (funC l[j]) := by rw [List.getElem?_map, List.getElem?_eq_getElem hlt]; rfl
          generalize l[j] = u at *
          obtain ⟨gm, fa, fc, rfl, c0, hr0⟩ := HMd.out.get j (funC u) (by rw [HPS.out]; exact hfu)
          obtain ⟨gf, hgf, _⟩ := ins_at hr0 rfl 0 (by have := funC_pos u; omega)
          subst hgf
          have hul := code_len u 0
          have HC := hid (rcode_any u ca cc 0 0 wq rfl hki hO (by omega))
          have HR0 := hid hr0
          obtain ⟨nf, hnf⟩ : ∃ n, (funC u).length = n := ⟨_, rfl⟩
          have HNF := hid hnf
          rw [hnf] at c0
          have c1 := hqr.out.cell c0 (fun e => e)
          clear hki hO hfu hr0 c0 hnf
          go_wp2_with (first
            | (at_builtin; refine wpList_append_lies _ rfl (.tmp 55) (.tmp 57) 35 rfl wq.heap.size 40 i0 _ 3 24 Try.undR hi hz0 hz1 hz2 rfl (by decide) _ m _ rfl (h2.out.row.alloc _) ⟨w2.heap.size, 0, none⟩ 1 1 (insC [⟨105, 0, 0⟩]) rfl rfl (news_at w2 _ 40) (ins_one _) (by omega) (by unfold maxLen; omega) (by omega) (by have := h2.out.size; simp; omega) _ rfl ?_; intro g3 cap3 w3 hr3 hg3 hat hlt3; have h3 : RS wq w3 _ _ (funC u) := (h2.out.quiet (Kp.alloc _ _)).push rfl hr3 hg3; generalize hn3 : m + 1 = n3 at h3 ⊢; have hn4 : n3 = nf := h3.len.symm.trans HNF.out; clear hn3; subst hn4; have c3 := h3.q.cell c1 (fun e => e); have h3 := hid h3; clear hr3 hg3 hat hlt3)
            | (go_at_call 11; refine HC.out.mono ?_; rintro e w2 ⟨sa2, sc2, m, rfl, hm2, hr2, q2⟩; have h2 := hid (show RS wq w2 _ m (u.code 0) from ⟨hr2, hm2, q2⟩); have hmb : m ≤ 3 * u.size := (by omega); clear hm2 hr2 q2))
          have hnb : n3 ≤ 3 * u.size := by rw [← HNF.out]; exact funC_len u
          clear d0 d1 d2 ds m0 n0 c1 h2 HC
          go_loopw [9] (fun i wr => ∃ k : Nat, k ≤ n3 ∧ i = .int .i64 k ∧ Hid (Quiet w3 wr)) (fun i _ => n3 - (intOf i).toNat)
          case atStart => exact ⟨0, Nat.zero_le _, rfl, Kp.refl _ _⟩
          case round =>
            obtain ⟨k, hk, rfl, hq3⟩ := hrel
            have c4 := hq3.out.cell c3 (fun e => e)
            by_cases hk2 : k < n3
            · have hk3 : k < (funC u).length := by rw [HNF.out]; exact hk2
              have hrA := (hqr.out.trans (h3.out.q.trans hq3.out)).row HR0.out (fun _ _ e => e)
              obtain ⟨g1, e1, d0, d1, d2⟩ := ins_at hrA rfl k hk3
              obtain ⟨g2, e2, f0, f1, f2⟩ := ins_at (hq3.out.row h3.out.row (fun _ _ e => e)) h3.out.len k hk3
              cases e1
              cases e2
              generalize (funC u)[k] = x at *
              obtain ⟨xo, xk, xn⟩ := x
              simp only at d0 d1 d2 f0 f1 f2
              clear hk3 hrA c3
              go_wp2_with fail
              go_quiet (fail)
              go_wp2_with fail
              exact ⟨⟨k + 1, by omega, by go_num, hq3.out.trans (Kp.drewN _ _)⟩, by simp [intOf]; omega⟩
            · clear c3
              go_wp2
              exact ⟨⟨j + 1, by omega, by go_num, hqr.out.trans (h3.out.q.trans hq3.out)⟩, by simp [intOf]; omega⟩
        · go_wp2
          go_ret
          exact ⟨rfl, (HQ9.out.trans hqr.out).low⟩
    · obtain ⟨c, a, hmf⟩ : ∃ c a, modFault l = (c, a) := ⟨_, _, rfl⟩
      have hcne : c ≠ 0 := by rw [hmf] at hc0; exact hc0
      have hcb : (c != 0) = true := by simpa using hcne
      have HP := hid (fun (oa : Option Addr) (oc : Nat) (w' : World) (h2 : Fo (cln w') l oa) => make_bad l c a hmf hcne oa oc w' h2 hSl2)
      rw [hmf] at HCF
      clear hc0 hmf hcne
      go_enter Try.func3, Try.ntmps3
      go_wp2_with (first
        | (go_at_call 10; refine (sameR_any l l oa la oc lc _ (HO.out.cleanQ (q8'.trans (Kp.alloc _ _))).unclean (HV.out.quiet (Q8.out.trans (Kp.alloc _ _))) hSl2).mono ?_; rintro e w9 ⟨rfl, q9⟩; rw [sames_true rfl]; have Q9 := hid (Q8.out.trans ((Kp.alloc _ _).trans q9)); obtain ⟨m0, n0⟩ := sB.out _ Q9.out; obtain ⟨r0, r1, r2, r3⟩ := fault_cells ((q9.block _ (by simp) fun e => e).trans (heap_alloc_new w8 _)))
        | (go_at_call 9; refine (HCF.out _ (HV.out.quiet (Q7.out.trans (Kp.alloc _ _)))).mono ?_; rintro e w8 ⟨rfl, q8⟩; have Q8 := hid (Q7.out.trans ((Kp.alloc _ _).trans q8)); have q8' := q7.trans ((Kp.alloc _ _).trans q8); obtain ⟨g0, h0⟩ := sB.out _ Q8.out; have g1 := mod_cell (box_keeps q8'); have h1 := lt_of_block (box_keeps q8'); obtain ⟨i0, i1, i2, i3⟩ := fault_cells (box_keeps q8); have j0 := lt_of_block (box_keeps q8))
        | (go_at_call 8; refine (HP.out oa oc _ HO.out).mono ?_; rintro e w7 ⟨rfl, q7⟩; have Q7 := hid (Q5.out.trans ((Kp.alloc _ _).trans q7)); obtain ⟨c7, d7⟩ := sB.out _ Q7.out)
        | (go_at_call 7; refine (ownMod_any l la lc _ (HV.out.quiet q3) hSl2).mono ?_; rintro e w5 ⟨oa, oc, rfl, hH, q5⟩; have Q5 := hid (q3.trans q5); have HO := hid (hH.clean.cleanQ (Kp.alloc w5 (.cells #[.slice oa l.length oc] 24))); clear hH)
        | (go_at_call 6; refine (great_any l la lc _ (HV.out.quiet q2)).mono ?_; rintro e w3 ⟨rfl, q3⟩; rw [hgl]; replace q3 := q2.trans q3; obtain ⟨e0, f0⟩ := sB.out _ q3)
        | (go_at_call 5; refine HB.out.mono ?_; rintro e w2 ⟨rfl, q2⟩; obtain ⟨c0, d0⟩ := sB.out _ q2))
      go_ret
      exact ⟨rfl, (qW.trans Q9.out).low⟩
end Go.Proofs.Ytjcniiojcigefad
