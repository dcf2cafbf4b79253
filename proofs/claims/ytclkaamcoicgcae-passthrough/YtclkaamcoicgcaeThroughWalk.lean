/- The law PassThrough: the walk, whatever way May and Across go. -/
import Derived.Test.YtclkaamcoicgcaeDoesPass
import Derived.Test.YtclkaamcoicgcaePassThru
namespace Go.Proofs.Ytclkaamcoicgcae
open Go.ChangeShapes Go.WideShapes Go.ChangeAt Go.RowKit
open Gr (Nd Res nd0 thereB deriveOf addOf rightsN wayOf gatesOf gatesW targetOf Wf NdOk GS Goes Own StepP IntsAt Pair Lies Stp ndCells)
theorem six_cells {w : World} {x : Nat} {a b c d e f : Value} {t : TypeId} (h : w.heap[x]? = some (.cells #[a, b, c, d, e, f] t (0, 0))) : w.cell? ⟨x, 0, none⟩ = some a ∧ w.cell? ⟨x, 1, none⟩ = some b ∧ w.cell? ⟨x, 2, none⟩ = some c ∧ w.cell? ⟨x, 3, none⟩ = some d ∧ w.cell? ⟨x, 4, none⟩ = some e ∧ w.cell? ⟨x, 5, none⟩ = some f := by
  refine ⟨?_, ?_, ?_, ?_, ?_, ?_⟩ <;> simp [World.cell?, h]
theorem gates_few {ns : List Nd} {g : Nat} (hw : Wf ns g) (hl : ns.length ≤ 80) (n : Int) : (gatesOf ns n).length ≤ 80 := by
  have h1 := Gr.way_len hw n
  have h2 := Gr.gates_len (wayOf ns n)
  unfold gatesOf
  omega
theorem ints_news {w : World} {B n cap : Nat} {ao : Option Addr} {l : List Int} (h : w.ownsRow B 3 1 (.slice ao n cap) n (ints l)) (hn : 0 < n) : ∃ g, ao = some ⟨g, 0, none⟩ ∧ ∀ j u, (ints l)[j]? = some u → w.cell? ((⟨g, 0, none⟩ : Addr).add j) = some u := by
  obtain ⟨g, rfl, hc⟩ := owns_at h hn
  refine ⟨g, rfl, fun j u hu => ?_⟩
  have hj : j < n * 1 := by
    obtain ⟨hj, _⟩ := List.getElem?_eq_some_iff.1 hu
    have := h.1
    omega
  rw [Addr.add_lit, Nat.zero_add, hc j hj]; exact hu
theorem Gr.ints_lie' {w : World} {base : Nat} {ao : Option Addr} {l : List Int} {n cap : Nat} (hn : l.length = n) (h : w.ownsRow base 3 1 (.slice ao n cap) n (ints l)) : IntsAt w ao l := by
  subst hn; exact Gr.ints_lie h
set_option maxRecDepth 8000 in
set_option maxHeartbeats 8000000 in
theorem throughLaw (hMay : MayC) (hAc : AcrossC) (w : World) (ss : List Stp) (sa : Option Addr) (sc : Nat) (v : V) (ao : Option Addr) (cap : Nat) (gs : List Int) (ga : Option Addr) (gc : Nat) (hS : Lies w sa ss) (hI : Is w v ao) (hG : IntsAt w ga gs) :
    Calls Try.prog 4 #[.slice sa ss.length sc, .agg #[.int .i64 v.kind, .int .i64 v.n, .slice ao v.l.length cap], .slice ga gs.length gc] w fun e w' => e = .returned (.bool true) ∧ Below w.heap.size w w' := by
  obtain ⟨W, hW⟩ : ∃ W, W = w.alloc (.cells #[.int .i64 v.kind, .int .i64 v.n, .slice ao v.l.length cap] 25) := ⟨_, rfl⟩
  have qW : Quiet w W := by rw [hW]; exact Kp.alloc _ _
  have sW : W.heap.size = w.heap.size + 1 := by rw [hW]; simp
  have b0 : W.heap[w.heap.size]? = some (.cells #[.int .i64 v.kind, .int .i64 v.n, .slice ao v.l.length cap] 25 (0, 0)) := by rw [hW]; exact heap_alloc_new w _
  have HBX := hid (fun (w' : World) (q : Below W.heap.size W w') => box_cells ((q.block _ (by omega)).trans b0))
  have HIn := hid (And.intro (lies_low hS qW.low) (And.intro (hI.quiet qW) (hG.quiet qW)))
  have HW := hid (And.intro qW (And.intro sW hW))
  have HB : Hid (Calls Try.prog 6 #[] (w.alloc (.cells #[.int .i64 v.kind, .int .i64 v.n, .slice ao v.l.length cap] 25)) fun e w' => e = .returned (.bool true) ∧ Below W.heap.size W w') := by rw [← hW]; exact hid (pbegun_of hMay hAc W)
  clear hS hI hG qW b0 hW
  by_cases h1 : 150 < ss.length
  · have h1' : (150 : Int) < (ss.length : Int) := by omega
    clear h1
    go_enter Try.func4, Try.ntmps4
    go_wp2_with (go_at_call 6; refine HB.out.mono ?_; rintro e w2 ⟨rfl, b2⟩)
    go_ret
    exact ⟨rfl, HW.out.1.low.trans (b2.mono (by omega))⟩
  · have h1' : ¬ (150 : Int) < (ss.length : Int) := by omega
    by_cases h2 : 500 < v.size
    · have hd : decide (500 < v.size) = true := by simpa using h2
      go_enter Try.func4, Try.ntmps4
      go_wp2_with (first
        | (go_at_call 7; refine (great_any v ao cap _ (HIn.out.2.1.low b2)).mono ?_; rintro e w3 ⟨rfl, q3⟩; rw [hd])
        | (go_at_call 6; refine HB.out.mono ?_; rintro e w2 ⟨rfl, b2⟩; obtain ⟨z0, z1, z2⟩ := HBX.out _ b2))
      go_ret
      exact ⟨rfl, HW.out.1.low.trans ((b2.trans (q3.below b2.size fun _ h => h.elim)).mono (by omega))⟩
    · have hd : decide (500 < v.size) = false := by simpa using h2
      by_cases h3 : 50 < gs.length
      · have h3' : (50 : Int) < (gs.length : Int) := by omega
        clear h3
        go_enter Try.func4, Try.ntmps4
        go_wp2_with (first
          | (go_at_call 7; refine (great_any v ao cap _ (HIn.out.2.1.low b2)).mono ?_; rintro e w3 ⟨rfl, q3⟩; rw [hd])
          | (go_at_call 6; refine HB.out.mono ?_; rintro e w2 ⟨rfl, b2⟩; obtain ⟨z0, z1, z2⟩ := HBX.out _ b2))
        go_ret
        exact ⟨rfl, HW.out.1.low.trans ((b2.trans (q3.below b2.size fun _ h => h.elim)).mono (by omega))⟩
      · have h3' : ¬ (50 : Int) < (gs.length : Int) := by omega
        have hS5 : v.size ≤ 500 := by omega
        have hgl : gs.length ≤ 100 := by omega
        have hsl : ss.length ≤ 200 := by omega
        clear h1 h2 h3
        go_enter Try.func4, Try.ntmps4
        go_wp2_with (first
          | (go_at_call 8; refine (graphs_any _ sa sc ss (lies_low HIn.out.1 B3.out) hsl).mono ?_)
          | (go_at_call 7; refine (great_any v ao cap _ (HIn.out.2.1.low b2)).mono ?_; rintro e w3 ⟨rfl, q3⟩; rw [hd]; have B3 := hid (b2.trans (q3.below b2.size fun _ h => h.elim)); clear q3)
          | (go_at_call 6; refine HB.out.mono ?_; rintro e w2 ⟨rfl, b2⟩; obtain ⟨z0, z1, z2⟩ := HBX.out _ b2))
        rintro e w4 ⟨gb, rb, vn, vo, vn2, vo2, ns, os, he, hP, hWf⟩
        subst he
        have hs3 : W.heap.size ≤ w3.heap.size := B3.out.size
        have B4 := hid (B3.out.trans (hP.below.mono hs3))
        have hs4 : w3.heap.size ≤ w4.heap.size := hP.below.size
        have HP := hid (And.intro hP hWf)
        have HOG := hid (fun k (e : Own gb vn vo k) => hP.g.own k e)
        have HOR := hid (fun k (e : Own rb vn2 vo2 k) => hP.r.own k e)
        obtain ⟨y0, y1, y2⟩ := HBX.out _ B4.out
        clear z0 z1 z2 hP hWf
        obtain ⟨y, cd, nsr, hR⟩ : ∃ y cd nsr, passedOf ns os gs v = (y, cd, nsr) := ⟨_, _, _, rfl⟩
        have hy5 : y.size ≤ 500 := by have := passed_size ns os gs v; rw [hR] at this; simp only at this; omega
        have hOG : ∀ k, Own gb vn vo k → W.heap.size ≤ k := fun k e => by have := (HOG.out k e).1; omega
        have HAC := hid (hAc _ gb os gs v ao cap ga gc w4 vn vo ns HP.out.1.g HP.out.2 hS5 hgl (safe_is HIn.out.2.1 B4.out hOG) (safe_in HIn.out.2.2 B4.out hOG))
        rw [hR] at HAC
        have HR := hid hR
        have HO4 := hid hOG
        clear hMay hAc hOG
        by_cases hcd : cd = 0
        · subst hcd
          obtain ⟨hWr, hGo, hgate, hck⟩ := passed_gone hR HP.out.2
          have HGo := hid (And.intro hWr (And.intro hGo (And.intro hgate hck)))
          clear hR hWr hGo hgate hck
          go_wp2_with (go_at_call 12; refine HAC.out.mono ?_; rintro e w7 ⟨a7, c7, vn7, vo7, rfl, hs7, g7, go7⟩; dsimp only at hs7 g7 ⊢; have B7 := B4.out.trans (go7.kp.below B4.out.size HO4.out); have q78 : Quiet w7 (w7.alloc (.cells #[.int .i64 y.kind, .int .i64 y.n, .slice a7 y.l.length c7] 25)) := Kp.alloc _ _; have x9 := heap_alloc_new w7 (.cells #[.int .i64 y.kind, .int .i64 y.n, .slice a7 y.l.length c7] 25); have H8 := hid (And.intro (g7.quiet q78) (And.intro (hs7.now.quiet q78) (And.intro (B7.trans (q78.below B7.size fun _ h => h.elim)) x9))); obtain ⟨z0, z1, z2⟩ := HBX.out _ H8.out.2.2.1; clear hs7 g7 go7 B7 q78 x9)
          have hgw : w7.heap.size < (w7.alloc (.cells #[.int .i64 y.kind, .int .i64 y.n, .slice a7 y.l.length c7] 25)).heap.size := by simp
          generalize w7.alloc (.cells #[.int .i64 y.kind, .int .i64 y.n, .slice a7 y.l.length c7] 25) = W8 at *
          generalize w7.heap.size = xb at *
          have sAll := hid (fun (w' : World) (q : Quiet W8 w') => And.intro (box_cells ((q.block _ (lt_of_block H8.out.2.2.2) fun e => e).trans H8.out.2.2.2)) (HBX.out _ (H8.out.2.2.1.trans (q.below H8.out.2.2.1.size fun _ h => h.elim))))
          have HCV := hid (fun (w' : World) (q : Quiet W8 w') => capsR_any v ao cap w' (HIn.out.2.1.low (H8.out.2.2.1.trans (q.below H8.out.2.2.1.size fun _ h => h.elim))) hS5)
          have HCY := hid (fun (w' : World) (q : Quiet W8 w') => capsR_any y a7 c7 w' (H8.out.2.1.quiet q) hy5)
          have hcl := caps_len v
          have hce := HGo.out.2.1.caps
          obtain ⟨xs, hxs⟩ : ∃ xs, v.caps = xs := ⟨_, rfl⟩
          obtain ⟨ys, hys⟩ : ∃ ys, y.caps = ys := ⟨_, rfl⟩
          have HCM := hid (HGo.out.2.1.came)
          rw [hxs] at hcl hce
          rw [hys] at hce
          obtain ⟨nx, hnx⟩ : ∃ n, xs.length = n := ⟨_, rfl⟩
          rw [hnx] at hcl hce
          rw [hxs, hnx] at HCV
          rw [hys, hce] at HCY
          have HXS := hid (And.intro hxs (And.intro hys (And.intro hnx hce)))
          have hn5 : nx ≤ 500 := by omega
          clear z0 z1 z2 hxs hys hnx hce
          go_region_held3 (fun w' => (w'.cell? ⟨xb, 0, none⟩ = some (.int .i64 y.kind) ∧ w'.cell? ⟨xb, 1, none⟩ = some (.int .i64 y.n) ∧ w'.cell? ⟨xb, 2, none⟩ = some (.slice a7 y.l.length c7)) ∧ w'.cell? ⟨w.heap.size, 0, none⟩ = some (.int .i64 v.kind) ∧ w'.cell? ⟨w.heap.size, 1, none⟩ = some (.int .i64 v.n) ∧ w'.cell? ⟨w.heap.size, 2, none⟩ = some (.slice ao v.l.length cap)) ((refine sAll.out _ ?_; first | assumption | exact Kp.drew _))
            (first
              | (go_at_call 17; refine (HCY.out _ q10).mono ?_; rintro e w11 ⟨sv11, rfl, r11, q11, _⟩; have r10 := q11.row r10 (fun _ _ e => e); replace q11 : Quiet W8 w11 := q10.trans q11; obtain ⟨ya, yc, rfl⟩ := owns_shape r11)
              | (go_at_call 17; refine (HCV.out _ (Kp.drew _)).mono ?_; rintro e w10 ⟨sv10, rfl, r10, q10, _⟩; replace q10 : Quiet W8 w10 := (Kp.drew W8).trans q10; obtain ⟨xa, xc, rfl⟩ := owns_shape r10))
          have HR1 := hid (And.intro r10 r11)
          have HSV := hid (fun (w' : World) (q : Quiet W8 w') => shapeR_any v ao cap w' (HIn.out.2.1.low (H8.out.2.2.1.trans (q.below H8.out.2.2.1.size fun _ h => h.elim))) (by omega))
          have HSY := hid (fun (w' : World) (q : Quiet W8 w') => shapeR_any y a7 c7 w' (H8.out.2.1.quiet q) (by omega))
          have HGY := hid (fun (w' : World) (q : Quiet W8 w') => gateR_any y a7 c7 w' (H8.out.2.1.quiet q) hy5)
          rw [HGo.out.2.1.gate, HGo.out.2.2.1] at HGY
          rw [HGo.out.2.1.shape] at HSY
          obtain ⟨vs, hvs⟩ : ∃ vs, v.shape = vs := ⟨_, rfl⟩
          have hvz : vs.size ≤ 500 := by rw [← hvs, shape_size]; exact hS5
          have hvss := same_refl vs
          rw [hvs] at HSV HSY
          obtain ⟨z0, z1⟩ := sAll.out _ q11
          clear r10 r11 hvs HCV HCY q10 z0 z1
          go_wp2
          go_region_held3 (fun w' => (w'.cell? ⟨xb, 0, none⟩ = some (.int .i64 y.kind) ∧ w'.cell? ⟨xb, 1, none⟩ = some (.int .i64 y.n) ∧ w'.cell? ⟨xb, 2, none⟩ = some (.slice a7 y.l.length c7)) ∧ w'.cell? ⟨w.heap.size, 0, none⟩ = some (.int .i64 v.kind) ∧ w'.cell? ⟨w.heap.size, 1, none⟩ = some (.int .i64 v.n) ∧ w'.cell? ⟨w.heap.size, 2, none⟩ = some (.slice ao v.l.length cap)) ((refine sAll.out _ ?_; first | assumption | exact q11.trans (Kp.drew _)))
            (first
              | (go_at_call 19; refine (HGY.out _ q14).mono ?_; rintro e w15 ⟨rfl, q15⟩; have p15 := p14.trans q15; replace q15 : Quiet W8 w15 := q14.trans q15)
              | (go_at_call 14; refine (sameVal_any vs vs s12 s13 t12 t13 _ (h12.is.quiet q1213) h13.is hvz).mono ?_; rintro e w14 ⟨rfl, q14⟩; rw [hvss]; have p14 := p13.trans q14; replace q14 : Quiet W8 w14 := q13.trans q14)
              | (go_at_call 18; refine (HSY.out _ q12).mono ?_; rintro e w13 ⟨s13, t13, rfl, h13, q1213⟩; have p13 := p12.trans q1213; have q13 : Quiet W8 w13 := q12.trans q1213)
              | (go_at_call 18; refine (HSV.out _ (q11.trans (Kp.drew _))).mono ?_; rintro e w12 ⟨s12, t12, rfl, h12, q12⟩; have p12 : Quiet w11 w12 := (Kp.drew w11).trans q12; replace q12 : Quiet W8 w12 := (q11.trans (Kp.drew _)).trans q12))
          have H15 := hid (And.intro q15 (And.intro (p15.row HR1.out.1 (fun _ _ e => e)) (p15.row HR1.out.2 (fun _ _ e => e))))
          have HCC : Hid (∀ k, k < nx → Came nsr gs (xs.getD k 0) (ys.getD k 0)) := by
            refine hid fun k hk => ?_
            have hk1 : k < v.caps.length := by rw [HXS.out.1, HXS.out.2.2.1]; exact hk
            have h := HGo.out.2.1.came k hk1
            have h1 : xs[k]? = some v.caps[k] := by rw [← HXS.out.1]; exact List.getElem?_eq_getElem hk1
            have hk2 : k < y.caps.length := by rw [HXS.out.2.1, HXS.out.2.2.2]; exact hk
            have h2 : ys[k]? = some y.caps[k] := by rw [← HXS.out.2.1]; exact List.getElem?_eq_getElem hk2
            rw [List.getD_eq_getElem?_getD, List.getD_eq_getElem?_getD, h1, h2]
            exact h
          clear q11 q12 q13 q14 q15 p12 p13 p14 p15 q1213 h12 h13 HR1 HCM HSV HSY HGY sAll hvss hvz
          go_wp2
          go_loopw [13] (fun i wr => ∃ k : Nat, k ≤ nx ∧ i = .int .i64 k ∧ Hid (Quiet w15 wr)) (fun i _ => nx - (intOf i).toNat)
          case atStart => exact ⟨0, Nat.zero_le _, rfl, Kp.refl _ _⟩
          case round =>
            rename World => wq
            obtain ⟨k, hk, rfl, hq⟩ := hrel
            by_cases hlt : k < nx
            · obtain ⟨gx, rfl, cx⟩ := ints_get (hq.out.row H15.out.2.1 (fun _ _ e => e)) HXS.out.2.2.1 k hlt
              obtain ⟨gy, rfl, cy⟩ := ints_get (hq.out.row H15.out.2.2 (fun _ _ e => e)) HXS.out.2.2.2 k hlt
              have hC := HCC.out k hlt
              generalize xs.getD k 0 = p at *
              generalize ys.getD k 0 = q at *
              have hT := hC.target HGo.out.1
              have HT1 := hid (fun (w' : World) (h : Quiet wq w') => Gr.target_any (H8.out.1.quiet ((H15.out.1.trans hq.out).trans h)) HGo.out.1 p)
              have HT2 := hid (fun (w' : World) (h : Quiet wq w') => Gr.target_any (H8.out.1.quiet ((H15.out.1.trans hq.out).trans h)) HGo.out.1 q)
              rw [hC.tx] at HT1
              rw [hC.ty, hT] at HT2
              generalize targetOf nsr p = T at *
              obtain ⟨tp, tg, tr, tc, tl, tf⟩ := T
              simp only [Gr.Nd.agg] at HT1 HT2
              have HC := hid hC
              have c1 := fun (w' : World) (h : Quiet wq w') => h.cell cx (fun e => e)
              have c2 := fun (w' : World) (h : Quiet wq w') => h.cell cy (fun e => e)
              have HCX := hid (And.intro c1 c2)
              clear hC hT c1 c2
              go_wp2_with (first
                | (go_at_call 20; refine (HT2.out _ p17).mono ?_; rintro e w18 ⟨rfl, q18⟩; have p18 := p17.trans q18; have x14b := (q18.block _ (lt_of_block x14) fun e => e).trans x14; have x16 := heap_alloc_new w18 (.cells #[.int .i64 tp, .int .i64 tg, .int .i64 tr, .int .i64 tc, .int .i64 tl, .int .i64 tf] 49))
                | (go_at_call 20; refine (HT1.out _ (Kp.refl _ _)).mono ?_; rintro e w17 ⟨rfl, q17⟩; have p17 : Quiet wq (w17.alloc (.cells #[.int .i64 tp, .int .i64 tg, .int .i64 tr, .int .i64 tc, .int .i64 tl, .int .i64 tf] 49)) := q17.trans (Kp.alloc _ _); have x14 := heap_alloc_new w17 (.cells #[.int .i64 tp, .int .i64 tg, .int .i64 tr, .int .i64 tc, .int .i64 tl, .int .i64 tf] 49); have cy2 := HCX.out.2 _ p17))
              have q1819 : Quiet w18 (w18.alloc (.cells #[.int .i64 tp, .int .i64 tg, .int .i64 tr, .int .i64 tc, .int .i64 tl, .int .i64 tf] 49)) := Kp.alloc _ _
              have X14 := (q1819.block _ (lt_of_block x14b) fun e => e).trans x14b
              have P19 := p18.trans q1819
              generalize w18.alloc (.cells #[.int .i64 tp, .int .i64 tg, .int .i64 tr, .int .i64 tc, .int .i64 tl, .int .i64 tf] 49) = W19 at *
              generalize w18.heap.size = tb at *
              generalize w17.heap.size = ta at *
              have H19 := hid (And.intro P19 (And.intro X14 x16))
              have hIG := hid (fun (w' : World) (h : Quiet W19 w') => IntsAt.quiet (HIn.out.2.2) (quiet_of ((H8.out.2.2.1.trans (((H15.out.1.trans hq.out).trans (P19.trans h)).below H8.out.2.2.1.size fun _ h => h.elim)))))
              clear p17 p18 q17 q18 x14 x14b x16 X14 q1819 P19 cx cy cy2 HT1 HT2
              obtain ⟨i0, hi, hz0, hz1, hz2⟩ := info_parts' Try.infoI
              have hgl5 : gs.length ≤ 50 := by omega
              go_loopw [18, 19] (fun want i wr => ∃ m : Nat, m ≤ gs.length ∧ i = .int .i64 ((m : Int) - 1) ∧ Hid (wr.ownsRow W19.heap.size 3 1 want (wantOf gs m).length (ints (wantOf gs m))) ∧ Hid (Quiet W19 wr)) (fun _ i _ => (intOf i + 1).toNat)
              case atStart =>
                refine ⟨gs.length, Nat.le_refl _, rfl, ?_, Kp.refl _ _⟩
                rw [Hid, want_end]; exact World.ownsRow_nil _ _ _ _
              case round =>
                obtain ⟨m, hm, rfl, hrow, hqw⟩ := hrel
                cases m with
                | zero =>
                  have hF := HC.out.gates
                  rw [← want_all] at hF
                  have hb := came_bits HC.out os
                  have HGP := hid (fun (w' : World) (h : Quiet W19 w') => Gr.gates_nil (H8.out.1.quiet ((H15.out.1.trans hq.out).trans (H19.out.1.trans h))) HGo.out.1 p)
                  have HGQ := hid (fun (w' : World) (h : Quiet W19 w') => Gr.gates_any (H8.out.1.quiet ((H15.out.1.trans hq.out).trans (H19.out.1.trans h))) HGo.out.1 q)
                  have HRP := hid (fun (w' : World) (h : Quiet W19 w') => Gr.rights_any (H8.out.1.quiet ((H15.out.1.trans hq.out).trans (H19.out.1.trans h))) HGo.out.1 p)
                  have HRQ := hid (fun (w' : World) (h : Quiet W19 w') => Gr.rights_any (H8.out.1.quiet ((H15.out.1.trans hq.out).trans (H19.out.1.trans h))) HGo.out.1 q)
                  have sAll := hid (fun (w' : World) (h : Quiet W19 w') => And.intro (six_cells ((h.block _ (lt_of_block H19.out.2.1) fun e => e).trans H19.out.2.1)) (And.intro (six_cells ((h.block _ (lt_of_block H19.out.2.2) fun e => e).trans H19.out.2.2)) (And.intro (HCX.out.1 _ (H19.out.1.trans h)) (HCX.out.2 _ (H19.out.1.trans h)))))
                  have hgp : (gatesOf nsr p).length ≤ 80 := gates_few HGo.out.1 H8.out.1.ln p
                  have hwl := want_len gs 0
                  generalize rightsN nsr os p = rp at *
                  generalize rightsN nsr os q = rq at *
                  generalize gatesOf nsr p = lp at *
                  generalize gatesOf nsr q = lq at *
                  generalize wantOf gs 0 = lw at *
                  obtain ⟨nq, hnq⟩ : ∃ n, lq.length = n := ⟨_, rfl⟩
                  obtain ⟨nw, hnw⟩ : ∃ n, lw.length = n := ⟨_, rfl⟩
                  obtain ⟨np, hnp⟩ : ∃ n, lp.length = n := ⟨_, rfl⟩
                  have hsum : nq = nw + np := by rw [← hnq, hF, List.length_append, hnw, hnp]
                  have hq5 : lq.length ≤ 100000 := by omega
                  have HSI := hid (fun (w' : World) (a1 a2 : Option Addr) (n1 n2 : Nat) (h1 : IntsAt w' a1 lq) (h2 : IntsAt w' a2 lq) => Gr.sameInts_any w' lq a1 a2 n1 n2 hq5 h1 h2)
                  rw [hnq] at HSI HGQ
                  rw [hnp] at HGP hgp
                  rw [hnw] at hrow hwl
                  have HLN := hid hnq
                  have HF := hid (And.intro hF (And.intro hnw hnp))
                  have eqn := Gr.eqNode
                  clear hF hnq hnw hnp hq5
                  obtain ⟨cx, cy⟩ : wr.cell? ⟨gx, k, none⟩ = some (.int .i64 p) ∧ wr.cell? ⟨gy, k, none⟩ = some (.int .i64 q) := ⟨HCX.out.1 _ (H19.out.1.trans hqw.out), HCX.out.2 _ (H19.out.1.trans hqw.out)⟩
                  have hsz : W19.heap.size ≤ wr.heap.size := hqw.out.size
                  by_cases hp0 : np = 0
                  · subst hp0
                    have hlp : lp = [] := List.length_eq_zero_iff.1 HF.out.2.2
                    have hlw : lq = lw := by rw [HF.out.1, hlp, List.append_nil]
                    have HLP := hid (And.intro hlp hlw)
                    have hqw2 : nq = nw := by omega
                    subst hqw2
                    clear hlp hlw hsum
                    rcases own_cases hrow.out with ⟨hsv, h00⟩ | ⟨g9, cv9, hsv, hcv9⟩
                    · subst hsv
                      subst h00
                      go_wp2_with (go_at_call 21; refine (HGP.out _ hqw.out).mono ?_; rintro e w21 ⟨v21, rfl, r21, q21, e21⟩; obtain rfl := e21 HLP.out.1; clear r21 e21)
                      have QZ : Quiet W19 w21 := hqw.out.trans q21
                      have IZ : IntsAt w21 none lq := fun j hj => absurd hj (by rw [HLN.out]; omega)
                      have HZ := hid (And.intro QZ IZ)
                      clear QZ IZ
                      go_region_held3 (fun w' => (w'.cell? ⟨ta, 0, none⟩ = some (.int .i64 tp) ∧ w'.cell? ⟨ta, 1, none⟩ = some (.int .i64 tg) ∧ w'.cell? ⟨ta, 2, none⟩ = some (.int .i64 tr) ∧ w'.cell? ⟨ta, 3, none⟩ = some (.int .i64 tc) ∧ w'.cell? ⟨ta, 4, none⟩ = some (.int .i64 tl) ∧ w'.cell? ⟨ta, 5, none⟩ = some (.int .i64 tf)) ∧ (w'.cell? ⟨tb, 0, none⟩ = some (.int .i64 tp) ∧ w'.cell? ⟨tb, 1, none⟩ = some (.int .i64 tg) ∧ w'.cell? ⟨tb, 2, none⟩ = some (.int .i64 tr) ∧ w'.cell? ⟨tb, 3, none⟩ = some (.int .i64 tc) ∧ w'.cell? ⟨tb, 4, none⟩ = some (.int .i64 tl) ∧ w'.cell? ⟨tb, 5, none⟩ = some (.int .i64 tf)) ∧ w'.cell? ⟨gx, k, none⟩ = some (.int .i64 p) ∧ w'.cell? ⟨gy, k, none⟩ = some (.int .i64 q)) ((refine sAll.out _ ?_; first | assumption | exact HZ.out.1.trans (Kp.drew _)))
                        (first
                          | (go_at_call 23; refine (HSI.out _ a26 none c26 0 (Gr.ints_lie' HLN.out r26) (HZ.out.2.quiet pz26)).mono ?_; rintro e w27 ⟨rfl, q27⟩; replace q27 : Quiet W19 w27 := q26.trans q27)
                          | (go_at_call 21; refine (HGQ.out _ q25).mono ?_; rintro e w26 ⟨v26, rfl, r26, q26⟩; have pz26 := pz25.trans q26; replace q26 : Quiet W19 w26 := q25.trans q26; obtain ⟨a26, c26, rfl⟩ := owns_shape r26)
                          | (go_at_call 22; refine (HRP.out _ q24).mono ?_; rintro e w25 ⟨rfl, q25⟩; have pz25 := pz24.trans q25; replace q25 : Quiet W19 w25 := q24.trans q25)
                          | (go_at_call 22; refine (HRQ.out _ (HZ.out.1.trans (Kp.drew _))).mono ?_; rintro e w24 ⟨rfl, q24⟩; have pz24 : Quiet w21 w24 := (Kp.drew w21).trans q24; replace q24 : Quiet W19 w24 := (HZ.out.1.trans (Kp.drew w21)).trans q24))
                      go_wp2
                      exact ⟨⟨k + 1, by omega, by go_num, hq.out.trans (H19.out.1.trans q27)⟩, by simp [intOf]; omega⟩
                    · subst hsv
                      go_wp2_with (go_at_call 21; refine (HGP.out _ hqw.out).mono ?_; rintro e w21 ⟨v21, rfl, r21, q21, e21⟩; obtain rfl := e21 HLP.out.1; clear r21 e21)
                      have QZ : Quiet W19 w21 := hqw.out.trans q21
                      have IZ : IntsAt w21 (some ⟨g9, 0, none⟩) lq := Gr.ints_lie' HLN.out (by rw [HLP.out.2]; exact q21.row hrow.out (fun _ _ e => e))
                      have HZ := hid (And.intro QZ IZ)
                      clear QZ IZ
                      go_region_held3 (fun w' => (w'.cell? ⟨ta, 0, none⟩ = some (.int .i64 tp) ∧ w'.cell? ⟨ta, 1, none⟩ = some (.int .i64 tg) ∧ w'.cell? ⟨ta, 2, none⟩ = some (.int .i64 tr) ∧ w'.cell? ⟨ta, 3, none⟩ = some (.int .i64 tc) ∧ w'.cell? ⟨ta, 4, none⟩ = some (.int .i64 tl) ∧ w'.cell? ⟨ta, 5, none⟩ = some (.int .i64 tf)) ∧ (w'.cell? ⟨tb, 0, none⟩ = some (.int .i64 tp) ∧ w'.cell? ⟨tb, 1, none⟩ = some (.int .i64 tg) ∧ w'.cell? ⟨tb, 2, none⟩ = some (.int .i64 tr) ∧ w'.cell? ⟨tb, 3, none⟩ = some (.int .i64 tc) ∧ w'.cell? ⟨tb, 4, none⟩ = some (.int .i64 tl) ∧ w'.cell? ⟨tb, 5, none⟩ = some (.int .i64 tf)) ∧ w'.cell? ⟨gx, k, none⟩ = some (.int .i64 p) ∧ w'.cell? ⟨gy, k, none⟩ = some (.int .i64 q)) ((refine sAll.out _ ?_; first | assumption | exact HZ.out.1.trans (Kp.drew _)))
                        (first
                          | (go_at_call 23; refine (HSI.out _ a26 (some ⟨g9, 0, none⟩) c26 cv9 (Gr.ints_lie' HLN.out r26) (HZ.out.2.quiet pz26)).mono ?_; rintro e w27 ⟨rfl, q27⟩; replace q27 : Quiet W19 w27 := q26.trans q27)
                          | (go_at_call 21; refine (HGQ.out _ q25).mono ?_; rintro e w26 ⟨v26, rfl, r26, q26⟩; have pz26 := pz25.trans q26; replace q26 : Quiet W19 w26 := q25.trans q26; obtain ⟨a26, c26, rfl⟩ := owns_shape r26)
                          | (go_at_call 22; refine (HRP.out _ q24).mono ?_; rintro e w25 ⟨rfl, q25⟩; have pz25 := pz24.trans q25; replace q25 : Quiet W19 w25 := q24.trans q25)
                          | (go_at_call 22; refine (HRQ.out _ (HZ.out.1.trans (Kp.drew _))).mono ?_; rintro e w24 ⟨rfl, q24⟩; have pz24 : Quiet w21 w24 := (Kp.drew w21).trans q24; replace q24 : Quiet W19 w24 := (HZ.out.1.trans (Kp.drew w21)).trans q24))
                      go_wp2
                      exact ⟨⟨k + 1, by omega, by go_num, hq.out.trans (H19.out.1.trans q27)⟩, by simp [intOf]; omega⟩
                  · obtain ⟨sw, cw, hsw⟩ := owns_shape hrow.out
                    subst hsw
                    have hpp : 0 < np := by omega
                    go_wp2_with (first
                      | (at_builtin; refine wpList_append_lies _ rfl (.tmp 115) (.tmp 121) 26 rfl W19.heap.size 3 i0 _ 1 8 Try.undI hi hz0 hz1 hz2 rfl (by decide) _ nw (ints lw) rfl H21.out.1 ⟨g21, 0, none⟩ np c21 (ints lp) rfl (by rw [ints_len, HF.out.2.2, Nat.mul_one]) H21.out.2.1 (ints_one lp) hpp (by unfold maxLen; omega) (by omega) H21.out.2.2.1 _ rfl ?_; intro g22 cap22 w22 hr22 hg22 hat hlt22; have H22 := hid (And.intro hr22 (H21.out.2.2.2.fresh (Kp.grown hg22 fun k _ e => (H21.out.1.lt k e.symm).1))); clear hr22 hg22 hat hlt22)
                      | (go_at_call 21; refine (HGP.out _ hqw.out).mono ?_; rintro e w21 ⟨v21, rfl, r21, q21, _⟩; obtain ⟨a21, c21, rfl⟩ := owns_shape r21; obtain ⟨g21, rfl, d21⟩ := ints_news r21 hpp; have H21 := hid (And.intro (q21.row hrow.out (fun _ _ e => e)) (And.intro d21 (And.intro (Nat.le_trans hsz q21.size) (hqw.out.trans q21)))); clear r21 d21 q21))
                    rw [← hsum] at H22 ⊢
                    clear hsum
                    have QZ : Quiet W19 w22 := H22.out.2
                    have IZ : IntsAt w22 (some ⟨g22, 0, none⟩) lq := Gr.ints_lie' HLN.out (by rw [HF.out.1]; have h22 := H22.out.1; rw [← ints_app] at h22; exact h22)
                    have HZ := hid (And.intro QZ IZ)
                    clear QZ IZ
                    go_region_held3 (fun w' => (w'.cell? ⟨ta, 0, none⟩ = some (.int .i64 tp) ∧ w'.cell? ⟨ta, 1, none⟩ = some (.int .i64 tg) ∧ w'.cell? ⟨ta, 2, none⟩ = some (.int .i64 tr) ∧ w'.cell? ⟨ta, 3, none⟩ = some (.int .i64 tc) ∧ w'.cell? ⟨ta, 4, none⟩ = some (.int .i64 tl) ∧ w'.cell? ⟨ta, 5, none⟩ = some (.int .i64 tf)) ∧ (w'.cell? ⟨tb, 0, none⟩ = some (.int .i64 tp) ∧ w'.cell? ⟨tb, 1, none⟩ = some (.int .i64 tg) ∧ w'.cell? ⟨tb, 2, none⟩ = some (.int .i64 tr) ∧ w'.cell? ⟨tb, 3, none⟩ = some (.int .i64 tc) ∧ w'.cell? ⟨tb, 4, none⟩ = some (.int .i64 tl) ∧ w'.cell? ⟨tb, 5, none⟩ = some (.int .i64 tf)) ∧ w'.cell? ⟨gx, k, none⟩ = some (.int .i64 p) ∧ w'.cell? ⟨gy, k, none⟩ = some (.int .i64 q)) ((refine sAll.out _ ?_; first | assumption | exact HZ.out.1.trans (Kp.drew _)))
                      (first
                        | (go_at_call 23; refine (HSI.out _ a26 (some ⟨g22, 0, none⟩) c26 cap22 (Gr.ints_lie' HLN.out r26) (HZ.out.2.quiet pz26)).mono ?_; rintro e w27 ⟨rfl, q27⟩; replace q27 : Quiet W19 w27 := q26.trans q27)
                        | (go_at_call 21; refine (HGQ.out _ q25).mono ?_; rintro e w26 ⟨v26, rfl, r26, q26⟩; have pz26 := pz25.trans q26; replace q26 : Quiet W19 w26 := q25.trans q26; obtain ⟨a26, c26, rfl⟩ := owns_shape r26)
                        | (go_at_call 22; refine (HRP.out _ q24).mono ?_; rintro e w25 ⟨rfl, q25⟩; have pz25 := pz24.trans q25; replace q25 : Quiet W19 w25 := q24.trans q25)
                        | (go_at_call 22; refine (HRQ.out _ (HZ.out.1.trans (Kp.drew _))).mono ?_; rintro e w24 ⟨rfl, q24⟩; have pz24 : Quiet w22 w24 := (Kp.drew w22).trans q24; replace q24 : Quiet W19 w24 := (HZ.out.1.trans (Kp.drew w22)).trans q24))
                    go_wp2
                    exact ⟨⟨k + 1, by omega, by go_num, hq.out.trans (H19.out.1.trans q27)⟩, by simp [intOf]; omega⟩
                | succ m =>
                  obtain ⟨gg, go, rfl, cg⟩ := hIG.out _ hqw.out m (by omega)
                  have hwl := want_len gs (m + 1)
                  have HWY := hid (want_yes gs m (by omega))
                  have HWN := hid (want_no gs m (by omega))
                  have em : (((m + 1 : Nat) : Int) - 1) = (m : Int) := by simp
                  rw [em]
                  have hm0 : (0 : Int) ≤ (m : Int) := by omega
                  have hml : (m : Int) < (gs.length : Int) := by omega
                  have hmd : m < gs.length := by omega
                  generalize gs[m] = gk at *
                  obtain ⟨sw, cw, hsw⟩ := owns_shape hrow.out
                  subst hsw
                  have hsz : W19.heap.size ≤ wr.heap.size := hqw.out.size
                  obtain ⟨wl, hwl2⟩ : ∃ n, (wantOf gs (m + 1)).length = n := ⟨_, rfl⟩
                  rw [hwl2] at hrow hwl ⊢
                  have HWL := hid hwl2
                  clear em hwl2
                  by_cases hgk : 0 ≤ gk
                  · have HE := hid (HWY.out hgk)
                    go_wp2_with (at_builtin; refine wpList_append_lies _ rfl (.tmp 108) (.tmp 113) 26 rfl W19.heap.size 3 i0 _ 1 8 Try.undI hi hz0 hz1 hz2 rfl (by decide) _ wl (ints (wantOf gs (m + 1))) rfl (hrow.out.alloc _) ⟨wr.heap.size, 0, none⟩ 1 1 [.int .i64 gk] rfl rfl (news_at wr _ 3) (by simp [Value.oneCell']) (by decide) (by unfold maxLen; omega) (by omega) (by simp; omega) _ rfl ?_; intro g5 cap5 w20 hr20 hg20 hat hlt20; have HD := hid (And.intro hr20 (grown_quiet hqw.out hrow.out hg20)); clear hr20 hg20 hat hlt20)
                    refine ⟨⟨m, by omega, by go_num, ?_, HD.out.2⟩, by simp [intOf]⟩
                    rw [Hid, HE.out, List.length_append, HWL.out, ints_app]
                    exact HD.out.1
                  · have hgd : decide (0 ≤ gk) = false := by simpa using hgk
                    have HE := hid (HWN.out hgk)
                    go_wp2
                    refine ⟨⟨m, by omega, by go_num, ?_, hqw.out⟩, by simp [intOf]⟩
                    rw [Hid, HE.out, HWL.out]; exact hrow.out
            · go_wp2
              go_ret
              exact ⟨rfl, HW.out.1.low.trans ((H8.out.2.2.1.trans ((H15.out.1.trans hq.out).below H8.out.2.2.1.size fun _ h => h.elim)).mono (by omega))⟩
        · have hyv := passed_code hR hcd
          subst hyv
          have hcb : (cd != 0) = true := by simpa using hcd
          have hv0s : v0.same v0 = true := same_refl v0
          clear hR hcd
          go_wp2_with (first
            | (go_at_call 14; refine (sameVal_any v0 v0 a7 none c7 0 _ H8.out.2.1 (Is.leaf _ _ v0_fits rfl _) hy5).mono ?_; rintro e w9 ⟨rfl, q9⟩; rw [hv0s])
            | (go_at_call 12; refine HAC.out.mono ?_; rintro e w7 ⟨a7, c7, vn7, vo7, rfl, hs7, g7, go7⟩; dsimp only at hs7 g7 ⊢; have B7 := B4.out.trans (go7.kp.below B4.out.size HO4.out); have q78 : Quiet w7 (w7.alloc (.cells #[.int .i64 0, .int .i64 0, .slice a7 0 c7] 25)) := Kp.alloc _ _; have x9 := heap_alloc_new w7 (.cells #[.int .i64 0, .int .i64 0, .slice a7 0 c7] 25); have H8 := hid (And.intro (g7.quiet q78) (And.intro (hs7.now.quiet q78) (And.intro (B7.trans (q78.below B7.size fun _ h => h.elim)) x9))); obtain ⟨z0, z1, z2⟩ := HBX.out _ H8.out.2.2.1; clear hs7 g7 go7 B7 q78 x9))
          go_ret
          exact ⟨rfl, HW.out.1.low.trans ((H8.out.2.2.1.trans (q9.below H8.out.2.2.1.size fun _ h => h.elim)).mono (by omega))⟩
end Go.Proofs.Ytclkaamcoicgcae
