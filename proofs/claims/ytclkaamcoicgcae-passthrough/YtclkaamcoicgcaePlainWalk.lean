/- The law PassPlain: the walk, whatever way May and Across go. -/
import Derived.Test.YtclkaamcoicgcaePassLaw
import Derived.Test.YtclkaamcoicgcaeRefSame
namespace Go.Proofs.Ytclkaamcoicgcae
open Go.ChangeShapes Go.WideShapes Go.ChangeAt Go.RowKit
open Gr (Nd Res nd0 thereB deriveOf addOf rightsN wayOf gatesOf gatesW targetOf Wf NdOk GS Goes Own StepP IntsAt Pair Lies Stp ndCells)
/-- What came in stays beside the object. -/
theorem safe_is {F : Nat → Prop} {w wr : World} {v : V} {ao : Option Addr} (hI : Is w v ao) (hb : Below w.heap.size w wr) (hF : ∀ k, F k → w.heap.size ≤ k) : SafeF F (fun w => Is w v ao) wr := by
  intro w' k
  refine hI.kept fun a x hc => k.cell (low_kept hb a x hc) fun e => ?_
  have := hF _ e
  have := World.block_lt_of_cell? w a hc
  omega
theorem safe_in {F : Nat → Prop} {w wr : World} {ga : Option Addr} {gs : List Int} (hG : IntsAt w ga gs) (hb : Below w.heap.size w wr) (hF : ∀ k, F k → w.heap.size ≤ k) : SafeF F (fun w => IntsAt w ga gs) wr := by
  intro w' k j hj
  obtain ⟨g, o, e, c⟩ := hG j hj
  refine ⟨g, o, e, k.cell (low_kept hb _ _ c) fun e => ?_⟩
  have h1 := hF _ e
  have h2 := World.block_lt_of_cell? w _ c
  simp only at h1 h2; omega
theorem safe_none {F : Nat → Prop} {w : World} : SafeF F (fun w => IntsAt w none []) w := fun _ _ j hj => by simp at hj
theorem lies_low {w w' : World} {ao : Option Addr} {ss : List Stp} (h : Lies w ao ss) (hb : Below w.heap.size w w') : Lies w' ao ss := by
  intro k hk
  obtain ⟨a, off, e, ha, c0, c1, c2, c3, c4⟩ := h k hk
  exact ⟨a, off, e, Nat.lt_of_lt_of_le ha hb.size, low_kept hb _ _ c0, low_kept hb _ _ c1, low_kept hb _ _ c2, low_kept hb _ _ c3, low_kept hb _ _ c4⟩
set_option maxRecDepth 8000 in
set_option maxHeartbeats 8000000 in
theorem plainLaw (hMay : MayC) (hAc : AcrossC) (w : World) (ss : List Stp) (sa : Option Addr) (sc : Nat) (v : V) (ao : Option Addr) (cap : Nat) (gs : List Int) (ga : Option Addr) (gc : Nat) (hS : Lies w sa ss) (hI : Is w v ao) (hG : IntsAt w ga gs) :
    Calls Try.prog 5 #[.slice sa ss.length sc, .agg #[.int .i64 v.kind, .int .i64 v.n, .slice ao v.l.length cap], .slice ga gs.length gc] w fun e w' => e = .returned (.bool true) ∧ Below w.heap.size w w' := by
  obtain ⟨W, hW⟩ : ∃ W, W = w.alloc (.cells #[.int .i64 v.kind, .int .i64 v.n, .slice ao v.l.length cap] 25) := ⟨_, rfl⟩
  have qW : Quiet w W := by rw [hW]; exact Kp.alloc _ _
  have sW : W.heap.size = w.heap.size + 1 := by rw [hW]; simp
  have b0 : W.heap[w.heap.size]? = some (.cells #[.int .i64 v.kind, .int .i64 v.n, .slice ao v.l.length cap] 25 (0, 0)) := by rw [hW]; exact heap_alloc_new w _
  have HBX := hid (fun (w' : World) (q : Below W.heap.size W w') => box_cells ((q.block _ (by omega)).trans b0))
  have HIn := hid (And.intro (lies_low hS qW.low) (And.intro (hI.quiet qW) (hG.quiet qW)))
  have HW := hid (And.intro qW (And.intro sW hW))
  have HB : Hid (Calls Try.prog 6 #[] (w.alloc (.cells #[.int .i64 v.kind, .int .i64 v.n, .slice ao v.l.length cap] 25)) fun e w' => e = .returned (.bool true) ∧ Below W.heap.size W w') := by rw [← hW]; exact hid (pbegun_of hMay hAc W)
  clear hS hI hG qW b0 hW
  by_cases h1 : 150 < ss.length
  · have h1' : (150 : Int) < (ss.length : Int) := by omega
    clear h1
    go_enter Try.func5, Try.ntmps5
    go_wp2_with (go_at_call 6; refine HB.out.mono ?_; rintro e w2 ⟨rfl, b2⟩)
    go_ret
    exact ⟨rfl, HW.out.1.low.trans (b2.mono (by omega))⟩
  · have h1' : ¬ (150 : Int) < (ss.length : Int) := by omega
    by_cases h2 : 500 < v.size
    · have hd : decide (500 < v.size) = true := by simpa using h2
      go_enter Try.func5, Try.ntmps5
      go_wp2_with (first
        | (go_at_call 7; refine (great_any v ao cap _ (HIn.out.2.1.low b2)).mono ?_; rintro e w3 ⟨rfl, q3⟩; rw [hd])
        | (go_at_call 6; refine HB.out.mono ?_; rintro e w2 ⟨rfl, b2⟩; obtain ⟨z0, z1, z2⟩ := HBX.out _ b2))
      go_ret
      exact ⟨rfl, HW.out.1.low.trans ((b2.trans (q3.below b2.size fun _ h => h.elim)).mono (by omega))⟩
    · have hd : decide (500 < v.size) = false := by simpa using h2
      by_cases h3 : 50 < gs.length
      · have h3' : (50 : Int) < (gs.length : Int) := by omega
        clear h3
        go_enter Try.func5, Try.ntmps5
        go_wp2_with (first
          | (go_at_call 7; refine (great_any v ao cap _ (HIn.out.2.1.low b2)).mono ?_; rintro e w3 ⟨rfl, q3⟩; rw [hd])
          | (go_at_call 6; refine HB.out.mono ?_; rintro e w2 ⟨rfl, b2⟩; obtain ⟨z0, z1, z2⟩ := HBX.out _ b2))
        go_ret
        exact ⟨rfl, HW.out.1.low.trans ((b2.trans (q3.below b2.size fun _ h => h.elim)).mono (by omega))⟩
      · have h3' : ¬ (50 : Int) < (gs.length : Int) := by omega
        have hS5 : v.size ≤ 500 := by omega
        have hgl : gs.length ≤ 100 := by omega
        have hsl : ss.length ≤ 200 := by omega
        clear h1 h2 h3
        go_enter Try.func5, Try.ntmps5
        go_wp2_with (first
          | (go_at_call 8; refine (graphs_any _ sa sc ss (lies_low HIn.out.1 B3.out) hsl).mono ?_)
          | (go_at_call 7; refine (great_any v ao cap _ (HIn.out.2.1.low b2)).mono ?_; rintro e w3 ⟨rfl, q3⟩; rw [hd]; have B3 := hid (b2.trans (q3.below b2.size fun _ h => h.elim)); clear q3)
          | (go_at_call 6; refine HB.out.mono ?_; rintro e w2 ⟨rfl, b2⟩; obtain ⟨z0, z1, z2⟩ := HBX.out _ b2))
        rintro e w4 ⟨gb, rb, vn, vo, vn2, vo2, ns, os, he, hP, hWf⟩
        subst he
        have hs3 : W.heap.size ≤ w3.heap.size := B3.out.size
        have B4 := hid (B3.out.trans (hP.below.mono hs3))
        have hs4 : w3.heap.size ≤ w4.heap.size := hP.below.size
        have hOwn : ∀ k, Own gb vn vo k → W.heap.size ≤ k := fun k e => by have := (hP.g.own k e).1; omega
        have HSI := hid (safe_is (F := Own gb vn vo) HIn.out.2.1 B4.out hOwn)
        have HSG := hid (safe_in (F := Own gb vn vo) HIn.out.2.2 B4.out hOwn)
        have HP := hid (And.intro hP.g (And.intro hWf hOwn))
        have hln := hP.g.ln
        obtain ⟨y0, y1, y2⟩ := HBX.out _ B4.out
        have HN := hid (passed_none ns os v)
        have HPO := hid (show passedOf ns os gs v = if mayOf ns os v = 0 then v.handed os gs ns else (v0, mayOf ns os v, ns) from rfl)
        have HMC := hid (fun (w' : World) (q : Quiet w4 w') => hMay _ gb os v ao cap w' vn vo ns (hP.g.quiet q) hWf (HIn.out.2.1.low (B4.out.trans (q.below B4.out.size fun _ h => h.elim))) hS5)
        have HAC := hid (fun (w' : World) (q : Quiet w4 w') => hAc _ gb os [] v ao cap none 0 w' vn vo ns (hP.g.quiet q) hWf hS5 (by simp) (safe_quiet HSI.out q) safe_none)
        clear z0 z1 z2 hP hWf hOwn hMay
        generalize mayOf ns os v = mc at *
        by_cases hm : mc = 0
        · subst hm
          rw [if_pos rfl] at HN
          rw [HN.out] at HAC
          clear HPO hAc
          go_wp2_with (first
            | (go_at_call 15; refine (Gr.sameNodes_any _ _ _ _ _ ns ns ns _ _ _ _ (by omega) H9.out.1 (H9.out.2) (List.prefix_refl _) (List.prefix_refl _)).mono ?_; rintro e w10 ⟨rfl, q10⟩)
            | (go_at_call 16; refine (Gr.nodes_any (G8.out.1)).mono ?_; rintro e w9 ⟨v9, rfl, r9, q9⟩; obtain ⟨a9, c9, rfl⟩ := owns_shape r9; have H9 := hid (And.intro (q9.row G8.out.2.1 (fun _ _ e => e)) r9); have B9 := hid (B8.out.trans (q9.below B8.out.size fun _ h => h.elim)); clear q9 r9)
            | (go_at_call 14; refine (sameVal_any v v ao a7 cap c7 _ (HIn.out.2.1.low B7a.out) (hs7.out.now.quiet (Kp.alloc _ _)) hS5).mono ?_; rintro e w8 ⟨rfl, q8⟩; rw [same_refl]; have B8 := hid (B7a.out.trans (q8.below B7a.out.size fun _ h => h.elim)); have G8 := hid (And.intro (g7.out.quiet ((Kp.alloc _ _).trans q8)) (And.intro (((Kp.alloc _ _).trans q8).row r7.out (fun _ _ e => e)) trivial)); clear q8)
            | (go_at_call 12; refine (HAC.out _ q6).mono ?_; rintro e w7 ⟨a7, c7, vn7, vo7, rfl, hs7, g7, go7⟩; dsimp only at hs7 g7 ⊢; have hz7 := go7.kp.size; have B7 := hid (B6.out.trans (go7.kp.below B6.out.size HP.out.2.2)); have B7a := hid (B7.out.alloc B7.out.size (.cells #[.int .i64 v.kind, .int .i64 v.n, .slice a7 v.l.length c7] 25)); have r7 := hid (go7.row r6.out.1 r6.out.2).1; obtain ⟨x0, x1, x2⟩ := HBX.out _ B7a.out; have hs7 := hid hs7; have g7 := hid g7; clear go7)
            | (go_at_call 10; refine (HMC.out _ q5).mono ?_; rintro e w6 ⟨rfl, q6⟩; have r6 := hid (And.intro (q6.row r5.out.1 (fun _ _ e => e)) r5.out.2); replace q6 := q5.trans q6; have B6 := hid (B4.out.trans (q6.below B4.out.size fun _ h => h.elim)); obtain ⟨u0, u1, u2⟩ := HBX.out _ B6.out)
            | (go_at_call 16; refine (Gr.nodes_any HP.out.1).mono ?_; rintro e w5 ⟨v5, rfl, r5, q5⟩; obtain ⟨a5, c5, rfl⟩ := owns_shape r5; have r5 := hid (And.intro r5 (fun x (hx : (Value.slice a5 ns.length c5).ownBlock = some x) => HP.out.1.free_new x (r5.lt x hx).1)); have B5 := hid (B4.out.trans (q5.below B4.out.size fun _ h => h.elim)); obtain ⟨t0, t1, t2⟩ := HBX.out _ B5.out))
          go_ret
          exact ⟨rfl, HW.out.1.low.trans ((B9.out.trans (q10.below B9.out.size fun _ h => h.elim)).mono (by omega))⟩
        · have hmb : (mc != 0) = true := by simpa using hm
          have hmc : (mc == 0) = false := by simpa using hm
          rw [if_neg hm] at HN HPO
          rw [HN.out] at HAC
          have HA2 := hid (fun (B : Nat) (w' : World) (vn' vo' : Value) (hg : GS 70 B w' gb vn' vo' ns os) (h1 : SafeF (Own gb vn' vo') (fun w => Is w v ao) w') (h2 : SafeF (Own gb vn' vo') (fun w => IntsAt w ga gs) w') => (show Calls Try.prog 12 _ w' (fun e w2 => HandQ 70 B gb vn' vo' (v0, mc, ns) os w' e w2) from HPO.out ▸ hAc B gb os gs v ao cap ga gc w' vn' vo' ns hg HP.out.2.1 hS5 hgl h1 h2))
          have hv0 : v0.size ≤ 500 := by rw [v0, size_mk, sizes_nil]; decide
          have hv0s : v0.same v0 = true := same_refl v0
          clear hm hAc
          go_wp2_with (first
            | (go_at_call 15; refine (Gr.sameNodes_any _ _ _ _ _ ns ns ns _ _ _ _ (by omega) H12.out.1 (H12.out.2) (List.prefix_refl _) (List.prefix_refl _)).mono ?_; rintro e w13 ⟨rfl, q13⟩)
            | (go_at_call 16; refine (Gr.nodes_any g11.out).mono ?_; rintro e w12 ⟨v12, rfl, r12, q12⟩; obtain ⟨a12, c12, rfl⟩ := owns_shape r12; have H12 := hid (And.intro (q12.row r11.out (fun _ _ e => e)) r12); have B12 := hid (B11.out.trans (q12.below B11.out.size fun _ h => h.elim)); clear q12 r12)
            | (go_at_call 12; refine (HA2.out _ _ _ _ G10.out.1 (safe_quiet G10.out.2.2.1 q10) (safe_quiet G10.out.2.2.2 q10)).mono ?_; rintro e w11 ⟨a11, c11, vn11, vo11, rfl, _, g11, go11⟩; dsimp only at g11 ⊢; have B11 := hid (B10.out.trans (go11.kp.below B10.out.size (fun k e => hO8.out k e))); have r11 := hid (go11.row (q10.row H9.out.1 (fun _ _ e => e)) (fun x hx => G8.out.2.2.1 x hx)).1; have g11 := hid g11; clear go11)
            | (go_at_call 15; refine (Gr.sameNodes_any _ _ _ _ _ ns ns ns _ _ _ _ (by omega) H9.out.1 (H9.out.2) (List.prefix_refl _) (List.prefix_refl _)).mono ?_; rintro e w10 ⟨rfl, q10⟩; have B10 := hid (B9.out.trans (q10.below B9.out.size fun _ h => h.elim)); have G10 := hid (And.intro (G8.out.1.quiet (q9.trans q10)) (And.intro trivial (And.intro (safe_quiet G8.out.2.2.2.1 q9) (safe_quiet G8.out.2.2.2.2 q9)))); obtain ⟨s0, s1, s2⟩ := HBX.out _ B10.out)
            | (go_at_call 16; refine (Gr.nodes_any (G8.out.1)).mono ?_; rintro e w9 ⟨v9, rfl, r9, q9⟩; obtain ⟨a9, c9, rfl⟩ := owns_shape r9; have H9 := hid (And.intro (q9.row G8.out.2.1 (fun _ _ e => e)) r9); have B9 := hid (B8.out.trans (q9.below B8.out.size fun _ h => h.elim)); clear r9)
            | (go_at_call 14; refine (sameVal_any v0 v0 a7 none c7 0 _ (hs7.out.now.quiet (Kp.alloc _ _)) (Is.leaf _ _ v0_fits rfl _) hv0).mono ?_; rintro e w8 ⟨rfl, q8⟩; rw [hv0s]; have B8 := hid (B7a.out.trans (q8.below B7a.out.size fun _ h => h.elim)); have G8 := hid (And.intro (g7.out.quiet ((Kp.alloc _ _).trans q8)) (And.intro (((Kp.alloc _ _).trans q8).row r7.out.1 (fun _ _ e => e)) (And.intro r7.out.2 (And.intro (safe_quiet hsi7.out.1 ((Kp.alloc _ _).trans q8)) (safe_quiet hsi7.out.2 ((Kp.alloc _ _).trans q8)))))); clear q8)
            | (go_at_call 12; refine (HAC.out _ q6).mono ?_; rintro e w7 ⟨a7, c7, vn7, vo7, rfl, hs7, g7, go7⟩; dsimp only at hs7 g7 ⊢; have hz7 := go7.kp.size; have B7 := hid (B6.out.trans (go7.kp.below B6.out.size HP.out.2.2)); have B7a := hid (B7.out.alloc B7.out.size (.cells #[.int .i64 0, .int .i64 0, .slice a7 0 c7] 25)); have r7 := hid (go7.row r6.out.1 r6.out.2); have hsi7 := hid (And.intro ((safe_quiet HSI.out q6).goes go7) ((safe_quiet HSG.out q6).goes go7)); have hO8 := hid (fun k (e : Own gb vn7 vo7 k) => show W.heap.size ≤ k by rcases go7.own k e with e | e; exact HP.out.2.2 k e; exact Nat.le_trans B6.out.size e); obtain ⟨x0, x1, x2⟩ := HBX.out _ B7a.out; have hs7 := hid hs7; have g7 := hid g7; clear go7)
            | (go_at_call 10; refine (HMC.out _ q5).mono ?_; rintro e w6 ⟨rfl, q6⟩; have r6 := hid (And.intro (q6.row r5.out.1 (fun _ _ e => e)) r5.out.2); replace q6 := q5.trans q6; have B6 := hid (B4.out.trans (q6.below B4.out.size fun _ h => h.elim)); obtain ⟨u0, u1, u2⟩ := HBX.out _ B6.out)
            | (go_at_call 16; refine (Gr.nodes_any HP.out.1).mono ?_; rintro e w5 ⟨v5, rfl, r5, q5⟩; obtain ⟨a5, c5, rfl⟩ := owns_shape r5; have r5 := hid (And.intro r5 (fun x (hx : (Value.slice a5 ns.length c5).ownBlock = some x) => HP.out.1.free_new x (r5.lt x hx).1)); have B5 := hid (B4.out.trans (q5.below B4.out.size fun _ h => h.elim)); obtain ⟨t0, t1, t2⟩ := HBX.out _ B5.out))
          go_ret
          exact ⟨rfl, HW.out.1.low.trans ((B12.out.trans (q13.below B12.out.size fun _ h => h.elim)).mono (by omega))⟩
end Go.Proofs.Ytclkaamcoicgcae
