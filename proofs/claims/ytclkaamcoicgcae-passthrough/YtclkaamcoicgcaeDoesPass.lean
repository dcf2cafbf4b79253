/- The law PassDoes: the walk, whatever way May and Across go. -/
import Derived.Test.YtclkaamcoicgcaePlainWalk
import Derived.Deep.RegionHeld3
namespace Go.Proofs.Ytclkaamcoicgcae
open Go.ChangeShapes Go.WideShapes Go.ChangeAt Go.RowKit
open Gr (Nd Res nd0 thereB deriveOf addOf rightsN wayOf gatesOf gatesW targetOf Wf NdOk GS Goes Own StepP IntsAt Pair Lies Stp ndCells)
theorem box_keeps {w w' : World} {c : Array Value} {t : TypeId} (q : Quiet (w.alloc (.cells c t)) w') : w'.heap[w.heap.size]? = some (.cells c t (0, 0)) := (q.block _ (lt_of_block (heap_alloc_new w _)) fun e => e).trans (heap_alloc_new w _)
theorem Hold.safe {lo : Nat} {w : World} {v : V} {ao : Option Addr} (h : Hold lo none w v ao) : SafeF (fun k => k < lo) (fun w => Is w v ao) w :=
  fun w' k => h w' fun i _ _ h1 _ hc => (k.block i (lt_of_block hc) (by omega)).trans hc
theorem handed_size (os : List Bool) (gs : List Int) (v : V) : ∀ ns, (v.handed os gs ns).1.size ≤ v.size := by
  induction v using V.ind' with
  | h v ih =>
    have key : ∀ l : List V, (∀ x ∈ l, ∀ ns, (x.handed os gs ns).1.size ≤ x.size) → ∀ ns, sizes (handeds os gs l ns).1 ≤ sizes l := by
      intro l
      induction l with
      | nil => intro _ ns; rw [handeds_nil]; exact Nat.le_refl _
      | cons x l ihl =>
        intro hx ns
        rw [handeds_cons]
        split
        · split
          · rw [sizes_cons, sizes_cons]
            have h1 := hx x (by simp) ns
            have h2 := ihl (fun y hy => hx y (by simp [hy])) (x.handed os gs ns).2.2
            omega
          · rw [sizes_nil]; omega
        · rw [sizes_nil]; omega
    intro ns
    have hp := size_pos v
    have h0 : v0.size = 1 := by rw [v0, size_mk, sizes_nil]
    rw [handed_eq]
    split
    · split
      · rw [size_mk, size_eq v]
        have := key v.l ih (numOf os gs v ns).2.2
        omega
      · rw [h0]; omega
    · rw [h0]; omega
theorem passed_size (ns : List Nd) (os : List Bool) (gs : List Int) (v : V) : (passedOf ns os gs v).1.size ≤ v.size := by
  unfold passedOf
  split
  · exact handed_size os gs v ns
  · have := size_pos v
    rw [v0, size_mk, sizes_nil]; omega
set_option maxRecDepth 8000 in
set_option maxHeartbeats 8000000 in
theorem doesLaw (hMay : MayC) (hAc : AcrossC) (w : World) (ss : List Stp) (sa : Option Addr) (sc : Nat) (v : V) (ao : Option Addr) (cap : Nat) (gs : List Int) (ga : Option Addr) (gc : Nat) (hS : Lies w sa ss) (hI : Is w v ao) (hG : IntsAt w ga gs) :
    Calls Try.prog 3 #[.slice sa ss.length sc, .agg #[.int .i64 v.kind, .int .i64 v.n, .slice ao v.l.length cap], .slice ga gs.length gc] w fun e w' => e = .returned (.bool true) ∧ Below w.heap.size w w' := by
  obtain ⟨W, hW⟩ : ∃ W, W = w.alloc (.cells #[.int .i64 v.kind, .int .i64 v.n, .slice ao v.l.length cap] 25) := ⟨_, rfl⟩
  have qW : Quiet w W := by rw [hW]; exact Kp.alloc _ _
  have sW : W.heap.size = w.heap.size + 1 := by rw [hW]; simp
  have b0 : W.heap[w.heap.size]? = some (.cells #[.int .i64 v.kind, .int .i64 v.n, .slice ao v.l.length cap] 25 (0, 0)) := by rw [hW]; exact heap_alloc_new w _
  have HBX := hid (fun (w' : World) (q : Below W.heap.size W w') => box_cells ((q.block _ (by omega)).trans b0))
  have HIn := hid (And.intro (lies_low hS qW.low) (And.intro (hI.quiet qW) (hG.quiet qW)))
  have HW := hid (And.intro qW (And.intro sW hW))
  have HB : Hid (Calls Try.prog 6 #[] (w.alloc (.cells #[.int .i64 v.kind, .int .i64 v.n, .slice ao v.l.length cap] 25)) fun e w' => e = .returned (.bool true) ∧ Below W.heap.size W w') := by rw [← hW]; exact hid (pbegun_of hMay hAc W)
  clear hS hI hG qW b0 hW
  by_cases h1 : 150 < ss.length
  · have h1' : (150 : Int) < (ss.length : Int) := by omega
    clear h1
    go_enter Try.func3, Try.ntmps3
    go_wp2_with (go_at_call 6; refine HB.out.mono ?_; rintro e w2 ⟨rfl, b2⟩)
    go_ret
    exact ⟨rfl, HW.out.1.low.trans (b2.mono (by omega))⟩
  · have h1' : ¬ (150 : Int) < (ss.length : Int) := by omega
    by_cases h2 : 500 < v.size
    · have hd : decide (500 < v.size) = true := by simpa using h2
      go_enter Try.func3, Try.ntmps3
      go_wp2_with (first
        | (go_at_call 7; refine (great_any v ao cap _ (HIn.out.2.1.low b2)).mono ?_; rintro e w3 ⟨rfl, q3⟩; rw [hd])
        | (go_at_call 6; refine HB.out.mono ?_; rintro e w2 ⟨rfl, b2⟩; obtain ⟨z0, z1, z2⟩ := HBX.out _ b2))
      go_ret
      exact ⟨rfl, HW.out.1.low.trans ((b2.trans (q3.below b2.size fun _ h => h.elim)).mono (by omega))⟩
    · have hd : decide (500 < v.size) = false := by simpa using h2
      by_cases h3 : 50 < gs.length
      · have h3' : (50 : Int) < (gs.length : Int) := by omega
        clear h3
        go_enter Try.func3, Try.ntmps3
        go_wp2_with (first
          | (go_at_call 7; refine (great_any v ao cap _ (HIn.out.2.1.low b2)).mono ?_; rintro e w3 ⟨rfl, q3⟩; rw [hd])
          | (go_at_call 6; refine HB.out.mono ?_; rintro e w2 ⟨rfl, b2⟩; obtain ⟨z0, z1, z2⟩ := HBX.out _ b2))
        go_ret
        exact ⟨rfl, HW.out.1.low.trans ((b2.trans (q3.below b2.size fun _ h => h.elim)).mono (by omega))⟩
      · have h3' : ¬ (50 : Int) < (gs.length : Int) := by omega
        have hS5 : v.size ≤ 500 := by omega
        have hgl : gs.length ≤ 100 := by omega
        have hsl : ss.length ≤ 200 := by omega
        clear h1 h2 h3
        go_enter Try.func3, Try.ntmps3
        go_wp2_with (first
          | (go_at_call 8; refine (graphs_any _ sa sc ss (lies_low HIn.out.1 B3.out) hsl).mono ?_)
          | (go_at_call 7; refine (great_any v ao cap _ (HIn.out.2.1.low b2)).mono ?_; rintro e w3 ⟨rfl, q3⟩; rw [hd]; have B3 := hid (b2.trans (q3.below b2.size fun _ h => h.elim)); clear q3)
          | (go_at_call 6; refine HB.out.mono ?_; rintro e w2 ⟨rfl, b2⟩; obtain ⟨z0, z1, z2⟩ := HBX.out _ b2))
        rintro e w4 ⟨gb, rb, vn, vo, vn2, vo2, ns, os, he, hP, hWf⟩
        subst he
        have hs3 : W.heap.size ≤ w3.heap.size := B3.out.size
        have B4 := hid (B3.out.trans (hP.below.mono hs3))
        have hs4 : w3.heap.size ≤ w4.heap.size := hP.below.size
        have HP := hid (And.intro hP hWf)
        have HOG := hid (fun k (e : Own gb vn vo k) => hP.g.own k e)
        have HOR := hid (fun k (e : Own rb vn2 vo2 k) => hP.r.own k e)
        obtain ⟨y0, y1, y2⟩ := HBX.out _ B4.out
        clear z0 z1 z2 hP hWf
        obtain ⟨y, cd, nsr, hR⟩ : ∃ y cd nsr, passedOf ns os gs v = (y, cd, nsr) := ⟨_, _, _, rfl⟩
        have HR := hid hR
        clear hR
        go_wp2_with (go_at_call 9; refine (ownR5 v ao cap _ (HIn.out.2.1.low B4.out) hS5).mono ?_; rintro e w5 ⟨oa, oc, rfl, hH, q5⟩; have H5 := hid (And.intro hH.safe q5); clear hH q5)
        have q56 : Quiet w5 (w5.alloc (.cells #[.int .i64 v.kind, .int .i64 v.n, .slice oa v.l.length oc] 25)) := Kp.alloc _ _
        have x9 := heap_alloc_new w5 (.cells #[.int .i64 v.kind, .int .i64 v.n, .slice oa v.l.length oc] 25)
        have hx5 : w4.heap.size ≤ w5.heap.size := H5.out.2.size
        have Q6 := H5.out.2.trans q56
        have HS6 := safe_quiet H5.out.1 q56
        generalize w5.alloc (.cells #[.int .i64 v.kind, .int .i64 v.n, .slice oa v.l.length oc] 25) = W6 at *
        generalize w5.heap.size = xb at *
        have B6 := hid (B4.out.trans (Q6.below B4.out.size fun _ h => h.elim))
        have HQ6 := hid (And.intro Q6 (And.intro HS6 x9))
        have sAll := hid (fun (w' : World) (q : Quiet W6 w') => And.intro (box_cells ((q.block _ (lt_of_block x9) fun e => e).trans x9)) (HBX.out _ (B6.out.trans (q.below B6.out.size fun _ h => h.elim))))
        have HMC := hid (fun (w' : World) (q : Quiet W6 w') => hMay _ gb os v oa oc w' vn vo ns ((HP.out.1.g.quiet HQ6.out.1).quiet q) HP.out.2 ((HQ6.out.2.1.now).quiet q) hS5)
        have HNC := hid (fun (w' : World) (q : Quiet W6 w') => nmay_any ((HP.out.1.r.quiet HQ6.out.1).quiet q) HP.out.2 v ao cap (HIn.out.2.1.low (B6.out.trans (q.below B6.out.size fun _ h => h.elim))) hS5)
        clear y0 y1 y2 x9 q56 Q6 HS6 H5
        generalize mayOf ns os v = mc at *
        go_region_held3 (fun w' => (w'.cell? ⟨xb, 0, none⟩ = some (.int .i64 v.kind) ∧ w'.cell? ⟨xb, 1, none⟩ = some (.int .i64 v.n) ∧ w'.cell? ⟨xb, 2, none⟩ = some (.slice oa v.l.length oc)) ∧ w'.cell? ⟨w.heap.size, 0, none⟩ = some (.int .i64 v.kind) ∧ w'.cell? ⟨w.heap.size, 1, none⟩ = some (.int .i64 v.n) ∧ w'.cell? ⟨w.heap.size, 2, none⟩ = some (.slice ao v.l.length cap)) ((refine sAll.out _ ?_; first | assumption | exact Kp.drew _))
          (first
            | (go_at_call 10; refine (HMC.out _ (Kp.drew _)).mono ?_; rintro e w7 ⟨rfl, q7⟩; replace q7 : Quiet W6 w7 := (Kp.drew W6).trans q7)
            | (go_at_call 11; refine (HNC.out _ q7).mono ?_; rintro e w8 ⟨rfl, q8⟩; replace q8 : Quiet W6 w8 := q7.trans q8))
        have Q48 : Quiet w4 w8 := HQ6.out.1.trans q8
        have B8 := hid (B4.out.trans (Q48.below B4.out.size fun _ h => h.elim))
        have S8 := safe_quiet HQ6.out.2.1 q8
        have x9 := (q8.block _ (lt_of_block HQ6.out.2.2) fun e => e).trans HQ6.out.2.2
        have hOG : ∀ k, Own gb vn vo k → W.heap.size ≤ k := fun k e => by have := (HOG.out k e).1; omega
        have hOR : ∀ k, Own rb vn2 vo2 k → W.heap.size ≤ k := fun k e => by have := (HOR.out k e).1; omega
        have HAC := hid (hAc _ gb os gs v oa oc ga gc w8 vn vo ns (HP.out.1.g.quiet Q48) HP.out.2 hS5 hgl (S8.mono fun k _ e => (HOG.out k e).2) (safe_in HIn.out.2.2 B8.out hOG))
        rw [HR.out] at HAC
        have HX8 := hid (And.intro S8 (And.intro x9 (And.intro Q48 (And.intro hOG hOR))))
        obtain ⟨⟨z0, z1, z2⟩, ⟨u0, u1, u2⟩⟩ := sAll.out _ q8
        clear S8 x9 Q48 hOG hOR sAll HMC HNC hMay hAc q7
        go_wp2_with (go_at_call 12; refine HAC.out.mono ?_; rintro e w9 ⟨a9, c9, vn9, vo9, rfl, hs9, g9, go9⟩; dsimp only at hs9 g9 ⊢; have H9 := hid (And.intro hs9 (And.intro g9 go9)); have hz9 := go9.kp.size; have B9 := hid (B8.out.trans (go9.kp.below B8.out.size HX8.out.2.2.2.1)); have B9a := hid (B9.out.alloc B9.out.size (.cells #[.int .i64 y.kind, .int .i64 y.n, .slice a9 y.l.length c9] 25)); obtain ⟨r0, r1, r2⟩ := HBX.out _ B9a.out; clear hs9 g9 go9)
        have r9 := H9.out.2.2.beside (HP.out.1.r.quiet HX8.out.2.2.1) HP.out.1.bes
        have q910 : Quiet w9 (w9.alloc (.cells #[.int .i64 y.kind, .int .i64 y.n, .slice a9 y.l.length c9] 25)) := Kp.alloc _ _
        have x10 := heap_alloc_new w9 (.cells #[.int .i64 y.kind, .int .i64 y.n, .slice a9 y.l.length c9] 25)
        have hz8 : w4.heap.size ≤ w8.heap.size := HX8.out.2.2.1.size
        have x99 := (H9.out.2.2.block HX8.out.2.1 (fun e => by have := (HOG.out _ e).2; omega)).1
        have S9 := safe_quiet (HX8.out.1.step (F' := fun k => k < w4.heap.size) (H9.out.2.2.kp.mono fun k _ e => (HOG.out k e).2) fun _ _ e => e) q910
        have SY := safe_quiet H9.out.1 q910
        have G10 := H9.out.2.1.quiet q910
        have R10 := r9.1.quiet q910
        have hz10 : w9.heap.size < (w9.alloc (.cells #[.int .i64 y.kind, .int .i64 y.n, .slice a9 y.l.length c9] 25)).heap.size := by simp
        have x9b := (q910.block _ (lt_of_block x99) fun e => e).trans x99
        generalize w9.alloc (.cells #[.int .i64 y.kind, .int .i64 y.n, .slice a9 y.l.length c9] 25) = w10 at *
        have B10 := hid B9a.out
        have HPC := hid (npassed_any hgl v ao cap ga gc w10 vn2 vo2 ns R10 HP.out.2 hS5 (safe_is HIn.out.2.1 B10.out HX8.out.2.2.2.2) (safe_in HIn.out.2.2 B10.out HX8.out.2.2.2.2))
        rw [HR.out] at HPC
        have H10 := hid (And.intro (And.intro S9 SY) (And.intro (And.intro G10 r9.2.symm) (And.intro x10 x9b)))
        generalize w9.heap.size = xc at *
        clear S9 SY G10 R10 x10 x9b x99 r9 q910 B9a z0 z1 z2 u0 u1 u2 r0 r1 r2
        refine HPC.out.mono ?_
        rintro e w11 ⟨a11, c11, vn11, vo11, he, hs11, g11, go11⟩
        subst he
        dsimp only at hs11 g11 ⊢
        have q1112 : Quiet w11 (w11.alloc (.cells #[.int .i64 y.kind, .int .i64 y.n, .slice a11 y.l.length c11] 25)) := Kp.alloc _ _
        have B11 := B10.out.trans (go11.kp.below B10.out.size HX8.out.2.2.2.2)
        have G11 := (go11.beside H10.out.2.1.1 H10.out.2.1.2).1.quiet q1112
        have I9 := (safe_quiet (H10.out.1.1.step (F' := fun k => k < w4.heap.size) (go11.kp.mono fun k _ e => (HOR.out k e).2) fun _ _ e => e) q1112).now
        have IY := (H10.out.1.2.step (F' := fun k => k < w8.heap.size) (go11.kp.mono fun k _ e => .inr (by have := (HOR.out k e).2; omega)) fun _ _ e => .inr e)
        have IY2 := (safe_quiet IY q1112).now
        have IB := (safe_quiet hs11 q1112).now
        have X10 := (go11.block H10.out.2.2.1 (fun e => by have := (HOR.out _ e).2; omega)).1
        have X9 := (go11.block H10.out.2.2.2 (fun e => by have := (HOR.out _ e).2; omega)).1
        have X12 := heap_alloc_new w11 (.cells #[.int .i64 y.kind, .int .i64 y.n, .slice a11 y.l.length c11] 25)
        have Y10 := (q1112.block _ (lt_of_block X10) fun e => e).trans X10
        have Y9 := (q1112.block _ (lt_of_block X9) fun e => e).trans X9
        have R11 := g11.quiet q1112
        have B12 := B11.trans (q1112.below B11.size fun _ h => h.elim)
        have hy5 : y.size ≤ 500 := by have := passed_size ns os gs v; rw [HR.out] at this; simp only at this; omega
        have hysame := same_refl y
        have hvsame := same_refl v
        obtain ⟨an, cn, hvn⟩ := owns_shape R11.rn
        subst hvn
        have hln := R11.ln
        go_wp2
        generalize w11.alloc (.cells #[.int .i64 y.kind, .int .i64 y.n, .slice a11 y.l.length c11] 25) = W12 at *
        generalize w11.heap.size = xd at *
        have sAll := hid (fun (w' : World) (q : Quiet W12 w') => And.intro (box_cells ((q.block _ (lt_of_block Y10) fun e => e).trans Y10)) (And.intro (box_cells ((q.block _ (lt_of_block X12) fun e => e).trans X12)) (And.intro (box_cells ((q.block _ (lt_of_block Y9) fun e => e).trans Y9)) (And.intro (HBX.out _ (B12.trans (q.below B12.size fun _ h => h.elim))) ((R11.quiet q).cell0)))))
        have HF := hid (And.intro G11 (And.intro R11 (And.intro (And.intro IY2 IB) (And.intro (And.intro I9 (HIn.out.2.1.low B12)) B12))))
        clear G11 R11 IY IY2 IB I9 B12 B11 X9 X10 X12 Y9 Y10 q1112 hs11 g11 go11 H10 H9 HX8 HPC B10 B9 HQ6 hz8 hz9 hz10
        go_region_held3 (fun w' => (w'.cell? ⟨xc, 0, none⟩ = some (.int .i64 y.kind) ∧ w'.cell? ⟨xc, 1, none⟩ = some (.int .i64 y.n) ∧ w'.cell? ⟨xc, 2, none⟩ = some (.slice a9 y.l.length c9)) ∧ (w'.cell? ⟨xd, 0, none⟩ = some (.int .i64 y.kind) ∧ w'.cell? ⟨xd, 1, none⟩ = some (.int .i64 y.n) ∧ w'.cell? ⟨xd, 2, none⟩ = some (.slice a11 y.l.length c11)) ∧ (w'.cell? ⟨xb, 0, none⟩ = some (.int .i64 v.kind) ∧ w'.cell? ⟨xb, 1, none⟩ = some (.int .i64 v.n) ∧ w'.cell? ⟨xb, 2, none⟩ = some (.slice oa v.l.length oc)) ∧ (w'.cell? ⟨w.heap.size, 0, none⟩ = some (.int .i64 v.kind) ∧ w'.cell? ⟨w.heap.size, 1, none⟩ = some (.int .i64 v.n) ∧ w'.cell? ⟨w.heap.size, 2, none⟩ = some (.slice ao v.l.length cap)) ∧ w'.cell? ⟨rb, 0, none⟩ = some (.slice an nsr.length cn)) ((refine sAll.out _ ?_; first | assumption | exact Kp.drew _))
          (first
            | (go_at_call 15; refine (Gr.sameNodes_any _ _ _ _ _ nsr nsr nsr _ _ _ _ (by omega) r15 (HF.out.2.1.quiet q15).rn (List.prefix_refl _) (List.prefix_refl _)).mono ?_; rintro e w16 ⟨rfl, q16⟩; replace q16 : Quiet W12 w16 := q15.trans q16)
            | (go_at_call 16; refine (Gr.nodes_any (HF.out.1.quiet q14)).mono ?_; rintro e w15 ⟨v15, rfl, r15, q15⟩; replace q15 : Quiet W12 w15 := q14.trans q15; obtain ⟨a15, c15, rfl⟩ := owns_shape r15)
            | (go_at_call 14; refine (sameVal_any v v oa ao oc cap _ (HF.out.2.2.2.1.1.quiet q13) (HF.out.2.2.2.1.2.quiet q13) hS5).mono ?_; rintro e w14 ⟨rfl, q14⟩; rw [hvsame]; replace q14 : Quiet W12 w14 := q13.trans q14)
            | (go_at_call 14; refine (sameVal_any y y a9 a11 c9 c11 _ (HF.out.2.2.1.1.quiet (Kp.drew _)) (HF.out.2.2.1.2.quiet (Kp.drew _)) hy5).mono ?_; rintro e w13 ⟨rfl, q13⟩; rw [hysame]; replace q13 : Quiet W12 w13 := (Kp.drew W12).trans q13))
        go_wp2
        go_ret
        exact ⟨rfl, HW.out.1.low.trans ((HF.out.2.2.2.2.trans (q16.below HF.out.2.2.2.2.size fun _ h => h.elim)).mono (by omega))⟩
end Go.Proofs.Ytclkaamcoicgcae
