/- The walk of the law GraphNarrows. -/
import Derived.Test.YthplldgdgmhdlabNarrowMath
namespace Go.Proofs.Ythplldgdgmhdlab
open Go.ChangeShapes Go.WideShapes Go.ChangeAt Go.RowKit
/-- The row of rights beside the object, as far as it is filled. -/
structure Fill (B : Nat) (w0 wr : World) (gb c0 : Nat) (vn vo : Value) (ns : List Nd) (os : List Bool) (l : List Int) : Prop where
  g : GS 52 B wr gb vn vo ns os
  row : wr.heap[c0]? = some (.cells (ints l).toArray 3 (0, 0))
  out : ¬ Own gb vn vo c0
  lo : B ≤ c0
  below : Below B w0 wr
section
variable {B : Nat} {w0 wr w' : World} {gb c0 : Nat} {vn vo : Value} {ns : List Nd} {os : List Bool} {l : List Int}
theorem Fill.quiet (h : Fill B w0 wr gb c0 vn vo ns os l) (hq : Quiet wr w') : Fill B w0 w' gb c0 vn vo ns os l :=
  ⟨h.g.quiet hq, (hq.block _ (lt_of_block h.row) id).trans h.row, h.out, h.lo, hq.qbelow h.g.size h.below⟩
theorem Fill.store (h : Fill B w0 wr gb c0 vn vo ns os l) (k : Nat) (x : Int) : Fill B w0 (wr.setCell ⟨c0, k, none⟩ (.int .i64 x)) gb c0 vn vo ns os (l.set k x) := by
  have k1 : Kp (fun i => i = c0) wr (wr.setCell ⟨c0, k, none⟩ (.int .i64 x)) := Kp.setCell _ _ _ rfl
  exact ⟨h.g.kept k1 fun i e e2 => h.out (e2 ▸ e), rs_store h.row k x, h.out, h.lo, h.below.setCell (p := ⟨c0, k, none⟩) h.lo _⟩
theorem Fill.goes (h : Fill B w0 wr gb c0 vn vo ns os l) {vn' vo' : Value} {ns' : List Nd} {os' : List Bool} (h' : GS 52 B w' gb vn' vo' ns' os') (hg : Goes gb vn vo wr vn' vo' w') : Fill B w0 w' gb c0 vn' vo' ns' os' l := by
  obtain ⟨r, o⟩ := hg.block h.row h.out
  exact ⟨h', r, o, h.lo, hg.below h.g h.below⟩
theorem Fill.made (h : GS 52 B wr gb vn vo ns os) (hb : Below B w0 wr) (l : List Int) : Fill B w0 (wr.alloc (.cells (ints l).toArray 3)) gb wr.heap.size vn vo ns os l :=
  ⟨h.quiet (Kp.alloc _ _), heap_alloc_new _ _, fun e => by have := (h.own _ e).2; omega, h.size, hb.alloc h.size _⟩
theorem Fill.cell (h : Fill B w0 wr gb c0 vn vo ns os l) (k : Nat) (hk : k < l.length) : wr.cell? ⟨c0, k, none⟩ = some (.int .i64 l[k]) := rs_cell h.row k hk
theorem Fill.free (h : Fill B w0 wr gb c0 vn vo ns os l) (k : Nat) : wr.frozen? ⟨c0, k, none⟩ = false := frozen_of_row wr c0 k _ 3 h.row
end
theorem rs_at {ns : List Nd} {os : List Bool} {all k m : Nat} (h : k < (rsTo ns os all m).length) (hm : k < m) : (rsTo ns os all m)[k] = ((rightsN ns os k : Nat) : Int) := by
  simp [rsTo, hm]
theorem ints_void {w : World} {ao : Option Addr} {l : List Int} (h : l.length = 0) : IntsAt w ao l := fun j hj => absurd hj (by omega)
theorem ints_tail {w : World} {base g cap : Nat} {x : Int} {l : List Int} (h : w.ownsRow base 3 1 (.slice (some ⟨g, 0, none⟩) (l.length + 1) cap) (l.length + 1) (ints (x :: l))) : IntsAt w (some ⟨g, 1, none⟩) l := by
  intro j hj
  obtain ⟨g', e, d⟩ := owns_at h (by omega)
  simp only [Option.some.injEq, Addr.mk.injEq, and_true] at e
  subst e
  refine ⟨g, 1, rfl, ?_⟩
  rw [d (1 + j) (by omega), Nat.add_comm]
  simp [ints, hj]
theorem owns_cap {w : World} {base : Nat} {e : TypeId} {size : Nat} {ao : Option Addr} {cap n : Nat} {xs : List Value} (h : w.ownsRow base e size (.slice ao n cap) n xs) : n ≤ cap := by
  rcases h.2 with ⟨h', h0⟩ | ⟨g, cap', cur, h', _, _, hc, _⟩
  · omega
  · simp only [Value.slice.injEq] at h'
    obtain ⟨_, _, rfl⟩ := h'
    exact hc
set_option maxRecDepth 8000 in
set_option maxHeartbeats 20000000 in
theorem narrowsLaw (w : World) (ao : Option Addr) (cap : Nat) (ss : List Stp) (hS : Lies w ao ss) :
    Calls Try.prog 3 #[.slice ao ss.length cap] w fun e w' => e = .returned (.bool true) ∧ Below w.heap.size w w' := by
  have HS := hid hS
  clear hS
  by_cases hl : ss.length ≤ 150
  · go_enter Try.func3, Try.ntmps3
    go_wp2_with (first
      | (go_at_call 6; refine (begun_any _).mono ?_; rintro e w1 ⟨rfl, b1⟩)
      | (go_at_call 7; refine (new_any w.heap.size _ b1.size).mono ?_; rintro e w2 ⟨rfl, h2, k2⟩))
    have b2 := k2.qbelow b1.size b1
    generalize w1.heap.size = gb at *
    go_loopw [4] (fun i wr => ∃ (k : Nat) (ns : List Nd) (os : List Bool) (vn vo : Value), k ≤ ss.length ∧ i = .int .i64 k ∧ Below w.heap.size w wr ∧ GS 52 w.heap.size wr gb vn vo ns os ∧ Wf ns os.length) (fun i _ => ss.length - (intOf i).toNat)
    case atStart => exact ⟨0, [], [], _, _, Nat.zero_le _, rfl, b2, h2, Wf.nil _⟩
    case round =>
      clear b2 h2 k2 b1
      obtain ⟨k, ns, os, vn, vo, hk, rfl, hbel, hG, hW⟩ := hrel
      by_cases hlt : k < ss.length
      · have hln := hG.ln
        have mk := make_any ns.length hln
        rw [rs_made ns os] at mk
        go_wp2_with (go_at_call 8; refine (nodes_any hG).mono ?_; rintro e w3 ⟨v3, rfl, r3, q3⟩; have h3 := hG.quiet q3; have b3 := q3.qbelow hG.size hbel; obtain ⟨a3, cap3, rfl⟩ := owns_shape r3; clear hG hbel q3 r3)
        have F0 := Fill.made h3 b3 (rsTo ns os ns.length 0)
        generalize w3.heap.size = c0 at *
        clear h3 b3 mk
        go_loopw [6] (fun i wq => ∃ m : Nat, m ≤ ns.length ∧ i = .int .i64 m ∧ Fill w.heap.size w wq gb c0 vn vo ns os (rsTo ns os ns.length m)) (fun i _ => ns.length - (intOf i).toNat)
        case atStart => exact ⟨0, Nat.zero_le _, rfl, F0⟩
        case round =>
          clear F0
          obtain ⟨m, hm, rfl, F⟩ := hrel
          by_cases hmn : m < ns.length
          · go_wp2_with (go_at_call 9; refine (rights_any F.g hW _).mono ?_; rintro e w5 ⟨rfl, q5⟩; have F5 := F.quiet q5; have cj := F5.cell m (by rw [rs_len]; exact hmn); have fj := F5.free m; have HF := hid (F5.store m ((rightsN ns os m : Nat) : Int)); clear F q5 F5)
            exact ⟨⟨m + 1, by omega, by go_num, by rw [← rs_set]; exact HF.out⟩, by simp [intOf]; omega⟩
          · have hme : m = ns.length := by omega
            subst hme
            obtain ⟨a, off, rfl, ha, c0', c1', c2', c3', c4'⟩ := HS.out k hlt
            have hgr := hid (step_grows ns os ss[k])
            have HW := hid hW
            clear hW
            generalize hx : ss[k] = x at *
            clear hx
            have bb := F.below.alloc F.g.size (.cells #[.slice none 0 0, .slice none 0 0] 34)
            rw [← bb.cell (by exact ha)] at c0' c1' c2' c3' c4'
            go_wp2_with (first
              | (go_at_call 10; refine (lstep_any F.g x).mono ?_; rintro e w4 ⟨q4, vn4, vo4, rfl, h4, k4⟩; have F4 := F.goes h4 k4; clear k4 h4 F bb c0' c1' c2' c3' c4')
              | (go_at_call 8; refine (nodes_any F4.g).mono ?_; rintro e w5 ⟨v5, rfl, r5, q5⟩; have F5 := F4.quiet q5; obtain ⟨a5, cap5, rfl⟩ := owns_shape r5; clear F4 q5))
            have HF5 := hid (And.intro F5 r5)
            clear F5 r5
            generalize hns : (stepOf ns os x).ns = nz at *
            generalize hos : (stepOf ns os x).os = oz at *
            have hgr2 := hgr.out
            have hWz : Wf nz oz.length := hgr2.wf HW.out
            have hnl := HF5.out.1.g.ln
            have hge : ns.length ≤ nz.length := by rcases hgr2.nodes with e | ⟨n, e⟩ <;> rw [e] <;> simp
            have HGR := hid hgr2
            clear hgr2 hgr hns hos
            go_loopw [8] (fun i wz => ∃ m : Nat, m ≤ nz.length ∧ i = .int .i64 m ∧ Fill w.heap.size w wz gb c0 vn4 vo4 nz oz (rsTo ns os ns.length ns.length) ∧ wz.ownsRow w4.heap.size 38 6 (.slice a5 nz.length cap5) nz.length (ndCells nz)) (fun i _ => nz.length - (intOf i).toNat)
            case atStart => exact ⟨0, Nat.zero_le _, rfl, HF5.out.1, HF5.out.2⟩
            case round =>
              clear HF5
              obtain ⟨m, hm, rfl, F, R⟩ := hrel
              by_cases hmn : m < nz.length
              · have hkm := hWz m hmn
                have hr15 := rights_le nz oz (m : Int)
                obtain ⟨g5, cap5', hv⟩ := lies_shape R (by omega)
                simp only [Value.slice.injEq, true_and] at hv
                obtain ⟨rfl, rfl⟩ := hv
                obtain ⟨q, hq⟩ : ∃ q : Nat, nz[m].rights = q := ⟨nz[m].rights.toNat, by have := hkm.r0; omega⟩
                have hq15 : q ≤ 15 := by have := hkm.r1; omega
                have EB := andNot_small _ q hr15 hq15 (rights_own (os := oz) hWz hmn hq)
                have p0 := hkm.p0
                have p1 := hkm.p1
                by_cases hpar : nz[m].parent < 0
                · have dp : decide (nz[m].parent < 0) = true := by simpa using hpar
                  by_cases hold : m < ns.length
                  · have EA := andNot_small _ _ hr15 (rights_le ns os (m : Int)) (rights_old HW.out HGR.out m hold)
                    go_wp2_with (go_at_call 9; refine (rights_any F.g hWz _).mono ?_; rintro e w6 ⟨rfl, q6⟩; have F6 := F.quiet q6; have R6 := q6.row R (fun _ _ e => e); have cm := F6.cell m (by rw [rs_len]; exact hold); rw [rs_at _ hold] at cm; obtain ⟨d0, d1, d2, d3, d4, d5⟩ := nd_cells' R6 m hmn; rw [hq] at d2; have HF := hid (And.intro F6 R6); clear F6 R6; clear F R q6)
                    exact ⟨⟨m + 1, by omega, by go_num, HF.out.1, HF.out.2⟩, by simp [intOf]; omega⟩
                  · go_wp2_with (go_at_call 9; refine (rights_any F.g hWz _).mono ?_; rintro e w6 ⟨rfl, q6⟩; have F6 := F.quiet q6; have R6 := q6.row R (fun _ _ e => e);  obtain ⟨d0, d1, d2, d3, d4, d5⟩ := nd_cells' R6 m hmn; rw [hq] at d2; have HF := hid (And.intro F6 R6); clear F6 R6; clear F R q6)
                    exact ⟨⟨m + 1, by omega, by go_num, HF.out.1, HF.out.2⟩, by simp [intOf]; omega⟩
                · obtain ⟨p, hp⟩ : ∃ p : Nat, nz[m].parent = p := ⟨nz[m].parent.toNat, by omega⟩
                  have hpm : p < m := by omega
                  have dp : decide ((p : Int) < 0) = false := by simp
                  have dpk : decide ((m : Int) ≤ (p : Int)) = false := by simp; omega
                  have hp15 := rights_le nz oz (p : Int)
                  have EC := andNot_small _ _ hr15 hp15 (rights_parent (os := oz) hWz hmn hp)
                  have HT1 := hid (show targetOf nz (m : Int) = targetOf nz (p : Int) from target_parent hWz hmn hp)
                  have hyl : (gatesOf nz (p : Int)).length ≤ 80 := by
                    have := gates_len (wayOf nz (p : Int)); have := way_len hWz (p : Int); simp only [gatesOf]; omega
                  have eqn := eqNode
                  generalize hT : targetOf nz (p : Int) = tx at *
                  have HT2 := hid hT
                  clear hT hkm p0 p1 hpar
                  obtain ⟨tp, tg, tr, tc, tl, tf⟩ := tx
                  by_cases hgate : nz[m].gate = -1
                  · have HX := hid (show gatesOf nz (m : Int) = gatesOf nz (p : Int) by rw [gates_parent hWz hmn hp, if_pos hgate, List.nil_append])
                    by_cases hold : m < ns.length
                    · have EA := andNot_small _ _ hr15 (rights_le ns os (m : Int)) (rights_old HW.out HGR.out m hold)
                      generalize hyy : gatesOf nz (p : Int) = y at *
                      go_wp2_with (first
                        | (go_at_call 9; refine (rights_any F.g hWz _).mono ?_; rintro e w6 ⟨rfl, q6⟩; have F6 := F.quiet q6; have R6 := q6.row R (fun _ _ e => e); have cm := F6.cell m (by rw [rs_len]; exact hold); rw [rs_at _ hold] at cm; obtain ⟨d0, d1, d2, d3, d4, d5⟩ := nd_cells' R6 m hmn; rw [hq] at d2; rw [hp] at d0; clear F R q6)
                        | (go_at_call 11; refine (target_any F6.g hWz _).mono ?_; rintro e w7 ⟨rfl, q7⟩; rw [HT1.out]; simp only [Nd.agg]; have q7' := q7.trans (Kp.alloc w7 (.cells #[.int .i64 tp, .int .i64 tg, .int .i64 tr, .int .i64 tc, .int .i64 tl, .int .i64 tf] 38)); have F7 := F6.quiet q7'; have R7 := q7'.row R6 (fun _ _ e => e); have x7 := heap_alloc_new w7 (.cells #[.int .i64 tp, .int .i64 tg, .int .i64 tr, .int .i64 tc, .int .i64 tl, .int .i64 tf] 38); clear F6 R6 q7 q7' d0 d1 d2 d3 d4 d5)
                        | (go_at_call 11; refine (target_any F7.g hWz _).mono ?_; rintro e w8 ⟨rfl, q8⟩; rw [HT2.out]; simp only [Nd.agg]; have q8' := q8.trans (Kp.alloc w8 (.cells #[.int .i64 tp, .int .i64 tg, .int .i64 tr, .int .i64 tc, .int .i64 tl, .int .i64 tf] 38)); have F8 := F7.quiet q8'; have R8 := q8'.row R7 (fun _ _ e => e); have x8 := heap_alloc_new w8 (.cells #[.int .i64 tp, .int .i64 tg, .int .i64 tr, .int .i64 tc, .int .i64 tl, .int .i64 tf] 38); have y8 := (q8'.block _ (lt_of_block x7) id).trans x7; clear F7 R7 q8 q8' x7)
                        | (go_at_call 12; refine (gates_any F8.g hWz _).mono ?_; rintro e w9 ⟨v9, rfl, r9, q9⟩; rw [HX.out] at r9;  have F9 := F8.quiet q9; have R9 := q9.row R8 (fun _ _ e => e); have x9 := (q9.block _ (lt_of_block x8) id).trans x8; have y9 := (q9.block _ (lt_of_block y8) id).trans y8; obtain ⟨a9, cap9, rfl⟩ := owns_shape r9; have hc9 := owns_cap r9; clear F8 R8 x8 y8 q9)
                        | (go_at_call 12; refine (gates_any F9.g hWz _).mono ?_; rintro e w10 ⟨v10, rfl, r10, q10⟩; rw [hyy] at r10; have F10 := F9.quiet q10; have R10 := q10.row R9 (fun _ _ e => e); have x10 := (q10.block _ (lt_of_block x9) id).trans x9; have y10 := (q10.block _ (lt_of_block y9) id).trans y9; have s10 := q10.row r9 (fun _ _ e => e); obtain ⟨a10, cap10, rfl⟩ := owns_shape r10; clear F9 R9 x9 y9 q10 r9)
                        | (go_at_call 9; refine (rights_any F10.g hWz _).mono ?_; rintro e w11 ⟨rfl, q11⟩; have F11 := F10.quiet q11; have R11 := q11.row R10 (fun _ _ e => e); obtain ⟨j0, j1, j2, j3, j4, j5⟩ := six ((q11.block _ (lt_of_block x10) id).trans x10); obtain ⟨k0, k1, k2, k3, k4, k5⟩ := six ((q11.block _ (lt_of_block y10) id).trans y10); have s11 := q11.row s10 (fun _ _ e => e); have t11 := q11.row r10 (fun _ _ e => e); clear F10 R10 x10 y10 q11 s10 r10)
                        | (go_at_call 13; refine (sameInts_any _ y _ _ _ _ (by omega) (ints_lie s11) (ints_lie t11)).mono ?_; rintro e w12 ⟨rfl, q12⟩; have HF := hid (And.intro (F11.quiet q12) (q12.row R11 (fun _ _ e => e))); clear F11 R11 q12 s11 t11 j0 j1 j2 j3 j4 j5 k0 k1 k2 k3 k4 k5))
                      all_goals exact ⟨⟨m + 1, by omega, by go_num, HF.out.1, HF.out.2⟩, by simp [intOf]; omega⟩
                    · skip
                      generalize hyy : gatesOf nz (p : Int) = y at *
                      go_wp2_with (first
                        | (go_at_call 9; refine (rights_any F.g hWz _).mono ?_; rintro e w6 ⟨rfl, q6⟩; have F6 := F.quiet q6; have R6 := q6.row R (fun _ _ e => e);  obtain ⟨d0, d1, d2, d3, d4, d5⟩ := nd_cells' R6 m hmn; rw [hq] at d2; rw [hp] at d0; clear F R q6)
                        | (go_at_call 11; refine (target_any F6.g hWz _).mono ?_; rintro e w7 ⟨rfl, q7⟩; rw [HT1.out]; simp only [Nd.agg]; have q7' := q7.trans (Kp.alloc w7 (.cells #[.int .i64 tp, .int .i64 tg, .int .i64 tr, .int .i64 tc, .int .i64 tl, .int .i64 tf] 38)); have F7 := F6.quiet q7'; have R7 := q7'.row R6 (fun _ _ e => e); have x7 := heap_alloc_new w7 (.cells #[.int .i64 tp, .int .i64 tg, .int .i64 tr, .int .i64 tc, .int .i64 tl, .int .i64 tf] 38); clear F6 R6 q7 q7' d0 d1 d2 d3 d4 d5)
                        | (go_at_call 11; refine (target_any F7.g hWz _).mono ?_; rintro e w8 ⟨rfl, q8⟩; rw [HT2.out]; simp only [Nd.agg]; have q8' := q8.trans (Kp.alloc w8 (.cells #[.int .i64 tp, .int .i64 tg, .int .i64 tr, .int .i64 tc, .int .i64 tl, .int .i64 tf] 38)); have F8 := F7.quiet q8'; have R8 := q8'.row R7 (fun _ _ e => e); have x8 := heap_alloc_new w8 (.cells #[.int .i64 tp, .int .i64 tg, .int .i64 tr, .int .i64 tc, .int .i64 tl, .int .i64 tf] 38); have y8 := (q8'.block _ (lt_of_block x7) id).trans x7; clear F7 R7 q8 q8' x7)
                        | (go_at_call 12; refine (gates_any F8.g hWz _).mono ?_; rintro e w9 ⟨v9, rfl, r9, q9⟩; rw [HX.out] at r9;  have F9 := F8.quiet q9; have R9 := q9.row R8 (fun _ _ e => e); have x9 := (q9.block _ (lt_of_block x8) id).trans x8; have y9 := (q9.block _ (lt_of_block y8) id).trans y8; obtain ⟨a9, cap9, rfl⟩ := owns_shape r9; have hc9 := owns_cap r9; clear F8 R8 x8 y8 q9)
                        | (go_at_call 12; refine (gates_any F9.g hWz _).mono ?_; rintro e w10 ⟨v10, rfl, r10, q10⟩; rw [hyy] at r10; have F10 := F9.quiet q10; have R10 := q10.row R9 (fun _ _ e => e); have x10 := (q10.block _ (lt_of_block x9) id).trans x9; have y10 := (q10.block _ (lt_of_block y9) id).trans y9; have s10 := q10.row r9 (fun _ _ e => e); obtain ⟨a10, cap10, rfl⟩ := owns_shape r10; clear F9 R9 x9 y9 q10 r9)
                        | (go_at_call 9; refine (rights_any F10.g hWz _).mono ?_; rintro e w11 ⟨rfl, q11⟩; have F11 := F10.quiet q11; have R11 := q11.row R10 (fun _ _ e => e); obtain ⟨j0, j1, j2, j3, j4, j5⟩ := six ((q11.block _ (lt_of_block x10) id).trans x10); obtain ⟨k0, k1, k2, k3, k4, k5⟩ := six ((q11.block _ (lt_of_block y10) id).trans y10); have s11 := q11.row s10 (fun _ _ e => e); have t11 := q11.row r10 (fun _ _ e => e); clear F10 R10 x10 y10 q11 s10 r10)
                        | (go_at_call 13; refine (sameInts_any _ y _ _ _ _ (by omega) (ints_lie s11) (ints_lie t11)).mono ?_; rintro e w12 ⟨rfl, q12⟩; have HF := hid (And.intro (F11.quiet q12) (q12.row R11 (fun _ _ e => e))); clear F11 R11 q12 s11 t11 j0 j1 j2 j3 j4 j5 k0 k1 k2 k3 k4 k5))
                      all_goals exact ⟨⟨m + 1, by omega, by go_num, HF.out.1, HF.out.2⟩, by simp [intOf]; omega⟩
                  · have HX := hid (show gatesOf nz (m : Int) = nz[m].gate :: gatesOf nz (p : Int) by rw [gates_parent hWz hmn hp, if_neg hgate, List.singleton_append])
                    by_cases hold : m < ns.length
                    · have EA := andNot_small _ _ hr15 (rights_le ns os (m : Int)) (rights_old HW.out HGR.out m hold)
                      generalize hyy : gatesOf nz (p : Int) = y at *
                      go_wp2_with (first
                        | (go_at_call 9; refine (rights_any F.g hWz _).mono ?_; rintro e w6 ⟨rfl, q6⟩; have F6 := F.quiet q6; have R6 := q6.row R (fun _ _ e => e); have cm := F6.cell m (by rw [rs_len]; exact hold); rw [rs_at _ hold] at cm; obtain ⟨d0, d1, d2, d3, d4, d5⟩ := nd_cells' R6 m hmn; rw [hq] at d2; rw [hp] at d0; clear F R q6)
                        | (go_at_call 11; refine (target_any F6.g hWz _).mono ?_; rintro e w7 ⟨rfl, q7⟩; rw [HT1.out]; simp only [Nd.agg]; have q7' := q7.trans (Kp.alloc w7 (.cells #[.int .i64 tp, .int .i64 tg, .int .i64 tr, .int .i64 tc, .int .i64 tl, .int .i64 tf] 38)); have F7 := F6.quiet q7'; have R7 := q7'.row R6 (fun _ _ e => e); have x7 := heap_alloc_new w7 (.cells #[.int .i64 tp, .int .i64 tg, .int .i64 tr, .int .i64 tc, .int .i64 tl, .int .i64 tf] 38); clear F6 R6 q7 q7' d0 d1 d2 d3 d4 d5)
                        | (go_at_call 11; refine (target_any F7.g hWz _).mono ?_; rintro e w8 ⟨rfl, q8⟩; rw [HT2.out]; simp only [Nd.agg]; have q8' := q8.trans (Kp.alloc w8 (.cells #[.int .i64 tp, .int .i64 tg, .int .i64 tr, .int .i64 tc, .int .i64 tl, .int .i64 tf] 38)); have F8 := F7.quiet q8'; have R8 := q8'.row R7 (fun _ _ e => e); have x8 := heap_alloc_new w8 (.cells #[.int .i64 tp, .int .i64 tg, .int .i64 tr, .int .i64 tc, .int .i64 tl, .int .i64 tf] 38); have y8 := (q8'.block _ (lt_of_block x7) id).trans x7; clear F7 R7 q8 q8' x7)
                        | (go_at_call 12; refine (gates_any F8.g hWz _).mono ?_; rintro e w9 ⟨v9, rfl, r9, q9⟩; rw [HX.out] at r9; simp only [List.length_cons] at r9; have F9 := F8.quiet q9; have R9 := q9.row R8 (fun _ _ e => e); have x9 := (q9.block _ (lt_of_block x8) id).trans x8; have y9 := (q9.block _ (lt_of_block y8) id).trans y8; obtain ⟨g9, cap9, rfl⟩ := lies_shape r9 (by omega); have hc9 := owns_cap r9; clear F8 R8 x8 y8 q9)
                        | (go_at_call 12; refine (gates_any F9.g hWz _).mono ?_; rintro e w10 ⟨v10, rfl, r10, q10⟩; rw [hyy] at r10; have F10 := F9.quiet q10; have R10 := q10.row R9 (fun _ _ e => e); have x10 := (q10.block _ (lt_of_block x9) id).trans x9; have y10 := (q10.block _ (lt_of_block y9) id).trans y9; have s10 := q10.row r9 (fun _ _ e => e); obtain ⟨a10, cap10, rfl⟩ := owns_shape r10; clear F9 R9 x9 y9 q10 r9)
                        | (go_at_call 9; refine (rights_any F10.g hWz _).mono ?_; rintro e w11 ⟨rfl, q11⟩; have F11 := F10.quiet q11; have R11 := q11.row R10 (fun _ _ e => e); obtain ⟨j0, j1, j2, j3, j4, j5⟩ := six ((q11.block _ (lt_of_block x10) id).trans x10); obtain ⟨k0, k1, k2, k3, k4, k5⟩ := six ((q11.block _ (lt_of_block y10) id).trans y10); have s11 := q11.row s10 (fun _ _ e => e); have t11 := q11.row r10 (fun _ _ e => e); clear F10 R10 x10 y10 q11 s10 r10)
                        | (go_at_call 13; refine (sameInts_any _ y _ _ _ _ (by omega) (by first | exact ints_tail s11 | exact ints_void (by omega)) (ints_lie t11)).mono ?_; rintro e w12 ⟨rfl, q12⟩; have HF := hid (And.intro (F11.quiet q12) (q12.row R11 (fun _ _ e => e))); clear F11 R11 q12 s11 t11 j0 j1 j2 j3 j4 j5 k0 k1 k2 k3 k4 k5))
                      all_goals exact ⟨⟨m + 1, by omega, by go_num, HF.out.1, HF.out.2⟩, by simp [intOf]; omega⟩
                    · skip
                      generalize hyy : gatesOf nz (p : Int) = y at *
                      go_wp2_with (first
                        | (go_at_call 9; refine (rights_any F.g hWz _).mono ?_; rintro e w6 ⟨rfl, q6⟩; have F6 := F.quiet q6; have R6 := q6.row R (fun _ _ e => e);  obtain ⟨d0, d1, d2, d3, d4, d5⟩ := nd_cells' R6 m hmn; rw [hq] at d2; rw [hp] at d0; clear F R q6)
                        | (go_at_call 11; refine (target_any F6.g hWz _).mono ?_; rintro e w7 ⟨rfl, q7⟩; rw [HT1.out]; simp only [Nd.agg]; have q7' := q7.trans (Kp.alloc w7 (.cells #[.int .i64 tp, .int .i64 tg, .int .i64 tr, .int .i64 tc, .int .i64 tl, .int .i64 tf] 38)); have F7 := F6.quiet q7'; have R7 := q7'.row R6 (fun _ _ e => e); have x7 := heap_alloc_new w7 (.cells #[.int .i64 tp, .int .i64 tg, .int .i64 tr, .int .i64 tc, .int .i64 tl, .int .i64 tf] 38); clear F6 R6 q7 q7' d0 d1 d2 d3 d4 d5)
                        | (go_at_call 11; refine (target_any F7.g hWz _).mono ?_; rintro e w8 ⟨rfl, q8⟩; rw [HT2.out]; simp only [Nd.agg]; have q8' := q8.trans (Kp.alloc w8 (.cells #[.int .i64 tp, .int .i64 tg, .int .i64 tr, .int .i64 tc, .int .i64 tl, .int .i64 tf] 38)); have F8 := F7.quiet q8'; have R8 := q8'.row R7 (fun _ _ e => e); have x8 := heap_alloc_new w8 (.cells #[.int .i64 tp, .int .i64 tg, .int .i64 tr, .int .i64 tc, .int .i64 tl, .int .i64 tf] 38); have y8 := (q8'.block _ (lt_of_block x7) id).trans x7; clear F7 R7 q8 q8' x7)
                        | (go_at_call 12; refine (gates_any F8.g hWz _).mono ?_; rintro e w9 ⟨v9, rfl, r9, q9⟩; rw [HX.out] at r9; simp only [List.length_cons] at r9; have F9 := F8.quiet q9; have R9 := q9.row R8 (fun _ _ e => e); have x9 := (q9.block _ (lt_of_block x8) id).trans x8; have y9 := (q9.block _ (lt_of_block y8) id).trans y8; obtain ⟨g9, cap9, rfl⟩ := lies_shape r9 (by omega); have hc9 := owns_cap r9; clear F8 R8 x8 y8 q9)
                        | (go_at_call 12; refine (gates_any F9.g hWz _).mono ?_; rintro e w10 ⟨v10, rfl, r10, q10⟩; rw [hyy] at r10; have F10 := F9.quiet q10; have R10 := q10.row R9 (fun _ _ e => e); have x10 := (q10.block _ (lt_of_block x9) id).trans x9; have y10 := (q10.block _ (lt_of_block y9) id).trans y9; have s10 := q10.row r9 (fun _ _ e => e); obtain ⟨a10, cap10, rfl⟩ := owns_shape r10; clear F9 R9 x9 y9 q10 r9)
                        | (go_at_call 9; refine (rights_any F10.g hWz _).mono ?_; rintro e w11 ⟨rfl, q11⟩; have F11 := F10.quiet q11; have R11 := q11.row R10 (fun _ _ e => e); obtain ⟨j0, j1, j2, j3, j4, j5⟩ := six ((q11.block _ (lt_of_block x10) id).trans x10); obtain ⟨k0, k1, k2, k3, k4, k5⟩ := six ((q11.block _ (lt_of_block y10) id).trans y10); have s11 := q11.row s10 (fun _ _ e => e); have t11 := q11.row r10 (fun _ _ e => e); clear F10 R10 x10 y10 q11 s10 r10)
                        | (go_at_call 13; refine (sameInts_any _ y _ _ _ _ (by omega) (by first | exact ints_tail s11 | exact ints_void (by omega)) (ints_lie t11)).mono ?_; rintro e w12 ⟨rfl, q12⟩; have HF := hid (And.intro (F11.quiet q12) (q12.row R11 (fun _ _ e => e))); clear F11 R11 q12 s11 t11 j0 j1 j2 j3 j4 j5 k0 k1 k2 k3 k4 k5))
                      all_goals exact ⟨⟨m + 1, by omega, by go_num, HF.out.1, HF.out.2⟩, by simp [intOf]; omega⟩
              · go_wp2
                exact ⟨⟨k + 1, nz, oz, vn4, vo4, by omega, by go_num, F.below, F.g, hWz⟩, by simp [intOf]; omega⟩
      · go_wp2
        go_ret
        exact ⟨rfl, hbel⟩
  · go_enter Try.func3, Try.ntmps3
    go_wp2_with (go_at_call 6; refine (begun_any _).mono ?_; rintro e w2 ⟨rfl, b2⟩)
    go_ret
    exact ⟨rfl, b2⟩
end Go.Proofs.Ythplldgdgmhdlab
