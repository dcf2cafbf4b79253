/- The walk of the law GraphDoes. -/
import Derived.Test.YthplldgdgmhdlaaLaw
import Derived.Test.YthplldgdgmhdlaaRefTarget
import Derived.Test.YthplldgdgmhdlaaRefRights
import Derived.Deep.CutRange
import Derived.Deep.RegionHeld3
namespace Go.Proofs.Ythplldgdgmhdlaa
open Go.ChangeShapes Go.WideShapes Go.ChangeAt Go.RowKit
/-- The graph beside the document's net, in agreement. -/
structure Pair (B : Nat) (w0 w : World) (gb : Nat) (vn vo : Value) (rb : Nat) (vn2 vo2 : Value) (ns : List Nd) (os : List Bool) : Prop where
  g : GS 84 B w gb vn vo ns os
  r : GS 58 B w rb vn2 vo2 ns (os.map (! ·))
  bes : Beside gb vn vo rb vn2 vo2
  below : Below B w0 w
section
variable {B : Nat} {w0 w w' : World} {gb rb : Nat} {vn vo vn2 vo2 vn' vo' vn2' vo2' : Value} {ns : List Nd} {os : List Bool}
theorem Pair.quiet (h : Pair B w0 w gb vn vo rb vn2 vo2 ns os) (hq : Quiet w w') : Pair B w0 w' gb vn vo rb vn2 vo2 ns os :=
  ⟨h.g.quiet hq, h.r.quiet hq, h.bes, hq.qbelow h.g.size h.below⟩
theorem Pair.start (h : GS 84 B w gb (.slice none 0 0) (.slice none 0 0) [] []) (hb : Below B w0 w) : Pair B w0 (w.alloc (.cells #[.slice none 0 0, .slice none 0 0] 58)) gb (.slice none 0 0) (.slice none 0 0) w.heap.size (.slice none 0 0) (.slice none 0 0) [] [] := by
  refine ⟨h.quiet (Kp.alloc _ _), GS.new w 58 h.size, fun k e1 e2 => ?_, hb.alloc h.size _⟩
  have := own_none e1
  have := own_none e2
  have := h.lt
  omega
theorem Pair.two (h : Pair B w0 w gb vn vo rb vn2 vo2 ns os) {x : Stp} (g' : GS 84 B w' gb vn' vo' (stepOf ns os x).ns (stepOf ns os x).os) (r' : GS 58 B w' rb vn2' vo2' (nstepOf ns (os.map (! ·)) x).ns (nstepOf ns (os.map (! ·)) x).os) (T : Two gb vn vo rb vn2 vo2 w vn' vo' vn2' vo2' w') :
    Pair B w0 w' gb vn' vo' rb vn2' vo2' (stepOf ns os x).ns (stepOf ns os x).os := by
  refine ⟨g', ?_, T.beside, h.below.trans (T.kp.below h.g.size fun k hk => ?_)⟩
  · rw [step_shut, (step_same ns os (os.map (! ·)) x (List.length_map _)).2.2] at r'; exact r'
  · rcases hk with e | e
    · exact (h.g.own k e).1
    · exact (h.r.own k e).1
theorem Two.block (T : Two gb vn vo rb vn2 vo2 w vn' vo' vn2' vo2' w') {x : Nat} {o : Obj} (hx : w.heap[x]? = some o) (h1 : ¬ Own gb vn vo x) (h2 : ¬ Own rb vn2 vo2 x) : w'.heap[x]? = some o :=
  (T.kp.block x (lt_of_block hx) fun e => e.elim h1 h2).trans hx
theorem Pair.out (h : Pair B w0 w gb vn vo rb vn2 vo2 ns os) (x : Nat) (hx : w.heap.size ≤ x) : ¬ Own gb vn vo x ∧ ¬ Own rb vn2 vo2 x :=
  ⟨fun e => by have := (h.g.own x e).2; omega, fun e => by have := (h.r.own x e).2; omega⟩
end
theorem and_six {a0 a1 a2 a3 a4 a5 : Prop} {b : Prop} (h : a0 ∧ a1 ∧ a2 ∧ a3 ∧ a4 ∧ a5) (hb : b) : a0 ∧ a1 ∧ a2 ∧ a3 ∧ a4 ∧ a5 ∧ b := ⟨h.1, h.2.1, h.2.2.1, h.2.2.2.1, h.2.2.2.2.1, h.2.2.2.2.2, hb⟩
theorem SAll {W w' : World} {xb ta tb : Nat} {x0 xa x2 xc x4 tp tg tr tc tl tf : Int} (hq : Quiet W w') (hX : W.heap[xb]? = some (.cells #[.int .i64 x0, .int .i64 xa, .int .i64 x2, .int .i64 xc, .int .i64 x4] 60 (0, 0))) (hA : W.heap[ta]? = some (.cells #[.int .i64 tp, .int .i64 tg, .int .i64 tr, .int .i64 tc, .int .i64 tl, .int .i64 tf] 65)) (hB : W.heap[tb]? = some (.cells #[.int .i64 tp, .int .i64 tg, .int .i64 tr, .int .i64 tc, .int .i64 tl, .int .i64 tf] 65)) :
    w'.cell? ⟨xb, 1, none⟩ = some (.int .i64 xa) ∧ w'.cell? ⟨xb, 3, none⟩ = some (.int .i64 xc) ∧ w'.cell? ⟨ta, 0, none⟩ = some (.int .i64 tp) ∧ w'.cell? ⟨ta, 1, none⟩ = some (.int .i64 tg) ∧ w'.cell? ⟨ta, 2, none⟩ = some (.int .i64 tr) ∧ w'.cell? ⟨ta, 3, none⟩ = some (.int .i64 tc) ∧ w'.cell? ⟨ta, 4, none⟩ = some (.int .i64 tl) ∧ w'.cell? ⟨ta, 5, none⟩ = some (.int .i64 tf) ∧ w'.cell? ⟨tb, 0, none⟩ = some (.int .i64 tp) ∧ w'.cell? ⟨tb, 1, none⟩ = some (.int .i64 tg) ∧ w'.cell? ⟨tb, 2, none⟩ = some (.int .i64 tr) ∧ w'.cell? ⟨tb, 3, none⟩ = some (.int .i64 tc) ∧ w'.cell? ⟨tb, 4, none⟩ = some (.int .i64 tl) ∧ w'.cell? ⟨tb, 5, none⟩ = some (.int .i64 tf) := by
  obtain ⟨_, e1, _, e3, _⟩ := x_at ((hq.block _ (lt_of_block hX) id).trans hX)
  exact ⟨e1, e3, and_six (six ((hq.block _ (lt_of_block hA) id).trans hA)) (six ((hq.block _ (lt_of_block hB) id).trans hB))⟩
set_option maxRecDepth 8000 in
set_option maxHeartbeats 20000000 in
theorem doesLaw (w : World) (ao : Option Addr) (cap : Nat) (ss : List Stp) (hS : Lies w ao ss) :
    Calls Try.prog 8 #[.slice ao ss.length cap] w fun e w' => e = .returned (.bool true) ∧ Below w.heap.size w w' := by
  have HS := hid hS
  clear hS
  by_cases hl : ss.length ≤ 200
  · go_enter Try.func8, Try.ntmps8
    go_wp2_with (first
      | (go_at_call 27; refine (begun_any _).mono ?_; rintro e w1 ⟨rfl, b1⟩)
      | (go_at_call 28; refine (new_any w.heap.size _ b1.size).mono ?_; rintro e w2 ⟨rfl, h2, k2⟩))
    have P0 := Pair.start h2 (k2.qbelow b1.size b1)
    generalize w1.heap.size = gb at *
    generalize w2.heap.size = rb at *
    go_loopw [5] (fun i wr => ∃ (k : Nat) (ns : List Nd) (os : List Bool) (vn vo vn2 vo2 : Value), k ≤ ss.length ∧ i = .int .i64 k ∧ Pair w.heap.size w wr gb vn vo rb vn2 vo2 ns os ∧ Wf ns os.length) (fun i _ => ss.length - (intOf i).toNat)
    case atStart => exact ⟨0, [], [], _, _, _, _, Nat.zero_le _, rfl, P0, Wf.nil _⟩
    case round =>
      clear P0 h2 k2 b1
      obtain ⟨k, ns, os, vn, vo, vn2, vo2, hk, rfl, P, hW⟩ := hrel
      by_cases hlt : k < ss.length
      · obtain ⟨a, off, rfl, ha, c0', c1', c2', c3', c4'⟩ := HS.out k hlt
        rw [← P.below.cell (by exact ha)] at c0' c1' c2' c3' c4'
        have hgr := hid ((step_grows ns os ss[k]).wf hW)
        generalize hx : ss[k] = x at *
        clear hx
        obtain ⟨xd, xa, xb, xc, xe⟩ := x
        dsimp only at c0' c1' c2' c3' c4'
        have q1 : Quiet wr (wr.alloc (.cells #[.int .i64 xd, .int .i64 xa, .int .i64 xb, .int .i64 xc, .int .i64 xe] 60)) := Kp.alloc _ _
        have P1 := P.quiet q1
        have x1 := heap_alloc_new wr (.cells #[.int .i64 xd, .int .i64 xa, .int .i64 xb, .int .i64 xc, .int .i64 xe] 60)
        obtain ⟨o1, o2⟩ := P.out wr.heap.size (Nat.le_refl _)
        have HP1 := hid P1
        have HO := hid (And.intro x1 (And.intro o1 o2))
        clear P P1 q1 o1 o2 hW
        go_wp2
        generalize hst : stepOf ns os ⟨xd, xa, xb, xc, xe⟩ = R at *
        go_cut [44] from 20 to 111 (fun c wx => c = .bool false ∧ ∃ vn' vo' vn2' vo2', Pair w.heap.size w wx gb vn' vo' rb vn2' vo2' R.ns R.os ∧ wx.heap[wr.heap.size]? = some (.cells #[.int .i64 xd, .int .i64 xa, .int .i64 xb, .int .i64 xc, .int .i64 xe] 60 (0, 0)))
        case first =>
          have hln := HP1.out.g.ln
          go_region_with (first
            | (go_at_call 29; refine (gstep_any (HP1.out.quiet (Kp.drew _)).g (HP1.out.quiet (Kp.drew _)).r HP1.out.bes ⟨xd, xa, xb, xc, xe⟩).mono ?_; rintro e w4 ⟨q4, vn4, vo4, vn5, vo5, rfl, hq4, g4, r4, T4⟩; obtain rfl := hq4 rfl (List.length_map _); have P4 := (HP1.out.quiet (Kp.drew _)).two g4 r4 T4; rw [hst] at P4; have x4 := T4.block HO.out.1 HO.out.2.1 HO.out.2.2; have c4 := P4.r.cell0; obtain ⟨a4, cap4, rfl⟩ := owns_shape P4.r.rn; clear g4 r4 T4 hq4)
            | (go_at_call 31; refine (nodes_any P4.g).mono ?_; rintro e w5 ⟨v5, rfl, r5, q5⟩; have P5 := P4.quiet q5; have c5 := P5.r.cell0; have x5 := (q5.block _ (lt_of_block x4) id).trans x4; obtain ⟨a5, cap5, rfl⟩ := owns_shape r5; clear q5)
            | (go_at_call 30; refine (sameNodes_any _ _ _ _ _ R.ns R.ns R.ns _ _ _ _ (by have := P5.g.ln; omega) r5 P5.r.rn (List.prefix_refl _) (List.prefix_refl _)).mono ?_; rintro e w6 ⟨rfl, q6⟩; have P6 := P5.quiet q6; have x6 := (q6.block _ (lt_of_block x5) id).trans x5; clear q6))
          all_goals (have HF := hid (And.intro P6 x6); clear P6 x6 P5 x5 c5 r5 P4 x4 c4; go_wp2_with fail; go_meet; exact ⟨rfl, _, _, _, _, HF.out.1, HF.out.2⟩)
        case rest =>
          clear HP1 HO x1 c0' c1' c2' c3' c4' hst
          obtain ⟨rfl, vn', vo', vn2', vo2', P, X⟩ := hcut
          obtain ⟨y0, y1, y2, y3, y4⟩ := x_at X
          have hWz := hgr.out
          have hln := P.g.ln
          have hgl : (gatesOf R.ns xa).length ≤ 100000 := by
            have := gates_len (wayOf R.ns xa); have := way_len hWz xa; simp only [gatesOf]; omega
          have hWn : Wf R.ns (R.os.map (! ·)).length := by rw [List.length_map]; exact hWz
          generalize R.ns = nz at *
          generalize R.os = oz at *
          clear hgr
          generalize hT : targetOf nz xa = tx at *
          have HT := hid hT
          clear hT
          obtain ⟨tp, tg, tr, tc, tl, tf⟩ := tx
          generalize hth : thereB nz.length xa = th at *
          have HTH := hid hth
          clear hth
          go_wp2_with (first
            | (go_at_call 32; refine (target_any P.g hWz _).mono ?_; rintro e w7 ⟨rfl, q7⟩; rw [HT.out, HTH.out]; simp only [Nd.agg]; have q7' := q7.trans (Kp.alloc w7 (.cells #[.int .i64 tp, .int .i64 tg, .int .i64 tr, .int .i64 tc, .int .i64 tl, .int .i64 tf] 65)); have P7 := P.quiet q7'; have X7 := (q7'.block _ (lt_of_block X) id).trans X; have t7 := heap_alloc_new w7 (.cells #[.int .i64 tp, .int .i64 tg, .int .i64 tr, .int .i64 tc, .int .i64 tl, .int .i64 tf] 65); obtain ⟨z0, z1, z2, z3, z4⟩ := x_at X7; clear q7 q7' P X y0 y1 y2 y3 y4)
            | (go_at_call 33; refine (ntarget_any P7.r hWn _).mono ?_; rintro e w8 ⟨rfl, q8⟩; rw [HT.out, HTH.out]; simp only [Nd.agg]; have q8' := q8.trans (Kp.alloc w8 (.cells #[.int .i64 tp, .int .i64 tg, .int .i64 tr, .int .i64 tc, .int .i64 tl, .int .i64 tf] 65)); have P8 := P7.quiet q8'; have X8 := (q8'.block _ (lt_of_block X7) id).trans X7; have t8 := (q8'.block _ (lt_of_block t7) id).trans t7; have u8 := heap_alloc_new w8 (.cells #[.int .i64 tp, .int .i64 tg, .int .i64 tr, .int .i64 tc, .int .i64 tl, .int .i64 tf] 65); clear q8 q8' P7 X7 t7 z0 z1 z2 z3 z4))
          have sAll := hid (fun (w' : World) (hq : Quiet (w8.alloc (.cells #[.int .i64 tp, .int .i64 tg, .int .i64 tr, .int .i64 tc, .int .i64 tl, .int .i64 tf] 65)) w') => SAll hq X8 t8 u8)
          clear X8 t8 u8
          generalize w7.heap.size = ta at *
          generalize w8.heap.size = tb at *
          generalize w8.alloc (.cells #[.int .i64 tp, .int .i64 tg, .int .i64 tr, .int .i64 tc, .int .i64 tl, .int .i64 tf] 65) = W at *
          have eqn := eqNode
          have HP := hid P8
          clear P8
          go_region_held3 (fun w' => w'.cell? ⟨wr.heap.size, 1, none⟩ = some (.int .i64 xa) ∧ w'.cell? ⟨wr.heap.size, 3, none⟩ = some (.int .i64 xc) ∧ w'.cell? ⟨ta, 0, none⟩ = some (.int .i64 tp) ∧ w'.cell? ⟨ta, 1, none⟩ = some (.int .i64 tg) ∧ w'.cell? ⟨ta, 2, none⟩ = some (.int .i64 tr) ∧ w'.cell? ⟨ta, 3, none⟩ = some (.int .i64 tc) ∧ w'.cell? ⟨ta, 4, none⟩ = some (.int .i64 tl) ∧ w'.cell? ⟨ta, 5, none⟩ = some (.int .i64 tf) ∧ w'.cell? ⟨tb, 0, none⟩ = some (.int .i64 tp) ∧ w'.cell? ⟨tb, 1, none⟩ = some (.int .i64 tg) ∧ w'.cell? ⟨tb, 2, none⟩ = some (.int .i64 tr) ∧ w'.cell? ⟨tb, 3, none⟩ = some (.int .i64 tc) ∧ w'.cell? ⟨tb, 4, none⟩ = some (.int .i64 tl) ∧ w'.cell? ⟨tb, 5, none⟩ = some (.int .i64 tf)) ((refine sAll.out _ ?_; first | assumption | exact Kp.drew _))
            (first
              | (go_at_call 34; refine (rights_any (HP.out.quiet (Kp.drew _)).g hWz _).mono ?_; rintro e w9 ⟨rfl, q9⟩; replace q9 : Quiet W w9 := (Kp.drew W).trans q9)
              | (go_at_call 35; refine (nrights_any (HP.out.quiet q9).r hWz _).mono ?_; rintro e w10 ⟨rfl, q10⟩; replace q10 : Quiet W w10 := q9.trans q10)
              | (go_at_call 37; refine (gates_any (HP.out.quiet q10).g hWz _).mono ?_; rintro e w11 ⟨v11, rfl, r11, q11⟩; replace q11 : Quiet W w11 := q10.trans q11; obtain ⟨a11, cap11, rfl⟩ := owns_shape r11; have i11 := ints_lie r11; clear r11)
              | (go_at_call 38; refine (ngates_any (HP.out.quiet q11).r hWn _).mono ?_; rintro e w12 ⟨v12, rfl, r12, q12⟩; have i12 := i11.quiet q12; replace q12 : Quiet W w12 := q11.trans q12; obtain ⟨a12, cap12, rfl⟩ := owns_shape r12; have j12 := ints_lie r12; clear r12 i11)
              | (go_at_call 36; refine (sameInts_any _ (gatesOf nz xa) _ _ _ _ hgl i12 j12).mono ?_; rintro e w13 ⟨rfl, q13⟩; replace q13 : Quiet W w13 := q12.trans q13; clear i12 j12)
              | (go_at_call 39; refine (has_any (HP.out.quiet q13).g _).mono ?_; rintro e w14 ⟨rfl, rfl⟩)
              | (go_at_call 40; refine (nhas_any (HP.out.quiet q13).r _).mono ?_; rintro e w15 ⟨rfl, rfl⟩; rw [List.length_map])
              | (go_at_call 41; refine (open_any (HP.out.quiet q13).g _).mono ?_; rintro e w16 ⟨rfl, rfl⟩)
              | (go_at_call 42; refine (nopen_any (HP.out.quiet q13).r _).mono ?_; rintro e w17 ⟨rfl, rfl⟩))
          have HF := hid (HP.out.quiet q13)
          clear q9 q10 q11 q12 q13 eqn sAll HP
          go_wp2
          exact ⟨⟨k + 1, _, _, _, _, _, _, by omega, by go_num, HF.out, hWz⟩, by simp [intOf]; omega⟩
      · have HP := hid P
        clear P HS
        go_wp2
        go_loopw [11] (fun i wq => ∃ m : Nat, m ≤ ns.length ∧ i = .int .i64 m ∧ Pair w.heap.size w wq gb vn vo rb vn2 vo2 ns os) (fun i _ => ns.length - (intOf i).toNat)
        case atStart => exact ⟨0, Nat.zero_le _, rfl, HP.out⟩
        case round =>
          clear HP
          obtain ⟨m, hm, rfl, P⟩ := hrel
          have c0 := P.r.cell0
          have hln := P.g.ln
          obtain ⟨a2, cap2, hv⟩ := owns_shape P.r.rn
          subst hv
          by_cases hmn : m < ns.length
          · go_wp2_with (first
              | (go_at_call 34; refine (rights_any P.g hW _).mono ?_; rintro e w5 ⟨rfl, q5⟩; have P5 := P.quiet q5; clear q5 P)
              | (go_at_call 35; refine (nrights_any P5.r hW _).mono ?_; rintro e w6 ⟨rfl, q6⟩; have HF := hid (P5.quiet q6); clear q6 P5))
            exact ⟨⟨m + 1, by omega, by go_num, HF.out⟩, by simp [intOf]; omega⟩
          · go_wp2
            go_ret
            exact ⟨rfl, P.below⟩
  · go_enter Try.func8, Try.ntmps8
    go_wp2_with (go_at_call 27; refine (begun_any _).mono ?_; rintro e w2 ⟨rfl, b2⟩)
    go_ret
    exact ⟨rfl, b2⟩
end Go.Proofs.Ythplldgdgmhdlaa
