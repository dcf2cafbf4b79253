/- The walk of the law ValsDoes. -/
import Derived.Test.YtekkecnhnaejlabDoorBegun4
import Derived.Test.YtekkecnhnaejlabDoorRefText
import Derived.Test.YtekkecnhnaejlabDoorRefSame
namespace Go.Proofs.YtekkecnhnaejlabDoor
open Go.ChangeShapes Go.WideShapes Go.ChangeAt Go.RowKit
theorem two_boxes' {w w' : World} {a b c d e f : Value} (q : Quiet ((w.alloc (.cells #[a, b, c] 24)).alloc (.cells #[d, e, f] 24)) w') : (w'.cell? ⟨w.heap.size, 0, none⟩ = some a ∧ w'.cell? ⟨w.heap.size, 1, none⟩ = some b ∧ w'.cell? ⟨w.heap.size, 2, none⟩ = some c) ∧ (w'.cell? ⟨w.heap.size + 1, 0, none⟩ = some d ∧ w'.cell? ⟨w.heap.size + 1, 1, none⟩ = some e ∧ w'.cell? ⟨w.heap.size + 1, 2, none⟩ = some f) := by
  have h0 : ((w.alloc (.cells #[a, b, c] 24)).alloc (.cells #[d, e, f] 24)).heap[w.heap.size]? = some (.cells #[a, b, c] 24 (0, 0)) := (Below.heap_alloc _ _ _ (by simp)).trans (heap_alloc_new w _)
  have h1 : ((w.alloc (.cells #[a, b, c] 24)).alloc (.cells #[d, e, f] 24)).heap[w.heap.size + 1]? = some (.cells #[d, e, f] 24 (0, 0)) := heap_two w _ _
  exact ⟨box_cells ((q.block _ (lt_of_block h0) fun e => e).trans h0), box_cells ((q.block _ (lt_of_block h1) fun e => e).trans h1)⟩
theorem box_new {w5 w' : World} {a b c : Value} (q : Quiet (w5.alloc (.cells #[a, b, c] 24)) w') : w'.cell? ⟨w5.heap.size, 0, none⟩ = some a ∧ w'.cell? ⟨w5.heap.size, 1, none⟩ = some b ∧ w'.cell? ⟨w5.heap.size, 2, none⟩ = some c :=
  box_cells ((q.block _ (lt_of_block (heap_alloc_new w5 _)) fun e => e).trans (heap_alloc_new w5 _))
set_option maxHeartbeats 8000000 in
theorem doesLaw (w : World) (v u : V) (va ua : Option Addr) (vc uc : Nat) (ht : Tab w) (hV : Is w v va) (hU : Is w u ua) :
    Calls Tryd.prog 3 #[.agg #[.int .i64 v.kind, .int .i64 v.n, .slice va v.l.length vc], .agg #[.int .i64 u.kind, .int .i64 u.n, .slice ua u.l.length uc]] w fun e w' => e = .returned (.bool true) ∧ Below w.heap.size w w' := by
  have sB := hid (fun (w' : World) (q : Quiet ((w.alloc (.cells #[.int .i64 v.kind, .int .i64 v.n, .slice va v.l.length vc] 24)).alloc (.cells #[.int .i64 u.kind, .int .i64 u.n, .slice ua u.l.length uc] 24)) w') => two_boxes' q)
  have qW : Quiet w ((w.alloc (.cells #[.int .i64 v.kind, .int .i64 v.n, .slice va v.l.length vc] 24)).alloc (.cells #[.int .i64 u.kind, .int .i64 u.n, .slice ua u.l.length uc] 24)) := (Kp.alloc _ _).trans (Kp.alloc _ _)
  have HB := hid (begun_any _ (ht.quiet qW))
  have HV := hid (hV.quiet qW)
  have HU := hid (hU.quiet qW)
  have HT := hid (ht.quiet qW)
  clear hV hU ht
  by_cases hbv : 500 < v.size
  · have hd := hid (show decide (500 < v.size) = true by simpa using hbv)
    clear hbv
    go_enter Tryd.func3, Tryd.ntmps3
    go_wp2_with (first
      | (go_at_call 7; refine (great_any v va vc _ (HV.out.quiet q2)).mono ?_; rintro e w3 ⟨rfl, q3⟩; rw [hd.out])
      | (go_at_call 6; refine HB.out.mono ?_; rintro e w2 ⟨rfl, q2⟩; obtain ⟨⟨c0, c1, c2⟩, ⟨d0, d1, d2⟩⟩ := sB.out _ q2))
    go_ret
    exact ⟨rfl, (qW.trans (q2.trans q3)).low⟩
  · have hdv := hid (show decide (500 < v.size) = false by simpa using hbv)
    have hSv : v.size ≤ 500 := by omega
    by_cases hbu : 500 < u.size
    · have hd := hid (show decide (500 < u.size) = true by simpa using hbu)
      clear hbu hbv
      go_enter Tryd.func3, Tryd.ntmps3
      go_wp2_with (first
        | (go_at_call 7; refine (great_any u ua uc _ (HU.out.quiet q3)).mono ?_; rintro e w4 ⟨rfl, q4⟩; rw [hd.out])
        | (go_at_call 7; refine (great_any v va vc _ (HV.out.quiet q2)).mono ?_; rintro e w3 ⟨rfl, q3⟩; rw [hdv.out]; replace q3 := q2.trans q3; obtain ⟨⟨e0, e1, e2⟩, ⟨f0, f1, f2⟩⟩ := sB.out _ q3)
        | (go_at_call 6; refine HB.out.mono ?_; rintro e w2 ⟨rfl, q2⟩; obtain ⟨⟨c0, c1, c2⟩, ⟨d0, d1, d2⟩⟩ := sB.out _ q2))
      go_ret
      exact ⟨rfl, (qW.trans (q3.trans q4)).low⟩
    · have hdu := hid (show decide (500 < u.size) = false by simpa using hbu)
      have hSu : u.size ≤ 500 := by omega
      clear hbu hbv
      go_enter Tryd.func3, Tryd.ntmps3
      go_wp2_with (first
        | (go_at_call 8; refine (ownR5 v va vc _ (HV.out.quiet q4) hSv).mono ?_; rintro e w5 ⟨oa, oc, rfl, hH, q5⟩; replace q5 := q4.trans q5)
        | (go_at_call 7; refine (great_any u ua uc _ (HU.out.quiet q3)).mono ?_; rintro e w4 ⟨rfl, q4⟩; rw [hdu.out]; replace q4 := q3.trans q4; obtain ⟨⟨g0, g1, g2⟩, ⟨h0, h1, h2⟩⟩ := sB.out _ q4)
        | (go_at_call 7; refine (great_any v va vc _ (HV.out.quiet q2)).mono ?_; rintro e w3 ⟨rfl, q3⟩; rw [hdv.out]; replace q3 := q2.trans q3; obtain ⟨⟨e0, e1, e2⟩, ⟨f0, f1, f2⟩⟩ := sB.out _ q3)
        | (go_at_call 6; refine HB.out.mono ?_; rintro e w2 ⟨rfl, q2⟩; obtain ⟨⟨c0, c1, c2⟩, ⟨d0, d1, d2⟩⟩ := sB.out _ q2))
      have q6 : Quiet _ (w5.alloc (.cells #[.int .i64 v.kind, .int .i64 v.n, .slice oa v.l.length oc] 24)) := q5.trans (Kp.alloc _ _)
      have sAll := hid (fun (w' : World) (q : Quiet (w5.alloc (.cells #[.int .i64 v.kind, .int .i64 v.n, .slice oa v.l.length oc] 24)) w') => And.intro (sB.out _ (q6.trans q)) (box_new q))
      have HV6 := hid (HV.out.quiet q6)
      have HU6 := hid (HU.out.quiet q6)
      have HT6 := hid (HT.out.quiet q6)
      have HO6 := hid (hH.is.quiet (Kp.alloc (F := fun _ => False) w5 (.cells #[.int .i64 v.kind, .int .i64 v.n, .slice oa v.l.length oc] 24)))
      have HQ6 := hid (qW.trans q6)
      clear c0 c1 c2 d0 d1 d2 e0 e1 e2 f0 f1 f2 g0 g1 g2 h0 h1 h2 q2 q3 q4 q5 q6 hH HV HU HT HB sB qW
      generalize hob : w5.heap.size = ob at *
      generalize hX : w5.alloc (.cells #[.int .i64 v.kind, .int .i64 v.n, .slice oa v.l.length oc] 24) = X at *
      clear hX hob
      go_region_held3 (fun w' => ((w'.cell? ⟨w.heap.size, 0, none⟩ = some (.int .i64 v.kind) ∧ w'.cell? ⟨w.heap.size, 1, none⟩ = some (.int .i64 v.n) ∧ w'.cell? ⟨w.heap.size, 2, none⟩ = some (.slice va v.l.length vc)) ∧ (w'.cell? ⟨w.heap.size + 1, 0, none⟩ = some (.int .i64 u.kind) ∧ w'.cell? ⟨w.heap.size + 1, 1, none⟩ = some (.int .i64 u.n) ∧ w'.cell? ⟨w.heap.size + 1, 2, none⟩ = some (.slice ua u.l.length uc))) ∧ (w'.cell? ⟨ob, 0, none⟩ = some (.int .i64 v.kind) ∧ w'.cell? ⟨ob, 1, none⟩ = some (.int .i64 v.n) ∧ w'.cell? ⟨ob, 2, none⟩ = some (.slice oa v.l.length oc))) ((refine sAll.out _ ?_; first | assumption | exact Kp.drew _))
        (first
          | (go_at_call 12; refine (sameVal_any v v oa va oc vc _ (HO6.out.quiet q12) (HV6.out.quiet q12) hSv).mono ?_; rintro e w13 ⟨rfl, q13⟩; rw [same_refl]; replace q13 : Quiet X w13 := q12.trans q13)
          | (go_at_call 12; refine (sameVal_any v v pa va pc vc _ i11 (HV6.out.quiet q11) hSv).mono ?_; rintro e w12 ⟨rfl, q12⟩; rw [same_refl]; replace q12 : Quiet X w12 := q11.trans q12)
          | (go_at_call 13; refine (ownV_any v oa oc _ (HO6.out.quiet q10) hSv).mono ?_; rintro e w11 ⟨pa, pc, rfl, i11, q11⟩; replace q11 : Quiet X w11 := q10.trans q11)
          | (go_at_call 12; refine (sameVal_any v u va ua vc uc _ (HV6.out.quiet q9) (HU6.out.quiet q9) hSv).mono ?_; rintro e w10 ⟨rfl, q10⟩; replace q10 : Quiet X w10 := q9.trans q10)
          | (go_at_call 11; refine (sameV_any v u oa ua oc uc _ (HO6.out.quiet q8) (HU6.out.quiet q8) hSv).mono ?_; rintro e w9 ⟨rfl, q9⟩; replace q9 : Quiet X w9 := q8.trans q9)
          | (go_at_call 10; refine (valFault_any v va vc _ (HV6.out.quiet q7) hSv).mono ?_; rintro e w8 ⟨rfl, q8⟩; replace q8 : Quiet X w8 := q7.trans q8)
          | (go_at_call 9; refine (check_any v oa oc _ (HO6.out.quiet (Kp.drew _)) hSv).mono ?_; rintro e w7 ⟨rfl, q7⟩; replace q7 : Quiet X w7 := (Kp.drew X).trans q7))
      obtain ⟨⟨⟨c0, c1, c2⟩, _⟩, _⟩ := sAll.out _ q13
      have HX : Hid (v.check = 0 ∨ ¬ v.check = 0) := by rcases Int.decEq v.check 0 with h | h; exact .inr h; exact .inl h
      have hquiet := hid (And.intro i11 q13)
      clear i11 q7 q8 q9 q10 q11 q12
      rcases HX.out with hc | hc
      · have HC := hid hc
        have hcl := hid (show v.caps.length ≤ 1000 by have := caps_len v; omega)
        clear hc
        go_wp2_with (go_at_call 10; refine (valFault_any v va vc _ (HV6.out.quiet q13) hSv).mono ?_; rintro e w14 ⟨rfl, q14⟩; rw [HC.out]; replace q14 : Quiet X w14 := q13.trans q14)
        clear c0 c1 c2 q13 hquiet
        go_region_held3 (fun w' => ((w'.cell? ⟨w.heap.size, 0, none⟩ = some (.int .i64 v.kind) ∧ w'.cell? ⟨w.heap.size, 1, none⟩ = some (.int .i64 v.n) ∧ w'.cell? ⟨w.heap.size, 2, none⟩ = some (.slice va v.l.length vc)) ∧ (w'.cell? ⟨w.heap.size + 1, 0, none⟩ = some (.int .i64 u.kind) ∧ w'.cell? ⟨w.heap.size + 1, 1, none⟩ = some (.int .i64 u.n) ∧ w'.cell? ⟨w.heap.size + 1, 2, none⟩ = some (.slice ua u.l.length uc))) ∧ (w'.cell? ⟨ob, 0, none⟩ = some (.int .i64 v.kind) ∧ w'.cell? ⟨ob, 1, none⟩ = some (.int .i64 v.n) ∧ w'.cell? ⟨ob, 2, none⟩ = some (.slice oa v.l.length oc))) ((refine sAll.out _ ?_; first | assumption | exact q14.trans (Kp.drew _)))
          (first
            | (go_at_call 12; refine (sameVal_any v v oa va oc vc _ (HO6.out.quiet q21) (HV6.out.quiet q21) hSv).mono ?_; rintro e w22 ⟨rfl, q22⟩; rw [same_refl]; replace q22 : Quiet X w22 := q21.trans q22)
            | (go_at_call 20; refine (textR_any v va vc _ (HT6.out.quiet q20) (HV6.out.quiet q20) hSv).mono ?_; rintro e w21 ⟨rfl, q21⟩; replace q21 : Quiet X w21 := q20.trans q21)
            | (go_at_call 19; refine (text_any v oa oc _ (HT6.out.quiet q19) (HO6.out.quiet q19) HC.out).mono ?_; rintro e w20 ⟨rfl, q20⟩; replace q20 : Quiet X w20 := q19.trans q20)
            | (go_at_call 18; refine (gateR_any v va vc _ (HV6.out.quiet q18) hSv).mono ?_; rintro e w19 ⟨rfl, q19⟩; replace q19 : Quiet X w19 := q18.trans q19)
            | (go_at_call 17; refine (gates_any v oa oc _ (HO6.out.quiet q17) HC.out).mono ?_; rintro e w18 ⟨rfl, q18⟩; replace q18 : Quiet X w18 := q17.trans q18)
            | (go_at_call 14; refine (sameInts_any v.caps _ _ _ _ _ _ _ r15' r16 hcl.out).mono ?_; rintro e w17 ⟨rfl, q17⟩; replace q17 : Quiet X w17 := q16.trans q17; clear r15' r16)
            | (go_at_call 16; refine (capsR_any v va vc _ (HV6.out.quiet q15) hSv).mono ?_; rintro e w16 ⟨s16, rfl, r16, q16, _⟩; have r15' := q16.row r15 (fun _ _ e => e); replace q16 : Quiet X w16 := q15.trans q16; obtain ⟨a16, c16, hs16⟩ := owns_shape r16; subst hs16; clear r15)
            | (go_at_call 15; refine (caps_any v oa oc _ (HO6.out.quiet (q14.trans (Kp.drew _))) HC.out).mono ?_; rintro e w15 ⟨s15, rfl, r15, q15, _⟩; replace q15 : Quiet X w15 := (q14.trans (Kp.drew _)).trans q15; obtain ⟨a15, c15, hs15⟩ := owns_shape r15; subst hs15))
        go_wp2
        go_ret
        exact ⟨rfl, (HQ6.out.trans q22).low⟩
      · have l1 : (v.check != 0) = true := by simpa using hc
        clear HX
        go_wp2_with (go_at_call 10; refine (valFault_any v va vc _ (HV6.out.quiet q13) hSv).mono ?_; rintro e w14 ⟨rfl, q14⟩; replace q14 : Quiet X w14 := q13.trans q14)
        go_ret
        exact ⟨rfl, (HQ6.out.trans q14).low⟩
end Go.Proofs.YtekkecnhnaejlabDoor
