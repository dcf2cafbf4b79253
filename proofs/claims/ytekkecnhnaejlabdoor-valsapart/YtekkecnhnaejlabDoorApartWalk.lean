/- The walk of the law ValsApart. -/
import Derived.Test.YtekkecnhnaejlabDoorBegun4
import Derived.Test.YtekkecnhnaejlabDoorApartMath
namespace Go.Proofs.YtekkecnhnaejlabDoor
open Go.ChangeShapes Go.WideShapes Go.ChangeAt Go.RowKit
theorem two_boxes {w w' : World} {a b c d e f : Value} (q : Quiet ((w.alloc (.cells #[a, b, c] 24)).alloc (.cells #[d, e, f] 24)) w') : (w'.cell? ⟨w.heap.size, 0, none⟩ = some a ∧ w'.cell? ⟨w.heap.size, 1, none⟩ = some b ∧ w'.cell? ⟨w.heap.size, 2, none⟩ = some c) ∧ (w'.cell? ⟨w.heap.size + 1, 0, none⟩ = some d ∧ w'.cell? ⟨w.heap.size + 1, 1, none⟩ = some e ∧ w'.cell? ⟨w.heap.size + 1, 2, none⟩ = some f) := by
  have h0 : ((w.alloc (.cells #[a, b, c] 24)).alloc (.cells #[d, e, f] 24)).heap[w.heap.size]? = some (.cells #[a, b, c] 24 (0, 0)) := (Below.heap_alloc _ _ _ (by simp)).trans (heap_alloc_new w _)
  have h1 : ((w.alloc (.cells #[a, b, c] 24)).alloc (.cells #[d, e, f] 24)).heap[w.heap.size + 1]? = some (.cells #[d, e, f] 24 (0, 0)) := heap_two w _ _
  exact ⟨box_cells ((q.block _ (lt_of_block h0) fun e => e).trans h0), box_cells ((q.block _ (lt_of_block h1) fun e => e).trans h1)⟩
theorem ba_eq (a b : List UInt8) : ByteArray.mk a.toArray = ByteArray.mk b.toArray ↔ a = b := by
  constructor
  · intro h
    have := congrArg ByteArray.data h
    simpa using congrArg Array.toList this
  · rintro rfl; rfl
set_option maxHeartbeats 4000000 in
theorem apartLaw (w : World) (v u : V) (va ua : Option Addr) (vc uc : Nat) (ht : Tab w) (hV : Is w v va) (hU : Is w u ua) :
    Calls Tryd.prog 4 #[.agg #[.int .i64 v.kind, .int .i64 v.n, .slice va v.l.length vc], .agg #[.int .i64 u.kind, .int .i64 u.n, .slice ua u.l.length uc]] w fun e w' => e = .returned (.bool true) ∧ Below w.heap.size w w' := by
  have sAll := hid (fun (w' : World) (q : Quiet ((w.alloc (.cells #[.int .i64 v.kind, .int .i64 v.n, .slice va v.l.length vc] 24)).alloc (.cells #[.int .i64 u.kind, .int .i64 u.n, .slice ua u.l.length uc] 24)) w') => two_boxes q)
  have qW : Quiet w ((w.alloc (.cells #[.int .i64 v.kind, .int .i64 v.n, .slice va v.l.length vc] 24)).alloc (.cells #[.int .i64 u.kind, .int .i64 u.n, .slice ua u.l.length uc] 24)) := (Kp.alloc _ _).trans (Kp.alloc _ _)
  have HB := hid (begun_any _ (ht.quiet qW))
  have HV := hid (hV.quiet qW)
  have HU := hid (hU.quiet qW)
  have HT := hid (ht.quiet qW)
  clear hV hU ht
  by_cases hbv : 500 < v.size
  · have hd := hid (show decide (500 < v.size) = true by simpa using hbv)
    clear hbv
    go_enter Tryd.func4, Tryd.ntmps4
    go_wp2_with (first
      | (go_at_call 7; refine (great_any v va vc _ (HV.out.quiet q2)).mono ?_; rintro e w3 ⟨rfl, q3⟩; rw [hd.out])
      | (go_at_call 6; refine HB.out.mono ?_; rintro e w2 ⟨rfl, q2⟩; obtain ⟨⟨c0, c1, c2⟩, ⟨d0, d1, d2⟩⟩ := sAll.out _ q2))
    go_ret
    exact ⟨rfl, (qW.trans (q2.trans q3)).low⟩
  · have hdv := hid (show decide (500 < v.size) = false by simpa using hbv)
    have hSv : v.size ≤ 500 := by omega
    by_cases hbu : 500 < u.size
    · have hd := hid (show decide (500 < u.size) = true by simpa using hbu)
      clear hbu hbv
      go_enter Tryd.func4, Tryd.ntmps4
      go_wp2_with (first
        | (go_at_call 7; refine (great_any u ua uc _ (HU.out.quiet q3)).mono ?_; rintro e w4 ⟨rfl, q4⟩; rw [hd.out])
        | (go_at_call 7; refine (great_any v va vc _ (HV.out.quiet q2)).mono ?_; rintro e w3 ⟨rfl, q3⟩; rw [hdv.out]; replace q3 := q2.trans q3; obtain ⟨⟨e0, e1, e2⟩, ⟨f0, f1, f2⟩⟩ := sAll.out _ q3)
        | (go_at_call 6; refine HB.out.mono ?_; rintro e w2 ⟨rfl, q2⟩; obtain ⟨⟨c0, c1, c2⟩, ⟨d0, d1, d2⟩⟩ := sAll.out _ q2))
      go_ret
      exact ⟨rfl, (qW.trans (q3.trans q4)).low⟩
    · have hdu := hid (show decide (500 < u.size) = false by simpa using hbu)
      have hSu : u.size ≤ 500 := by omega
      clear hbu hbv
      by_cases hcv : v.check = 0
      · have HCV := hid hcv
        by_cases hcu : u.check = 0
        · have HCU := hid hcu
          have HAP := hid (text_apart hcv hcu)
          clear hcv hcu
          go_enter Tryd.func4, Tryd.ntmps4
          go_wp2_with (first
            | (go_at_call 9; refine (check_any u ua uc _ (HU.out.quiet q5) hSu).mono ?_; rintro e w6 ⟨rfl, q6⟩; rw [HCU.out]; replace q6 := q5.trans q6)
            | (go_at_call 9; refine (check_any v va vc _ (HV.out.quiet q4) hSv).mono ?_; rintro e w5 ⟨rfl, q5⟩; rw [HCV.out]; replace q5 := q4.trans q5; obtain ⟨⟨i0, i1, i2⟩, ⟨j0, j1, j2⟩⟩ := sAll.out _ q5)
            | (go_at_call 7; refine (great_any u ua uc _ (HU.out.quiet q3)).mono ?_; rintro e w4 ⟨rfl, q4⟩; rw [hdu.out]; replace q4 := q3.trans q4; obtain ⟨⟨g0, g1, g2⟩, ⟨h0, h1, h2⟩⟩ := sAll.out _ q4)
            | (go_at_call 7; refine (great_any v va vc _ (HV.out.quiet q2)).mono ?_; rintro e w3 ⟨rfl, q3⟩; rw [hdv.out]; replace q3 := q2.trans q3; obtain ⟨⟨e0, e1, e2⟩, ⟨f0, f1, f2⟩⟩ := sAll.out _ q3)
            | (go_at_call 6; refine HB.out.mono ?_; rintro e w2 ⟨rfl, q2⟩; obtain ⟨⟨c0, c1, c2⟩, ⟨d0, d1, d2⟩⟩ := sAll.out _ q2))
          clear c0 c1 c2 d0 d1 d2 e0 e1 e2 f0 f1 f2 g0 g1 g2 h0 h1 h2 i0 i1 i2 j0 j1 j2
          clear q2 q3 q4 q5
          generalize hX : ((w.alloc (.cells #[.int .i64 v.kind, .int .i64 v.n, .slice va v.l.length vc] 24)).alloc (.cells #[.int .i64 u.kind, .int .i64 u.n, .slice ua u.l.length uc] 24)) = X at *
          clear hX
          go_region_held3 (fun w' => (w'.cell? ⟨w.heap.size, 0, none⟩ = some (.int .i64 v.kind) ∧ w'.cell? ⟨w.heap.size, 1, none⟩ = some (.int .i64 v.n) ∧ w'.cell? ⟨w.heap.size, 2, none⟩ = some (.slice va v.l.length vc)) ∧ (w'.cell? ⟨w.heap.size + 1, 0, none⟩ = some (.int .i64 u.kind) ∧ w'.cell? ⟨w.heap.size + 1, 1, none⟩ = some (.int .i64 u.n) ∧ w'.cell? ⟨w.heap.size + 1, 2, none⟩ = some (.slice ua u.l.length uc))) ((refine sAll.out _ ?_; first | assumption | exact q6.trans (Kp.drew _)))
            (first
              | (go_at_call 11; refine (sameV_any v u va ua vc uc _ (HV.out.quiet q8) (HU.out.quiet q8) hSv).mono ?_; rintro e w9 ⟨rfl, q9⟩; replace q9 : Quiet X w9 := q8.trans q9)
              | (go_at_call 19; refine (text_any u ua uc _ (HT.out.quiet q7) (HU.out.quiet q7) HCU.out).mono ?_; rintro e w8 ⟨rfl, q8⟩; replace q8 : Quiet X w8 := q7.trans q8)
              | (go_at_call 19; refine (text_any v va vc _ (HT.out.quiet (q6.trans (Kp.drew _))) (HV.out.quiet (q6.trans (Kp.drew _))) HCV.out).mono ?_; rintro e w7 ⟨rfl, q7⟩; replace q7 : Quiet X w7 := (q6.trans (Kp.drew _)).trans q7))
          have hfin := hid (show (((v.text == u.text) == v.same u) = true) from by
            by_cases h : v = u
            · rw [same_true h, h]; simp
            · rw [same_false h]
              have h2 : ¬ v.text = u.text := fun e => h (HAP.out.1 e)
              simp [h2])
          clear HAP
          go_wp2
          go_ret
          exact ⟨by simp [hfin.out], (qW.trans q9).low⟩
        · have l1 : (u.check != 0) = true := by simpa using hcu
          go_enter Tryd.func4, Tryd.ntmps4
          go_wp2_with (first
            | (go_at_call 9; refine (check_any u ua uc _ (HU.out.quiet q5) hSu).mono ?_; rintro e w6 ⟨rfl, q6⟩; replace q6 := q5.trans q6)
            | (go_at_call 9; refine (check_any v va vc _ (HV.out.quiet q4) hSv).mono ?_; rintro e w5 ⟨rfl, q5⟩; rw [HCV.out]; replace q5 := q4.trans q5; obtain ⟨⟨i0, i1, i2⟩, ⟨j0, j1, j2⟩⟩ := sAll.out _ q5)
            | (go_at_call 7; refine (great_any u ua uc _ (HU.out.quiet q3)).mono ?_; rintro e w4 ⟨rfl, q4⟩; rw [hdu.out]; replace q4 := q3.trans q4; obtain ⟨⟨g0, g1, g2⟩, ⟨h0, h1, h2⟩⟩ := sAll.out _ q4)
            | (go_at_call 7; refine (great_any v va vc _ (HV.out.quiet q2)).mono ?_; rintro e w3 ⟨rfl, q3⟩; rw [hdv.out]; replace q3 := q2.trans q3; obtain ⟨⟨e0, e1, e2⟩, ⟨f0, f1, f2⟩⟩ := sAll.out _ q3)
            | (go_at_call 6; refine HB.out.mono ?_; rintro e w2 ⟨rfl, q2⟩; obtain ⟨⟨c0, c1, c2⟩, ⟨d0, d1, d2⟩⟩ := sAll.out _ q2))
          go_ret
          exact ⟨rfl, (qW.trans q6).low⟩
      · have l1 : (v.check != 0) = true := by simpa using hcv
        go_enter Tryd.func4, Tryd.ntmps4
        go_wp2_with (first
          | (go_at_call 9; refine (check_any v va vc _ (HV.out.quiet q4) hSv).mono ?_; rintro e w5 ⟨rfl, q5⟩; replace q5 := q4.trans q5)
          | (go_at_call 7; refine (great_any u ua uc _ (HU.out.quiet q3)).mono ?_; rintro e w4 ⟨rfl, q4⟩; rw [hdu.out]; replace q4 := q3.trans q4; obtain ⟨⟨g0, g1, g2⟩, ⟨h0, h1, h2⟩⟩ := sAll.out _ q4)
          | (go_at_call 7; refine (great_any v va vc _ (HV.out.quiet q2)).mono ?_; rintro e w3 ⟨rfl, q3⟩; rw [hdv.out]; replace q3 := q2.trans q3; obtain ⟨⟨e0, e1, e2⟩, ⟨f0, f1, f2⟩⟩ := sAll.out _ q3)
          | (go_at_call 6; refine HB.out.mono ?_; rintro e w2 ⟨rfl, q2⟩; obtain ⟨⟨c0, c1, c2⟩, ⟨d0, d1, d2⟩⟩ := sAll.out _ q2))
        go_ret
        exact ⟨rfl, (qW.trans q5).low⟩
end Go.Proofs.YtekkecnhnaejlabDoor
