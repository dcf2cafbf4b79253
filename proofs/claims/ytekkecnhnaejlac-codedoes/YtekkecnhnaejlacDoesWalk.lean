/- The law CodeDoes: the walk. -/
import Derived.Test.YtekkecnhnaejlacBegun
import Derived.Test.YtekkecnhnaejlacRefMod
import Derived.Test.YtekkecnhnaejlacRefTell
import Derived.Deep.RegionHeld3
namespace Go.Proofs.Ytekkecnhnaejlac
open Go.ChangeShapes Go.WideShapes Go.ChangeAt Go.RowKit
theorem HoldL.clean {lo : Nat} {w : World} {l : List V} {ao : Option Addr} (h : HoldL lo w l ao) : Fo (cln w) l ao := h _ fun _ _ _ _ hc => cln_same hc
theorem mod_boxes {w w' : World} {a b : Value} (q : Quiet ((w.alloc (.cells #[a] 24)).alloc (.cells #[b] 24)) w') : w'.cell? ⟨w.heap.size, 0, none⟩ = some a ∧ w'.cell? ⟨w.heap.size + 1, 0, none⟩ = some b :=
  ⟨mod_cell (two_boxes q).1, mod_cell (two_boxes q).2⟩
theorem mod_new {w5 w' : World} {a : Value} (q : Quiet (w5.alloc (.cells #[a] 24)) w') : w'.cell? ⟨w5.heap.size, 0, none⟩ = some a :=
  mod_cell ((q.block _ (lt_of_block (heap_alloc_new w5 _)) fun e => e).trans (heap_alloc_new w5 _))
set_option maxHeartbeats 8000000 in
theorem doesLaw (w : World) (l u : List V) (la ua : Option Addr) (lc uc : Nat) (op : Int) (hL : Fo w l la) (hU : Fo w u ua) :
    Calls Try.prog 3 #[.agg #[.slice la l.length lc], .agg #[.slice ua u.length uc], .int .i64 op] w fun e w' => e = .returned (.bool true) ∧ Below w.heap.size w w' := by
  have sB := hid (fun (w' : World) (q : Quiet ((w.alloc (.cells #[.slice la l.length lc] 24)).alloc (.cells #[.slice ua u.length uc] 24)) w') => mod_boxes q)
  have qW : Quiet w ((w.alloc (.cells #[.slice la l.length lc] 24)).alloc (.cells #[.slice ua u.length uc] 24)) := (Kp.alloc _ _).trans (Kp.alloc _ _)
  have HB := hid (begun_any ((w.alloc (.cells #[.slice la l.length lc] 24)).alloc (.cells #[.slice ua u.length uc] 24)))
  have HV := hid (hL.quiet qW)
  have HU := hid (hU.quiet qW)
  clear hL hU
  cases hgl : great l with
  | true =>
    go_enter Try.func3, Try.ntmps3
    go_wp2_with (first
      | (go_at_call 6; refine (great_any l la lc _ (HV.out.quiet q2)).mono ?_; rintro e w3 ⟨rfl, q3⟩; rw [hgl])
      | (go_at_call 5; refine HB.out.mono ?_; rintro e w2 ⟨rfl, q2⟩; obtain ⟨c0, d0⟩ := sB.out _ q2))
    go_ret
    exact ⟨rfl, (qW.trans (q2.trans q3)).low⟩
  | false =>
    cases hgu : great u with
    | true =>
      go_enter Try.func3, Try.ntmps3
      go_wp2_with (first
        | (go_at_call 6; refine (great_any u ua uc _ (HU.out.quiet q3)).mono ?_; rintro e w4 ⟨rfl, q4⟩; rw [hgu])
        | (go_at_call 6; refine (great_any l la lc _ (HV.out.quiet q2)).mono ?_; rintro e w3 ⟨rfl, q3⟩; rw [hgl]; replace q3 := q2.trans q3; obtain ⟨e0, f0⟩ := sB.out _ q3)
        | (go_at_call 5; refine HB.out.mono ?_; rintro e w2 ⟨rfl, q2⟩; obtain ⟨c0, d0⟩ := sB.out _ q2))
      go_ret
      exact ⟨rfl, (qW.trans (q3.trans q4)).low⟩
    | false =>
      have hSl := great_sizes hgl
      have hGl := great_false hgl
      have hSl2 : sizes l ≤ 20000 := by omega
      have HGL := hid hGl
      clear hGl
      have hq := eqF
      go_enter Try.func3, Try.ntmps3
      go_wp2_with (first
        | (go_at_call 7; refine (ownMod_any l la lc _ (HV.out.quiet q4) hSl2).mono ?_; rintro e w5 ⟨oa, oc, rfl, hH, q5⟩; replace q5 := q4.trans q5)
        | (go_at_call 6; refine (great_any u ua uc _ (HU.out.quiet q3)).mono ?_; rintro e w4 ⟨rfl, q4⟩; rw [hgu]; replace q4 := q3.trans q4; obtain ⟨g0, h0⟩ := sB.out _ q4)
        | (go_at_call 6; refine (great_any l la lc _ (HV.out.quiet q2)).mono ?_; rintro e w3 ⟨rfl, q3⟩; rw [hgl]; replace q3 := q2.trans q3; obtain ⟨e0, f0⟩ := sB.out _ q3)
        | (go_at_call 5; refine HB.out.mono ?_; rintro e w2 ⟨rfl, q2⟩; obtain ⟨c0, d0⟩ := sB.out _ q2))
      have q6 : Quiet _ (w5.alloc (.cells #[.slice oa l.length oc] 24)) := q5.trans (Kp.alloc _ _)
      have sAll := hid (fun (w' : World) (q : Quiet (w5.alloc (.cells #[.slice oa l.length oc] 24)) w') => (show w'.cell? ⟨w.heap.size, 0, none⟩ = some (.slice la l.length lc) ∧ w'.cell? ⟨w.heap.size + 1, 0, none⟩ = some (.slice ua u.length uc) ∧ w'.cell? ⟨w5.heap.size, 0, none⟩ = some (.slice oa l.length oc) from ⟨(sB.out _ (q6.trans q)).1, (sB.out _ (q6.trans q)).2, mod_new q⟩))
      have HV6 := hid (HV.out.quiet q6)
      have HU6 := hid (HU.out.quiet q6)
      have HO6 := hid (hH.clean.cleanQ (Kp.alloc w5 (.cells #[.slice oa l.length oc] 24)))
      have HQ6 := hid (qW.trans q6)
      clear c0 d0 e0 f0 g0 h0 q2 q3 q4 q5 q6 hH HV HU HB sB qW
      obtain ⟨W6, hW6⟩ : ∃ W6, W6 = w5.alloc (.cells #[.slice oa l.length oc] 24) := ⟨_, rfl⟩
      rw [← hW6] at sAll HV6 HU6 HO6 HQ6 ⊢
      clear hW6
      go_region_held3 (fun w' => w'.cell? ⟨w.heap.size, 0, none⟩ = some (.slice la l.length lc) ∧ w'.cell? ⟨w.heap.size + 1, 0, none⟩ = some (.slice ua u.length uc) ∧ w'.cell? ⟨w5.heap.size, 0, none⟩ = some (.slice oa l.length oc)) ((refine sAll.out _ ?_; first | assumption | exact Kp.drew _))
        (first
          | (go_at_call 12; refine (sameR_any l l oa la oc lc w15 (HO6.out.cleanQ q15).unclean (HV6.out.quiet q15) hSl2).mono ?_; rintro e w16 ⟨rfl, q16⟩; rw [sames_true rfl]; replace q16 : Quiet W6 w16 := q15.trans q16)
          | (go_at_call 12; refine (sameR_any l u la ua lc uc w14 (HV6.out.quiet q14) (HU6.out.quiet q14) hSl2).mono ?_; rintro e w15 ⟨rfl, q15⟩; replace q15 : Quiet W6 w15 := q14.trans q15)
          | (go_at_call 14; refine (sameM_any l u oa ua oc uc w13 (HO6.out.cleanQ q13).unclean (HU6.out.quiet q13) hSl2).mono ?_; rintro e w14 ⟨rfl, q14⟩; replace q14 : Quiet W6 w14 := q13.trans q14)
          | (go_at_call 12; refine (sameR_any l l pa la pc lc w12 hp12.out (HV6.out.quiet q12) hSl2).mono ?_; rintro e w13 ⟨rfl, q13⟩; rw [sames_true rfl]; replace q13 : Quiet W6 w13 := q12.trans q13)
          | (go_at_call 13; refine (ownM_any l oa oc w11 (HO6.out.cleanQ q11).unclean hSl2).mono ?_; rintro e w12 ⟨pa, pc, rfl, hp12', q12⟩; replace q12 : Quiet W6 w12 := q11.trans q12; have hp12 := hid hp12'; clear hp12')
          | (go_at_call 11; refine (partsOf_any op _).mono ?_; rintro e w11 ⟨rfl, rfl⟩; have q11 := q10)
          | (go_at_call 10; refine (parts_any op _).mono ?_; rintro e w10 ⟨rfl, rfl⟩; have q10 := q9)
          | (go_at_call 9; refine (codeFault_any l la lc w8 (HV6.out.quiet q8) HGL.out.1 HGL.out.2).mono ?_; rintro e w9 ⟨rfl, q9⟩; replace q9 : Quiet W6 w9 := q8.trans q9)
          | (go_at_call 8; refine (check_any l oa oc _ (HO6.out.cleanQ (Kp.drew _)) hSl2).mono ?_; rintro e w8 ⟨rfl, q8⟩; replace q8 : Quiet W6 w8 := (Kp.drew W6).trans q8))
      go_wp2
      go_ret
      exact ⟨rfl, (HQ6.out.trans q16).low⟩
end Go.Proofs.Ytekkecnhnaejlac
