/- The law RenderPrints: the walk. -/
import Derived.Test.YtbcfbelfeaakoadDoorPrintedR
import Derived.Test.YtbcfbelfeaakoadDoorRBegun
import Derived.Test.YtbcfbelfeaakoadDoorRefMod
namespace Go.Proofs.YtbcfbelfeaakoadDoor
open Go.ChangeShapes Go.WideShapes Go.ChangeAt Go.RowKit
theorem HoldL.clean {lo : Nat} {w : World} {l : List V} {ao : Option Addr} (h : HoldL lo w l ao) : Fo (cln w) l ao := h _ fun _ _ _ _ hc => cln_same hc
theorem box_stays {w w' : World} {c : Array Value} {t : TypeId} (q : Quiet (w.alloc (.cells c t)) w') : w'.heap[w.heap.size]? = some (.cells c t (0, 0)) := (q.block _ (lt_of_block (heap_alloc_new w _)) fun e => e).trans (heap_alloc_new w _)
set_option maxRecDepth 8000 in
set_option maxHeartbeats 8000000 in
theorem printsLaw (w : World) (l : List V) (la : Option Addr) (lc : Nat) (ht : Laid w) (hL : Fo w l la) :
    Calls Tryd.prog 4 #[.agg #[.slice la l.length lc]] w fun e w' => e = .returned (.bool true) ∧ Below w.heap.size w w' := by
  have qW : Quiet w (w.alloc (.cells #[.slice la l.length lc] 25)) := Kp.alloc _ _
  have sB := hid (fun (w' : World) (q : Quiet (w.alloc (.cells #[.slice la l.length lc] 25)) w') => And.intro (mod_cell (box_stays q)) (lt_of_block (box_stays q)))
  have HB := hid (rbegun_any _ (ht.quiet qW))
  have HV := hid (And.intro (hL.quiet qW) (ht.quiet qW))
  clear hL ht
  cases hgl : great l with
  | true =>
    go_enter Tryd.func4, Tryd.ntmps4
    go_wp2_with (first
      | (go_at_call 12; refine (great_any l la lc _ (HV.out.1.quiet q2)).mono ?_; rintro e w3 ⟨rfl, q3⟩; rw [hgl])
      | (go_at_call 11; refine HB.out.mono ?_; rintro e w2 ⟨rfl, q2⟩; obtain ⟨c0, d0⟩ := sB.out _ q2))
    go_ret
    exact ⟨rfl, (qW.trans (q2.trans q3)).low⟩
  | false =>
    have hSl := great_sizes hgl
    have hSl2 : sizes l ≤ 20000 := by omega
    have hq := eqF
    have HP := hid (fun (oa : Option Addr) (oc : Nat) (w' : World) (h1 : Laid w') (h2 : Fo (cln w') l oa) => print_any l oa oc w' h1 h2 hSl2)
    have HPD := hid (fun (w' : World) (h1 : Laid w') (h2 : Fo w' l la) => (printed_any l la lc w' h1 h2 hSl2).mono fun e w' h => printQ_out h)
    generalize hp : printX (modFault l) l = p at *
    obtain ⟨s, c, a⟩ := p
    simp only [faultV] at HP HPD
    go_enter Tryd.func4, Tryd.ntmps4
    go_wp2_with (first
      | (go_at_call 10; refine (sameR_any l l oa la oc lc _ (HO.out.cleanQ (q8'.trans (Kp.alloc _ _))).unclean (HV.out.1.quiet (Q8.out.trans (Kp.alloc _ _))) hSl2).mono ?_; rintro e w9 ⟨rfl, q9⟩; rw [sames_true rfl])
      | (go_at_call 15; refine (HPD.out _ (HV.out.2.quiet (Q7.out.trans (Kp.alloc _ _))) (HV.out.1.quiet (Q7.out.trans (Kp.alloc _ _)))).mono ?_; rintro e w8 ⟨rfl, q8⟩; have Q8 := hid (Q7.out.trans ((Kp.alloc _ _).trans q8)); have q8' := q7.trans ((Kp.alloc _ _).trans q8); obtain ⟨g0, h0⟩ := sB.out _ Q8.out; have g1 := mod_cell (box_stays q8'); have h1 := lt_of_block (box_stays q8'); obtain ⟨i0, i1, i2, i3⟩ := fault_cells (box_stays q8); have j0 := lt_of_block (box_stays q8))
      | (go_at_call 14; refine (HP.out oa oc _ (HV.out.2.quiet (Q5.out.trans (Kp.alloc _ _))) HO.out).mono ?_; rintro e w7 ⟨rfl, q7⟩; have Q7 := hid (Q5.out.trans ((Kp.alloc _ _).trans q7)); obtain ⟨c7, d7⟩ := sB.out _ Q7.out)
      | (go_at_call 13; refine (ownMod_any l la lc _ (HV.out.1.quiet q3) hSl2).mono ?_; rintro e w5 ⟨oa, oc, rfl, hH, q5⟩; have Q5 := hid (q3.trans q5); have HO := hid (hH.clean.cleanQ (Kp.alloc w5 (.cells #[.slice oa l.length oc] 25))); clear hH)
      | (go_at_call 12; refine (great_any l la lc _ (HV.out.1.quiet q2)).mono ?_; rintro e w3 ⟨rfl, q3⟩; rw [hgl]; replace q3 := q2.trans q3; obtain ⟨e0, f0⟩ := sB.out _ q3)
      | (go_at_call 11; refine HB.out.mono ?_; rintro e w2 ⟨rfl, q2⟩; obtain ⟨c0, d0⟩ := sB.out _ q2))
    go_ret
    exact ⟨rfl, (qW.trans (Q8.out.trans ((Kp.alloc _ _).trans q9))).low⟩
end Go.Proofs.YtbcfbelfeaakoadDoor
