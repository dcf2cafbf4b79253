/- The law ParseReads: the walk. -/
import Derived.Test.YthogejofkodmkacDoorPBegun
import Derived.Test.YthogejofkodmkacDoorRParseWalk
import Derived.Test.YthogejofkodmkacDoorRefSame
namespace Go.Proofs.YthogejofkodmkacDoor
open Go.ChangeShapes Go.WideShapes Go.ChangeAt Go.RowKit
theorem eqF (a b c d : Int) (w : World) : (Op.equalIn 10000 25 (.agg #[.int .i64 a, .int .i64 b]) (.agg #[.int .i64 c, .int .i64 d])).run Tryd.prog w = .ok (a == c && b == d) w := by
  have hS : Tryd.prog.underlying 25 = some (.struct (Tryd.prog.fieldsOf 25)) := by kernel_rfl
  have hp : Tryd.prog.stoodInHeld 25 = false := by kernel_rfl
  rw [show (10000 : Nat) = 9999 + 1 from rfl, run_equalIn_agg w 9999 25 _ _ hS hp]
  simp only [Program.fieldsOf, Tryd.underlying25]
  go_simp
  by_cases h1 : a = c <;> by_cases h2 : b = d <;> simp [h1, h2]
theorem parseB_size (l : List UInt8) (hl : l.length ≤ 9000) : sizes (parseB l).1 ≤ 20000 := by
  unfold parseB
  split
  · have h1 := parseT_size (l.length : Int) (scan l).1
    have h2 := scan_few_len l
    omega
  · simp [sizes_nil]
set_option maxRecDepth 8000 in
set_option maxHeartbeats 4000000 in
theorem readsLaw (l : List UInt8) (k : Int) (w : World) (hw : Laid w) (hd : Wds w) : Calls Tryd.prog 5 #[.string ⟨l.toArray⟩, .int .i64 k] w fun e' w' => e' = .returned (.bool true) ∧ Below w.heap.size w w' := by
  have hz := bytes_size l
  have HB := hid (pbegun_any w hw hd)
  by_cases hl : l.length ≤ 9000
  · have hl' : ¬ (9000 : Int) < (l.length : Int) := by omega
    have hS := parseB_size l hl
    have HP := hid (fun w1 (q : Quiet w w1) => parse_any l hl w1 (hw.quiet q) (hd.quiet q))
    have HR := hid (fun w1 (q : Quiet w w1) => rparse_any l hl w1 (hw.quiet q))
    have HD := hid (fun w1 (q : Quiet w w1) => hd.quiet q)
    generalize parseB l = p at *
    obtain ⟨m, c, a⟩ := p
    simp only at hS
    have hq := eqF
    clear hw hd
    go_enter Tryd.func5, Tryd.ntmps5
    go_wp2_with (first
      | (go_at_call 17; refine (binOf_any k _).mono ?_; rintro e' w9 ⟨rfl, q9⟩; replace q9 : Quiet w w9 := q8.trans q9)
      | (go_at_call 16; refine (bin_any k _ (HD.out _ q7)).mono ?_; rintro e' w8 ⟨rfl, h8⟩; replace h8 := h8.symm; subst h8; have q8 := q7)
      | (go_at_call 15; refine (wordOf_any k _).mono ?_; rintro e' w7 ⟨rfl, q7⟩; replace q7 : Quiet w w7 := q6.trans q7)
      | (go_at_call 14; refine (word_any k _ (HD.out _ q5)).mono ?_; rintro e' w6 ⟨rfl, h6⟩; replace h6 := h6.symm; subst h6; have q6 := q5)
      | (go_at_call 13; refine (sameR_any m m ma na mc nc _ (hF2.quiet (q3.trans ((Kp.alloc _ _).trans (Kp.alloc _ _)))) (hG4.quiet ((Kp.alloc _ _).trans (Kp.alloc _ _))) hS).mono ?_; rintro e' w5 ⟨rfl, q5⟩; rw [sames_true rfl]; replace q5 : Quiet w w5 := (q4 _ _).trans q5)
      | (go_at_call 12; refine (HR.out _ (q2 _ _)).mono ?_; rintro e' w4 ⟨na, nc, rfl, hG4, q4'⟩; simp only at hG4; have q4 := fun o1 o2 => (q2 _ _).trans (q4'.trans ((Kp.alloc w4 o1).trans (Kp.alloc _ o2))); have q3 := ((Kp.alloc w2 _).trans (Kp.alloc _ _)).trans q4'; obtain ⟨e0, e1⟩ := two_q q4'; have m0 := box1 e0; obtain ⟨g0, g1⟩ := box2 e1; have l0 := lt_of_block e0; have l1 := lt_of_block e1; clear e0 e1)
      | (go_at_call 11; refine (HP.out w1 q1).mono ?_; rintro e' w2 ⟨ma, mc, rfl, hF2, q2'⟩; simp only at hF2; have q2 := fun o1 o2 => (q1.trans q2').trans ((Kp.alloc w2 o1).trans (Kp.alloc _ o2)))
      | (go_at_call 10; refine HB.out.mono ?_; rintro e' w1 ⟨rfl, q1⟩))
    go_ret
    exact ⟨by simp, q9.low⟩
  · have hl' : (9000 : Int) < (l.length : Int) := by omega
    clear hl
    go_enter Tryd.func5, Tryd.ntmps5
    go_wp2_with (go_at_call 10; refine HB.out.mono ?_; rintro e' w1 ⟨rfl, q1⟩)
    go_ret
    exact ⟨rfl, q1.low⟩
end Go.Proofs.YthogejofkodmkacDoor
