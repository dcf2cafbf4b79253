/- The contract of the beginning that all four statements on package graph ask for. -/
import Derived.Test.YthplldgdgmhdlaaStep
import Derived.Test.YthplldgdgmhdlaaTell
namespace Go.Proofs.Ythplldgdgmhdlaa
open Go.ChangeShapes Go.WideShapes Go.ChangeAt Go.RowKit
def na : Nd := ⟨-1, -1, 7, 3, -1, 0⟩
def nb : Nd := ⟨0, 0, 13, 0, -1, 0⟩
theorem bg1 : gateOf [] [] = ⟨0, 0, [], [true]⟩ := rfl
theorem bg2 : cellOf [] [true] 3 7 (-1) = ⟨0, 0, [na], [true]⟩ := rfl
theorem bg3 : deriveOf [na] [true] 0 13 0 = ⟨1, 0, [na, nb], [true]⟩ := rfl
theorem bg4 : rightsN [na, nb] [true] 1 = 5 := rfl
theorem bg5 : (targetOf [na, nb] 1).agg = .agg #[.int .i64 (-1), .int .i64 (-1), .int .i64 7, .int .i64 3, .int .i64 (-1), .int .i64 0] := rfl
theorem bg6 : thereB [na, nb].length 1 = true := rfl
theorem bg7 : cutOf [na, nb] [true] 0 = ⟨0, 0, [na, nb], [false]⟩ := rfl
theorem bg8 : rightsN [na, nb] [false] 1 = 0 := rfl
theorem bg9 : rightsN [na, nb] [false] 0 = 7 := rfl
theorem bg10 : openB [false] 0 = false := rfl
theorem bgw : Wf [na, nb] 1 := by
  have h1 : NdOk 1 0 na := by constructor <;> simp [na, thereB]
  have h2 : NdOk 1 1 nb := by constructor <;> simp [nb, thereB]
  exact Wf.snoc (ns := [na]) (Wf.snoc (ns := []) (Wf.nil 1) h1) h2
theorem bgw1 : Wf [na, nb] [true].length := bgw
theorem bgw2 : Wf [na, nb] [false].length := bgw
set_option maxHeartbeats 4000000 in
theorem begun_any (w : World) :
    Calls Try.prog 27 #[] w fun e w' => e = .returned (.bool true) ∧ Below w.heap.size w w' := by
  go_enter Try.func27, Try.ntmps27
  go_wp2_with (first
    | (go_at_call 28; refine (new_any w.heap.size _ (Nat.le_refl _)).mono ?_; rintro e w1 ⟨rfl, h1, k1⟩; have b1 := k1.qbelow (Nat.le_refl _) (Below.refl _ _); clear k1)
    | (go_at_call 46; refine (gate_any h1).mono ?_; rintro e w2 ⟨rfl, vo2, h2, k2⟩; have b2 := k2.below h1 b1; rw [bg1] at h2 ⊢; dsimp only at h2 ⊢; clear h1 k2 b1)
    | (go_at_call 47; refine (cell_any h2 _ _ _).mono ?_; rintro e w3 ⟨rfl, vn3, vo3, h3, k3⟩; have b3 := k3.below h2 b2; rw [bg2] at h3 ⊢; dsimp only at h3 ⊢; clear h2 k3 b2)
    | (go_at_call 48; refine (derive_any h3 _ _ _).mono ?_; rintro e w4 ⟨rfl, vn4, vo4, h4, k4⟩; have b4 := k4.below h3 b3; rw [bg3] at h4 ⊢; dsimp only at h4 ⊢; clear h3 k4 b3)
    | (go_at_call 34; refine (rights_any h4 bgw1 _).mono ?_; rintro e w5 ⟨rfl, q5⟩; have b5 := q5.qbelow h4.size b4; have h5 := h4.quiet q5; rw [bg4]; clear h4 b4 q5)
    | (go_at_call 32; refine (target_any h5 bgw1 _).mono ?_; rintro e w6 ⟨rfl, q6⟩; have b60 := q6.qbelow h5.size b5; have h60 := h5.quiet q6; rw [bg5, bg6]; have q7 : Quiet w6 (w6.alloc (.cells #[.int .i64 (-1), .int .i64 (-1), .int .i64 7, .int .i64 3, .int .i64 (-1), .int .i64 0] 65)) := Kp.alloc _ _; have b6 := q7.qbelow h60.size b60; have h6 := h60.quiet q7; clear h5 b5 q6 b60 h60 q7)
    | (go_at_call 49; refine (cut_any h6 _).mono ?_; rintro e w7 ⟨rfl, h7, k7⟩; have b7 := k7.below h6 b6; rw [bg7] at h7 ⊢; dsimp only at h7 ⊢; clear h6 k7 b6)
    | (go_at_call_of 34 (Value.int .i64 1); refine (rights_any h7 bgw2 _).mono ?_; rintro e w8 ⟨rfl, q8⟩; have b8 := q8.qbelow h7.size b7; have h8 := h7.quiet q8; rw [bg8]; clear h7 b7 q8)
    | (go_at_call_of 34 (Value.int .i64 0); refine (rights_any h8 bgw2 _).mono ?_; rintro e w9 ⟨rfl, q9⟩; have b9 := q9.qbelow h8.size b8; have h9 := h8.quiet q9; rw [bg9]; clear h8 b8 q9)
    | (go_at_call 41; refine (open_any h9 _).mono ?_; rintro e w10 ⟨rfl, rfl⟩; rw [bg10]; clear h9))
  go_ret
  exact ⟨rfl, b9⟩
end Go.Proofs.Ythplldgdgmhdlaa
