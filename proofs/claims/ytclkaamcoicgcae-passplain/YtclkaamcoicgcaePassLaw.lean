/- What is asked of May and Across, whatever way they go; the laws' own beginning. -/
import Derived.Test.YtclkaamcoicgcaePassPast
import Derived.Test.YtclkaamcoicgcaePassGraphs
namespace Go.Proofs.Ytclkaamcoicgcae
open Go.ChangeShapes Go.WideShapes Go.ChangeAt Go.RowKit
open Gr (Nd Res nd0 thereB deriveOf addOf rightsN wayOf gatesOf gatesW targetOf Wf NdOk GS Goes Own StepP IntsAt Pair cellOf gateOf)
/-- The contract of May. -/
def MayC : Prop := ∀ (B b : Nat) (os : List Bool) (v : V) (ao : Option Addr) (cap : Nat) (w : World) (vn vo : Value) (ns : List Nd), GS 70 B w b vn vo ns os → Wf ns os.length → Is w v ao → v.size ≤ 500 →
    Calls Try.prog 10 #[.pointer (some ⟨b, 0, none⟩), .agg #[.int .i64 v.kind, .int .i64 v.n, .slice ao v.l.length cap]] w fun e w' => e = .returned (.int .i64 (mayOf ns os v)) ∧ Quiet w w'
/-- The contract of Across. -/
def AcrossC : Prop := ∀ (B b : Nat) (os : List Bool) (gs : List Int) (v : V) (ao : Option Addr) (cap : Nat) (ga : Option Addr) (gc : Nat) (w : World) (vn vo : Value) (ns : List Nd), GS 70 B w b vn vo ns os → Wf ns os.length → v.size ≤ 500 → gs.length ≤ 100 →
    SafeF (Own b vn vo) (fun w => Is w v ao) w → SafeF (Own b vn vo) (fun w => IntsAt w ga gs) w →
    Calls Try.prog 12 #[.pointer (some ⟨b, 0, none⟩), .agg #[.int .i64 v.kind, .int .i64 v.n, .slice ao v.l.length cap], .slice ga gs.length gc] w fun e w' => HandQ 70 B b vn vo (passedOf ns os gs v) os w e w'
def p1 : Nd := ⟨-1, -1, 5, 1, -1, 0⟩
def p2 : Nd := ⟨-1, -1, 1, 1, -1, 0⟩
def p3 : Nd := ⟨0, 0, 15, 0, -1, 0⟩
theorem pg1 : gateOf [] [] = ⟨0, 0, [], [true]⟩ := rfl
theorem pg2 : cellOf [] [true] 1 5 (-1) = ⟨0, 0, [p1], [true]⟩ := rfl
theorem pg3 : cellOf [p1] [true] 1 1 (-1) = ⟨1, 0, [p1, p2], [true]⟩ := rfl
theorem pgw : Wf [p1, p2] 1 := by
  have h1 : NdOk 1 0 p1 := by constructor <;> simp [p1]
  have h2 : NdOk 1 1 p2 := by constructor <;> simp [p2]
  exact Wf.snoc (ns := [p1]) (Wf.snoc (ns := []) (Wf.nil 1) h1) h2
theorem pgw3 : Wf [p1, p2, p3] 1 := by
  have h3 : NdOk 1 2 p3 := by constructor <;> simp [p3, thereB]
  exact Wf.snoc (ns := [p1, p2]) pgw h3
theorem check4 (n : Int) (h : 0 ≤ n) : (⟨4, n, []⟩ : V).check = 0 := by
  unfold V.check
  rw [if_neg (by rw [size_mk, sizes_nil]; decide), fault_eq]
  have : (⟨4, n, []⟩ : V).fault1 = 0 := by unfold V.fault1; simp [partsB]; omega
  rw [if_pos this]; simp [pres_nil, first]
theorem may4 (ns : List Nd) (os : List Bool) (n : Int) (h : 0 ≤ n) : mayOf ns os ⟨4, n, []⟩ = if (rightsN ns os n).testBit 2 then 0 else 9 := by
  unfold mayOf
  rw [if_pos (check4 n h), gate_eq, caps_eq]
  simp [pres_nil, gateIn, capsIn]
theorem pg4 : passedOf [p1, p2] [true] [0] ⟨4, 0, []⟩ = (⟨4, 2, []⟩, 0, [p1, p2, p3]) := by
  have hr : rightsN [p1, p2] [true] 0 = 5 := by decide
  have hm : mayOf [p1, p2] [true] ⟨4, 0, []⟩ = 0 := by rw [may4 _ _ _ (by decide), hr]; rfl
  unfold passedOf
  rw [if_pos hm, handed_cap _ _ _ rfl rfl]
  rfl
theorem pg5 : gatesOf [p1, p2, p3] 2 = [0] := by decide
theorem pg6 : mayOf [p1, p2, p3] [true] ⟨4, 1, []⟩ = 9 := by
  have hr : rightsN [p1, p2, p3] [true] 1 = 1 := by decide
  rw [may4 _ _ _ (by decide), hr]; rfl
theorem small_in (z : Int) (h : 0 ≤ z ∧ z ≤ 100) : In64 z := ⟨by omega, by omega⟩
theorem ints_one_new (w : World) (z : Int) : IntsAt (w.alloc (.cells #[.int .i64 z] 3)) (some ⟨w.heap.size, 0, none⟩) [z] := by
  intro j hj
  obtain rfl : j = 0 := by simp at hj; omega
  refine ⟨w.heap.size, 0, rfl, ?_⟩
  rw [cell_of_row _ _ _ _ 3 (0, 0) (heap_alloc_new w _)]
  rfl
/-- New memory that is not the object's stays. -/
theorem safe_ints {F : Nat → Prop} {w : World} {ga : Option Addr} {gs : List Int} (h : IntsAt w ga gs) (hF : ∀ g o, ga = some ⟨g, o, none⟩ → ¬ F g) : SafeF F (fun w => IntsAt w ga gs) w := by
  intro w' k j hj
  obtain ⟨g, o, e, c⟩ := h j hj
  exact ⟨g, o, e, k.cell c (hF g o e)⟩
set_option maxRecDepth 8000 in
set_option maxHeartbeats 4000000 in
theorem pbegun_of (hMay : MayC) (hAc : AcrossC) (w : World) : Calls Try.prog 6 #[] w fun e w' => e = .returned (.bool true) ∧ Below w.heap.size w w' := by
  go_enter Try.func6, Try.ntmps6
  go_wp2_with (first
    | (go_at_call 10; refine (hMay _ _ _ ⟨4, 1, []⟩ none 0 _ _ _ _ h8 pgw3 (Is.leaf _ _ ⟨four_in, small_in 1 (by decide)⟩ rfl _) (by rw [size_mk, sizes_nil]; decide)).mono ?_; rintro e w9 ⟨rfl, q9⟩; rw [pg6])
    | (go_at_call 23; refine (Gr.sameInts_any _ [0] ga7 _ gc7 1 (by decide) ((Gr.ints_lie hr7).quiet (Kp.alloc _ _)) (ints_one_new w7 0)).mono ?_; rintro e w8 ⟨rfl, q8⟩; have h8 := h7.quiet ((Kp.alloc _ _).trans q8); have b8 := q8.qbelow (show w.heap.size ≤ _ from by have := h7.size; simp; omega) (b7.alloc h7.size _))
    | (go_at_call 21; refine (Gr.gates_any h6 pgw3 2).mono ?_; rintro e w7 ⟨v7, rfl, hr7, q7⟩; rw [pg5] at hr7; obtain ⟨ga7, gc7, rfl⟩ := owns_shape hr7; have h7 := h6.quiet q7; have b7 := q7.qbelow h6.size b6)
    | (go_at_call 12; refine (hAc w.heap.size _ [true] [0] ⟨4, 0, []⟩ none 0 _ 1 _ _ _ _ (h4.quiet (Kp.alloc _ _)) pgw (by rw [size_mk, sizes_nil]; decide) (by decide) (safe_leaf _ ⟨four_in, small_in 0 (by decide)⟩ rfl none) (safe_ints (ints_one_new w4 0) (fun g o e => by cases e; exact h4.free_new _ (Nat.le_refl _)))).mono ?_; rintro e w5 ⟨a5, c5, vn5, vo5, rfl, _, h5, k5⟩; rw [pg4] at h5 ⊢; dsimp only at h5 ⊢; have b5 := k5.below (h4.quiet (Kp.alloc _ _)) (b4.alloc h4.size _); have h6 := h5.quiet (Kp.alloc _ (.cells #[.int .i64 4, .int .i64 2, .slice a5 0 c5] 25)); have b6 := b5.alloc h5.size (.cells #[.int .i64 4, .int .i64 2, .slice a5 0 c5] 25); clear k5)
    | (go_at_call 26; refine (Gr.cell_any h3 1 1 (-1)).mono ?_; rintro e w4 ⟨rfl, vn4, vo4, h4, k4⟩; have b4 := k4.below h3 b3; rw [pg3] at h4 ⊢; dsimp only at h4 ⊢; clear k4)
    | (go_at_call 26; refine (Gr.cell_any h2 1 5 (-1)).mono ?_; rintro e w3 ⟨rfl, vn3, vo3, h3, k3⟩; have b3 := k3.below h2 b2; rw [pg2] at h3 ⊢; dsimp only at h3 ⊢; clear k3)
    | (go_at_call 25; refine (Gr.gate_any h1).mono ?_; rintro e w2 ⟨rfl, vo2, h2, k2⟩; have b2 := k2.below h1 b1; rw [pg1] at h2 ⊢; dsimp only at h2 ⊢; clear k2)
    | (go_at_call 24; refine (Gr.new_any w.heap.size _ (Nat.le_refl _)).mono ?_; rintro e w1 ⟨rfl, h1, k1⟩; have b1 := k1.qbelow (Nat.le_refl _) (Below.refl _ _); clear k1))
  go_ret
  exact ⟨rfl, q9.qbelow h8.size b8⟩
end Go.Proofs.Ytclkaamcoicgcae
