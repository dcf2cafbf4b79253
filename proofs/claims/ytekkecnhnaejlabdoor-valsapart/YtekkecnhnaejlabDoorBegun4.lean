/- The laws' own beginning: one value, asked all questions. -/
import Derived.Test.YtekkecnhnaejlabDoorOld4
import Derived.Test.YtekkecnhnaejlabDoorWrite
import Derived.Test.YtekkecnhnaejlabDoorBegFacts
import Derived.Deep.RegionHeld3
namespace Go.Proofs.YtekkecnhnaejlabDoor
open Go.ChangeShapes Go.WideShapes Go.ChangeAt Go.RowKit
/-- The memory of the beginning. -/
def begW (w : World) : World := ((w.alloc (.cells #[.int .i64 4, .int .i64 7, .slice none 0 0] 24)).alloc (.cells #[.int .i64 3, .int .i64 2, .slice (some ⟨w.heap.size, 0, none⟩) 1 1, .int .i64 5, .int .i64 1, .slice none 0 0] 24)).alloc (.cells #[.int .i64 2, .int .i64 0, .slice (some ⟨w.heap.size + 1, 0, none⟩) 2 2] 24)
theorem begW_heap (w : World) : (begW w).heap[w.heap.size]? = some (.cells #[.int .i64 4, .int .i64 7, .slice none 0 0] 24 (0, 0)) ∧ (begW w).heap[w.heap.size + 1]? = some (.cells #[.int .i64 3, .int .i64 2, .slice (some ⟨w.heap.size, 0, none⟩) 1 1, .int .i64 5, .int .i64 1, .slice none 0 0] 24 (0, 0)) ∧ (begW w).heap[w.heap.size + 2]? = some (.cells #[.int .i64 2, .int .i64 0, .slice (some ⟨w.heap.size + 1, 0, none⟩) 2 2] 24 (0, 0)) := by
  unfold begW
  refine ⟨?_, ?_, ?_⟩
  · rw [Below.heap_alloc _ _ _ (by simp; omega), Below.heap_alloc _ _ _ (by simp)]; exact heap_alloc_new w _
  · rw [Below.heap_alloc _ _ _ (by simp)]; exact heap_two w _ _
  · have := heap_alloc_new ((w.alloc (.cells #[.int .i64 4, .int .i64 7, .slice none 0 0] 24)).alloc (.cells #[.int .i64 3, .int .i64 2, .slice (some ⟨w.heap.size, 0, none⟩) 1 1, .int .i64 5, .int .i64 1, .slice none 0 0] 24)) (.cells #[.int .i64 2, .int .i64 0, .slice (some ⟨w.heap.size + 1, 0, none⟩) 2 2] 24)
    simpa using this
theorem begW_quiet (w : World) : Quiet w (begW w) := (Kp.alloc _ _).trans ((Kp.alloc _ _).trans (Kp.alloc _ _))
theorem in_small (z : Int) (h : 0 ≤ z ∧ z ≤ 100) : In64 z := ⟨by omega, by omega⟩
theorem begW_is (w : World) : Is (begW w) b0 (some ⟨w.heap.size + 1, 0, none⟩) := by
  obtain ⟨h0, h1, _⟩ := begW_heap w
  have k1 : b1.at (begW w) w.heap.size 0 := by
    rw [at_iff3]
    exact ⟨by simp [World.cell?, h0, b1], by simp [World.cell?, h0, b1], none, 0, by simp [World.cell?, h0, b1], Is.leaf3 _ _ _ (in_small _ (by decide)) (in_small _ (by decide)) _⟩
  have k2 : b2.at (begW w) (w.heap.size + 1) 0 := by
    rw [at_iff3]
    refine ⟨by simp [World.cell?, h1, b2], by simp [World.cell?, h1, b2], some ⟨w.heap.size, 0, none⟩, 1, by simp [World.cell?, h1, b2], ⟨in_small _ (by decide), in_small _ (by decide)⟩, fun i hi => ?_⟩
    obtain rfl : i = 0 := by simp [b2] at hi; omega
    exact ⟨w.heap.size, 0, rfl, by simpa [b2] using k1⟩
  have k3 : b3.at (begW w) (w.heap.size + 1) 3 := by
    rw [at_iff3]
    exact ⟨by simp [World.cell?, h1, b3], by simp [World.cell?, h1, b3], none, 0, by simp [World.cell?, h1, b3], Is.leaf3 _ _ _ (in_small _ (by decide)) (in_small _ (by decide)) _⟩
  refine ⟨⟨in_small _ (by decide), in_small _ (by decide)⟩, fun i hi => ?_⟩
  have hi2 : i < 2 := by simpa [b0] using hi
  match i, hi2 with
  | 0, _ => exact ⟨w.heap.size + 1, 0, rfl, by simpa [b0] using k2⟩
  | 1, _ => exact ⟨w.heap.size + 1, 0, rfl, by simpa [b0] using k3⟩
theorem beg_cells {w w' : World} (q : Quiet (begW w) w') : w'.cell? ⟨w.heap.size + 2, 0, none⟩ = some (.int .i64 2) ∧ w'.cell? ⟨w.heap.size + 2, 1, none⟩ = some (.int .i64 0) ∧ w'.cell? ⟨w.heap.size + 2, 2, none⟩ = some (.slice (some ⟨w.heap.size + 1, 0, none⟩) 2 2) := by
  have h := (q.block _ (lt_of_block (begW_heap w).2.2) fun e => e).trans (begW_heap w).2.2
  exact box_cells h
set_option maxHeartbeats 4000000 in
theorem begun_any (w : World) (ht : Tab w) : Calls Tryd.prog 6 #[] w fun e w' => e = .returned (.bool true) ∧ Quiet w w' := by
  have HI := hid (begW_is w)
  have HT := hid (ht.quiet (begW_quiet w))
  have sAll := hid (fun (w' : World) (hq : Quiet (begW w) w') => beg_cells hq)
  have hW := hid (show begW w = ((w.alloc (.cells #[.int .i64 4, .int .i64 7, .slice none 0 0] 24)).alloc (.cells #[.int .i64 3, .int .i64 2, .slice (some ⟨w.heap.size, 0, none⟩) 1 1, .int .i64 5, .int .i64 1, .slice none 0 0] 24)).alloc (.cells #[.int .i64 2, .int .i64 0, .slice (some ⟨w.heap.size + 1, 0, none⟩) 2 2] 24) from rfl)
  go_enter Tryd.func6, Tryd.ntmps6
  go_wp2
  rw [← hW.out]
  generalize hB : begW w = W at *
  have HQ := hid (show Quiet w W by rw [← hB]; exact begW_quiet w)
  clear hB hW
  go_region_held3 (fun w' => w'.cell? ⟨w.heap.size + 2, 0, none⟩ = some (.int .i64 2) ∧ w'.cell? ⟨w.heap.size + 2, 1, none⟩ = some (.int .i64 0) ∧ w'.cell? ⟨w.heap.size + 2, 2, none⟩ = some (.slice (some ⟨w.heap.size + 1, 0, none⟩) 2 2)) ((refine sAll.out _ ?_; first | assumption | exact Kp.drew _))
    (first
      | (have := q7; go_at_call 9; refine (check_any bN none 0 _ (Is.leaf3 _ _ _ (in_small _ (by decide)) (in_small _ (by decide)) _) (by simp [bN, size_mk, sizes_nil])).mono ?_; rintro e w8 ⟨rfl, q8⟩; rw [bN_check]; replace q8 : Quiet W w8 := q7.trans q8)
      | (go_at_call 11; refine (sameV_any b0 b0 a6 (some ⟨w.heap.size + 1, 0, none⟩) c6 2 _ i6 (HI.out.quiet q6) (by rw [b0_size]; decide)).mono ?_; rintro e w7 ⟨rfl, q7⟩; rw [same_refl]; replace q7 : Quiet W w7 := q6.trans q7)
      | (go_at_call 13; refine (ownV_any b0 (some ⟨w.heap.size + 1, 0, none⟩) 2 _ (HI.out.quiet q5) (by rw [b0_size]; decide)).mono ?_; rintro e w6 ⟨a6, c6, rfl, i6, q6⟩; replace q6 : Quiet W w6 := q5.trans q6)
      | (go_at_call 17; refine (gates_any b0 (some ⟨w.heap.size + 1, 0, none⟩) 2 _ (HI.out.quiet q4) b0_check).mono ?_; rintro e w5 ⟨rfl, q5⟩; rw [b0_gate]; replace q5 : Quiet W w5 := q4.trans q5)
      | (go_at_call 15; refine (caps_any b0 (some ⟨w.heap.size + 1, 0, none⟩) 2 _ (HI.out.quiet q3) b0_check).mono ?_; rintro e w4 ⟨v4, rfl, r4, q4, _⟩; replace q4 : Quiet W w4 := q3.trans q4; rw [b0_caps] at r4; obtain ⟨a4, c4, rfl⟩ := owns_shape r4; clear r4)
      | (go_at_call 19; refine (text_any b0 (some ⟨w.heap.size + 1, 0, none⟩) 2 _ (HT.out.quiet q2) (HI.out.quiet q2) b0_check).mono ?_; rintro e w3 ⟨rfl, q3⟩; rw [b0_text]; replace q3 : Quiet W w3 := q2.trans q3)
      | (go_at_call 9; refine (check_any b0 (some ⟨w.heap.size + 1, 0, none⟩) 2 _ (HI.out.quiet (Kp.drew _)) (by rw [b0_size]; decide)).mono ?_; rintro e w2 ⟨rfl, q2⟩; rw [b0_check]; replace q2 : Quiet W w2 := (Kp.drew W).trans q2))
  go_wp2
  go_ret
  exact ⟨rfl, HQ.out.trans q8⟩
end Go.Proofs.YtekkecnhnaejlabDoor
