/- Parts. -/
import Derived.Test.YtkpckmcaeljocaaGreatUV3
namespace Go.Proofs.YtkpckmcaeljocaaGreat
open Go.ChangeShapes Go.WideShapes Go.ChangeAt Go.RowKit
theorem fo_single {w : World} {b : Nat} {v : V} {ao : Option Addr} {cap : Nat} (h : w.heap[b]? = some (.cells #[.int .i64 v.kind, .int .i64 v.n, .slice ao v.l.length cap] 38 (0, 0))) (hI : Is w v ao) : Fo w [v] (some ⟨b, 0, none⟩) := by
  intro i hi
  obtain rfl : i = 0 := by simp at hi; omega
  refine ⟨b, 0, rfl, ?_⟩
  obtain ⟨h0, h1, h2⟩ := box_cells h
  exact (at_iff _ _ _ _).2 ⟨⟨h0, h1⟩, ao, cap, h2, hI⟩
theorem check_any (v : V) (ao : Option Addr) (cap : Nat) (w : World) (hI : Is w v ao) (hS : v.size ≤ 500) :
    Calls Tryz.prog 105 #[.agg #[.int .i64 v.kind, .int .i64 v.n, .slice ao v.l.length cap]] w fun e w' => e = .returned (.int .i64 v.check) ∧ Quiet w w' := by
  have q1 : Quiet w ((w.alloc (.cells #[.int .i64 v.kind, .int .i64 v.n, .slice ao v.l.length cap] 38)).alloc (.cells #[.int .i64 v.kind, .int .i64 v.n, .slice ao v.l.length cap] 38)) := (Kp.alloc _ _).trans (Kp.alloc _ _)
  have hb0 : ((w.alloc (.cells #[.int .i64 v.kind, .int .i64 v.n, .slice ao v.l.length cap] 38)).alloc (.cells #[.int .i64 v.kind, .int .i64 v.n, .slice ao v.l.length cap] 38)).heap[w.heap.size]? = some (.cells #[.int .i64 v.kind, .int .i64 v.n, .slice ao v.l.length cap] 38 (0, 0)) := by
    rw [Below.heap_alloc _ _ _ (by simp)]; exact heap_alloc_new w _
  have hm := hid (more_any [v] (some ⟨w.heap.size + 1, 0, none⟩) 1 40 _ (fo_single (heap_two w _ _) (hI.quiet q1)) (by rw [sizes_one]; omega) (by decide))
  rw [List.length_singleton, sizes_one] at hm
  by_cases hb : 40 < v.size
  · have hE := hid (show v.check = 3 by unfold V.check; rw [if_pos hb])
    have hd := hid (show decide (40 < v.size) = true by simpa using hb)
    clear hb
    go_enter Tryz.func105, Tryz.ntmps105
    go_wp2_with (go_at_call 125; refine hm.out.mono ?_; rintro e w2 ⟨rfl, q2⟩; rw [hd.out])
    go_ret
    exact ⟨by rw [hE.out]; rfl, q1.trans q2⟩
  · have hE := hid (show v.check = v.fault by unfold V.check; rw [if_neg hb])
    have hd := hid (show decide (40 < v.size) = false by simpa using hb)
    clear hb
    have hs := hid (fun w2 (q2 : Quiet w w2) => searchC_any v ao cap w2.heap.size 0 w (w2.alloc (.cells #[.int .i64 0] 3)) (q2.trans (Kp.alloc _ _)).low hI hS q2.size (heap_alloc_new w2 _))
    go_enter Tryz.func105, Tryz.ntmps105
    go_wp2_with (first
      | (go_at_call 127; refine (hs.out w2 q12).mono ?_; rintro e w3 ⟨⟨r, rfl⟩, hb3, q3⟩; have c3 := cell_of_one hb3)
      | (go_at_call 125; refine hm.out.mono ?_; rintro e w2 ⟨rfl, q2⟩; rw [hd.out]; have q12 := q1.trans q2; obtain ⟨c0, c1, c2⟩ := box_cells ((q2.block _ (lt_of_block hb0) (fun e => e)).trans hb0); have z2 : w.heap.size < w2.heap.size := (by have := q2.size; simp at this; omega)))
    go_ret
    exact ⟨by rw [hE.out]; rfl, quiet_of q3⟩
theorem gates_any (v : V) (ao : Option Addr) (cap : Nat) (w : World) (hI : Is w v ao) (hC : v.check = 0) :
    Calls Tryz.prog 185 #[.agg #[.int .i64 v.kind, .int .i64 v.n, .slice ao v.l.length cap]] w fun e w' => e = .returned (.bool v.gate) ∧ Quiet w w' := by
  have q1 : Quiet w (w.alloc (.cells #[.int .i64 v.kind, .int .i64 v.n, .slice ao v.l.length cap] 38)) := Kp.alloc _ _
  have hS : v.size ≤ 500 := by have := check_size hC; omega
  have hm := hid (check_any v ao cap _ (hI.quiet q1) hS)
  have hs := hid (fun w2 (q2 : Quiet w w2) => searchG_any v ao cap w w2 q2.low hI hS)
  have HC := hid hC
  clear hC
  go_enter Tryz.func185, Tryz.ntmps185
  go_wp2_with (first
    | (go_at_call 127; refine (hs.out w2 q12).mono ?_; rintro e w3 ⟨rfl, q3⟩)
    | (go_at_call 105; refine hm.out.mono ?_; rintro e w2 ⟨rfl, q2⟩; rw [HC.out]; have q12 := q1.trans q2; have c0 : w2.cell? ⟨w.heap.size, 0, none⟩ = some (.int .i64 v.kind) := q2.cell (by simp) (fun e => e); have c1 : w2.cell? ⟨w.heap.size, 1, none⟩ = some (.int .i64 v.n) := q2.cell (by simp) (fun e => e); have c2 : w2.cell? ⟨w.heap.size, 2, none⟩ = some (.slice ao v.l.length cap) := q2.cell (by simp) (fun e => e)))
  go_ret
  exact ⟨by rfl, quiet_of q3⟩
theorem caps_any (v : V) (ao : Option Addr) (cap : Nat) (w : World) (hI : Is w v ao) (hC : v.check = 0) :
    Calls Tryz.prog 186 #[.agg #[.int .i64 v.kind, .int .i64 v.n, .slice ao v.l.length cap]] w fun e w' => ∃ sv, e = .returned sv ∧ w'.ownsRow w.heap.size 3 1 sv v.caps.length (ints v.caps) ∧ Quiet w w' ∧ (v.caps = [] → sv = .slice none 0 0) := by
  have q1 : Quiet w (w.alloc (.cells #[.int .i64 v.kind, .int .i64 v.n, .slice ao v.l.length cap] 38)) := Kp.alloc _ _
  have hS : v.size ≤ 500 := by have := check_size hC; omega
  have hm := hid (check_any v ao cap _ (hI.quiet q1) hS)
  have hs := hid (fun w2 (q2 : Quiet w w2) => searchP_any v ao cap w2.heap.size (.slice none 0 0) w (w2.alloc (.cells #[.slice none 0 0] 130)) (q2.trans (Kp.alloc _ _)).low hI hS ⟨heap_alloc_new w2 _, World.ownsRow_nil _ _ _ _, by simp [Value.ownBlock], q2.size, fun _ => rfl⟩)
  have HC := hid hC
  clear hC
  go_enter Tryz.func186, Tryz.ntmps186
  go_wp2_with (first
    | (go_at_call 127; refine (hs.out w2 q12).mono ?_; rintro e w3 ⟨rfl, ⟨sv3, hb3⟩, q3⟩; have c3 := cell_of_one hb3.obj; obtain ⟨av, cv, hav⟩ := owns_shape hb3.row; subst hav; have HB3 := hid hb3; clear hb3)
    | (go_at_call 105; refine hm.out.mono ?_; rintro e w2 ⟨rfl, q2⟩; rw [HC.out]; have q12 := q1.trans q2; have c0 : w2.cell? ⟨w.heap.size, 0, none⟩ = some (.int .i64 v.kind) := q2.cell (by simp) (fun e => e); have c1 : w2.cell? ⟨w.heap.size, 1, none⟩ = some (.int .i64 v.n) := q2.cell (by simp) (fun e => e); have c2 : w2.cell? ⟨w.heap.size, 2, none⟩ = some (.slice ao v.l.length cap) := q2.cell (by simp) (fun e => e); have z2 : w.heap.size < w2.heap.size := (by have := q2.size; simp at this; omega)))
  go_ret
  exact ⟨_, rfl, HB3.out.row, quiet_of q3, HB3.out.nil⟩
set_option maxRecDepth 8000 in
set_option maxHeartbeats 1000000 in
theorem size_any (f : Nat) : ∀ (v : V) (ao : Option Addr) (cap most : Nat) (w : World), most < f → most ≤ 1000 → Is w v ao →
    Calls Tryz.prog 84 #[.agg #[.int .i64 v.kind, .int .i64 v.n, .slice ao v.l.length cap], .int .i64 most] w fun e w' => ∃ r : Nat, e = .returned (.int .i64 r) ∧ 1 ≤ r ∧ r ≤ most + 1 ∧ (v.size ≤ most → r = v.size) ∧ (most < v.size → r = most + 1) ∧ Quiet w w' := by
  induction f with
  | zero => intro v ao cap most w h; omega
  | succ f ih =>
    intro v ao cap most w hf hm hI
    have hS := hid (size_eq v)
    go_enter Tryz.func84, Tryz.ntmps84
    go_wp2
    go_loopw [5, 6] (fun n i wr => ∃ (r j : Nat), n = .int .i64 r ∧ i = .int .i64 j ∧ j ≤ v.l.length ∧ j + 1 ≤ r ∧ r ≤ most + 1 ∧ (r ≤ most → r = 1 + sizes (v.l.take j)) ∧ (most < r → most < 1 + sizes (v.l.take j)) ∧ Quiet w wr ∧ wr.heap[w.heap.size]? = some (.cells #[.int .i64 v.kind, .int .i64 v.n, .slice ao v.l.length cap] 38 (0, 0))) (fun _ i _ => v.l.length - (intOf i).toNat)
    case atStart => exact ⟨1, 0, rfl, rfl, Nat.zero_le _, Nat.le_refl _, by omega, by simp [sizes_nil], by simp [sizes_nil], Kp.alloc _ _, heap_alloc_new w _⟩
    case round =>
      obtain ⟨r, j, rfl, rfl, hj, h1, h2, h3, h4, q, hb⟩ := hrel
      obtain ⟨c0, c1, c2⟩ := box_cells hb
      have HB := hid hb
      clear hb c0 c1
      by_cases hlt : j < v.l.length
      · by_cases hr : r ≤ most
        · have hr' : (r : Int) ≤ (most : Int) := by omega
          obtain ⟨b, off, rfl, dh, ai, ci, d2, hi⟩ := (hI.quiet q).get j hlt
          obtain ⟨d0, d1⟩ := dh
          have HT := hid (And.intro (sizes_take v.l j hlt) (h3 hr))
          have HIH := hid (ih v.l[j] ai ci (most - r) wr (by omega) (by omega) hi)
          rw [show ((most - r : Nat) : Int) = (most : Int) - (r : Int) by omega] at HIH
          clear h3 h4
          generalize hu : v.l[j] = u at *
          clear hu hi hI
          go_wp2_with (go_at_call 84; refine HIH.out.mono ?_; rintro e w3 ⟨r2, rfl, k1, k2, k3, k4, q3⟩)
          refine ⟨⟨r + r2, j + 1, by go_num, by go_num, by omega, by omega, by omega, ?_, ?_, q.trans q3, (q3.block _ (lt_of_block HB.out) fun e => e).trans HB.out⟩, by simp [intOf]; omega⟩
          · intro h; have h5 := HT.out; omega
          · intro h; have h5 := HT.out; omega
        · have hr' : decide ((r : Int) ≤ (most : Int)) = false := by simp; omega
          have H := hid (And.intro (h4 (by omega)) (sizes_take_le v.l j))
          clear h3 h4
          go_wp2
          go_ret
          exact ⟨r, rfl, by omega, h2, fun h => by have h5 := H.out; have := hS.out; omega, fun h => by omega, q⟩
      · have hjl : j = v.l.length := by omega
        have hd : decide ((j : Int) < (v.l.length : Int)) = false := by simp; omega
        have H := hid (And.intro h3 h4)
        rw [hjl, List.take_length] at H
        clear h3 h4
        go_wp2
        go_ret
        exact ⟨r, rfl, by omega, h2, fun h => by have h5 := H.out; have := hS.out; omega, fun h => by have h5 := H.out; have := hS.out; omega, q⟩
end Go.Proofs.YtkpckmcaeljocaaGreat
