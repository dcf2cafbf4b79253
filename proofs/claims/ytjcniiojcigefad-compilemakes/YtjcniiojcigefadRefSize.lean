/- The document's own answer: how many, as far as one too many. -/
import Derived.Test.YtjcniiojcigefadKit
namespace Go.Proofs.Ytjcniiojcigefad
open Go.ChangeShapes Go.WideShapes Go.ChangeAt Go.RowKit
set_option maxRecDepth 8000 in
set_option maxHeartbeats 1000000 in
theorem size_any (f : Nat) : ∀ (v : V) (ao : Option Addr) (cap most : Nat) (w : World), most < f → most ≤ 1000 → Is w v ao →
    Calls Try.prog 12 #[.agg #[.int .i64 v.kind, .int .i64 v.k, .int .i64 v.n, .slice ao v.l.length cap], .int .i64 most] w fun e w' => ∃ r : Nat, e = .returned (.int .i64 r) ∧ 1 ≤ r ∧ r ≤ most + 1 ∧ (v.size ≤ most → r = v.size) ∧ (most < v.size → r = most + 1) ∧ Quiet w w' := by
  induction f with
  | zero => intro v ao cap most w h; omega
  | succ f ih =>
    intro v ao cap most w hf hm hI
    have hS := hid (size_eq v)
    go_enter Try.func12, Try.ntmps12
    go_wp2
    go_loopw [5, 6] (fun n i wr => ∃ (r j : Nat), n = .int .i64 r ∧ i = .int .i64 j ∧ j ≤ v.l.length ∧ j + 1 ≤ r ∧ r ≤ most + 1 ∧ (r ≤ most → r = 1 + sizes (v.l.take j)) ∧ (most < r → most < 1 + sizes (v.l.take j)) ∧ Quiet w wr ∧ wr.heap[w.heap.size]? = some (.cells #[.int .i64 v.kind, .int .i64 v.k, .int .i64 v.n, .slice ao v.l.length cap] 38 (0, 0))) (fun _ i _ => v.l.length - (intOf i).toNat)
    case atStart => exact ⟨1, 0, rfl, rfl, Nat.zero_le _, Nat.le_refl _, by omega, by simp [sizes_nil], by simp [sizes_nil], Kp.alloc _ _, heap_alloc_new w _⟩
    case round =>
      obtain ⟨r, j, rfl, rfl, hj, h1, h2, h3, h4, q, hb⟩ := hrel
      obtain ⟨c0, c9, c1, c2⟩ := box_cells hb
      have HB := hid hb
      clear hb c0 c9 c1
      by_cases hlt : j < v.l.length
      · by_cases hr : r ≤ most
        · have hr' : (r : Int) ≤ (most : Int) := by omega
          obtain ⟨b, off, rfl, dh, ai, ci, d2, hi⟩ := (hI.quiet q).get j hlt
          obtain ⟨d0, d9, d1⟩ := dh
          have HT := hid (And.intro (sizes_take v.l j hlt) (h3 hr))
          have HIH := hid (ih v.l[j] ai ci (most - r) wr (by omega) (by omega) hi)
          rw [show ((most - r : Nat) : Int) = (most : Int) - (r : Int) by omega] at HIH
          clear h3 h4
          generalize hu : v.l[j] = u at *
          clear hu hi hI
          go_wp2_with (go_at_call 12; refine HIH.out.mono ?_; rintro e w3 ⟨r2, rfl, k1, k2, k3, k4, q3⟩)
          refine ⟨⟨r + r2, j + 1, by go_num, by go_num, by omega, by omega, by omega, ?_, ?_, q.trans q3, (q3.block _ (lt_of_block HB.out) fun e => e).trans HB.out⟩, by simp [intOf]; omega⟩
          · intro h; have h5 := HT.out; omega
          · intro h; have h5 := HT.out; omega
        · have hr' : decide ((r : Int) ≤ (most : Int)) = false := by simp; omega
          have H := hid (And.intro (h4 (by omega)) (sizes_take_le v.l j))
          clear h3 h4
          go_wp2
          go_ret
          exact ⟨r, rfl, by omega, h2, fun h => by have h5 := H.out; have := hS.out; omega, fun h => by omega, q⟩
      · have hjl : j = v.l.length := by omega
        have hd : decide ((j : Int) < (v.l.length : Int)) = false := by simp; omega
        have H := hid (And.intro h3 h4)
        rw [hjl, List.take_length] at H
        clear h3 h4
        go_wp2
        go_ret
        exact ⟨r, rfl, by omega, h2, fun h => by have h5 := H.out; have := hS.out; omega, fun h => by have h5 := H.out; have := hS.out; omega, q⟩
end Go.Proofs.Ytjcniiojcigefad
