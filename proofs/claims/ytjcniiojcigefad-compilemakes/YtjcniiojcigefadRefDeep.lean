/- The document's own answer: how deep, as far as one too deep. -/
import Derived.Test.YtjcniiojcigefadKit
namespace Go.Proofs.Ytjcniiojcigefad
open Go.ChangeShapes Go.WideShapes Go.ChangeAt Go.RowKit
set_option maxRecDepth 8000 in
set_option maxHeartbeats 2000000 in
theorem deep_any (f : Nat) : ∀ (v : V) (ao : Option Addr) (cap most : Nat) (w : World), most < f → most ≤ 1000 → v.size ≤ 20000 → Is w v ao →
    Calls Try.prog 19 #[.agg #[.int .i64 v.kind, .int .i64 v.k, .int .i64 v.n, .slice ao v.l.length cap], .int .i64 most] w fun e w' => ∃ r : Nat, e = .returned (.int .i64 r) ∧ r ≤ most + 1 ∧ (v.deep ≤ most → r = v.deep) ∧ (most < v.deep → r = most + 1) ∧ Quiet w w' := by
  induction f with
  | zero => intro v ao cap most w h; omega
  | succ f ih =>
    intro v ao cap most w hf hm hsz hI
    have hvl : v.l.length ≤ 20000 := by have := sizes_len v.l; have := size_eq v; omega
    have hS := hid (deep_eq v)
    go_enter Try.func19, Try.ntmps19
    go_wp2
    go_loopw [5, 6] (fun n i wr => ∃ (r j : Nat), n = .int .i64 r ∧ i = .int .i64 j ∧ j ≤ v.l.length ∧ r = min (deeps (v.l.take j)) (most + 1) ∧ Quiet w wr ∧ wr.heap[w.heap.size]? = some (.cells #[.int .i64 v.kind, .int .i64 v.k, .int .i64 v.n, .slice ao v.l.length cap] 38 (0, 0))) (fun _ i _ => v.l.length - (intOf i).toNat)
    case atStart => exact ⟨0, 0, rfl, rfl, Nat.zero_le _, by simp [deeps_nil], Kp.alloc _ _, heap_alloc_new w _⟩
    case round =>
      obtain ⟨r, j, rfl, rfl, hj, h1, q, hb⟩ := hrel
      obtain ⟨c0, c9, c1, c2⟩ := box_cells hb
      have HB := hid hb
      have hr5 : r ≤ most + 1 := by omega
      clear hb c0 c9 c1
      by_cases hlt : j < v.l.length
      · by_cases hr : r ≤ most
        · have hr' : (r : Int) ≤ (most : Int) := by omega
          obtain ⟨b, off, rfl, dh, ai, ci, d2, hi⟩ := (hI.quiet q).get j hlt
          obtain ⟨d0, d9, d1⟩ := dh
          have HT := hid (And.intro (deeps_take v.l j hlt) (And.intro (deep_eq v.l[j]) h1))
          by_cases hm0 : most = 0
          · have hm1 : ¬ (0 : Int) < (most : Int) := by omega
            have HM0 := hid hm0
            have hrz : r = 0 := by omega
            generalize hu : v.l[j] = u at *
            clear hu hi hI h1
            subst hm0
            subst hrz
            go_wp2
            refine ⟨⟨1, j + 1, rfl, by go_num, by omega, ?_, q, HB.out⟩, by simp [intOf]; omega⟩
            have h5 := HT.out; omega
          · have hm1 : (0 : Int) < (most : Int) := by omega
            have HIH := hid (ih v.l[j] ai ci (most - 1) wr (by omega) (by omega) (by have := size_get v.l j hlt; have := size_eq v; omega) hi)
            rw [show ((most - 1 : Nat) : Int) = (most : Int) - 1 by omega] at HIH
            clear h1
            generalize hu : v.l[j] = u at *
            clear hu hi hI
            by_cases hbig : r < 1 + min u.deep most
            · go_wp2_with (go_at_call 19; refine HIH.out.mono ?_; rintro e w3 ⟨r2, rfl, k1, k2, k3, q3⟩; have hr2 : r2 ≤ most := (by omega); have hgt : (r : Int) < 1 + (r2 : Int) := (by omega); have K2 := hid (And.intro k2 k3); clear k1 k2 k3)
              refine ⟨⟨1 + r2, j + 1, by go_num, by go_num, by omega, ?_, q.trans q3, (q3.block _ (lt_of_block HB.out) fun e => e).trans HB.out⟩, by simp [intOf]; omega⟩
              have h5 := HT.out; have h6 := K2.out; omega
            · go_wp2_with (go_at_call 19; refine HIH.out.mono ?_; rintro e w3 ⟨r2, rfl, k1, k2, k3, q3⟩; have hr2 : r2 ≤ most := (by omega); have hgt : ¬ (r : Int) < 1 + (r2 : Int) := (by omega); have K2 := hid (And.intro k2 k3); clear k1 k2 k3)
              refine ⟨⟨r, j + 1, rfl, by go_num, by omega, ?_, q.trans q3, (q3.block _ (lt_of_block HB.out) fun e => e).trans HB.out⟩, by simp [intOf]; omega⟩
              have h5 := HT.out; have h6 := K2.out; omega
        · have hr' : decide ((r : Int) ≤ (most : Int)) = false := by simp; omega
          have hr2 : ¬ (r : Int) ≤ (most : Int) := by omega
          have H := hid (And.intro h1 (deeps_take_le v.l j))
          clear h1
          go_wp2
          go_ret
          exact ⟨r, rfl, by omega, fun h => by have h5 := H.out; have := hS.out; omega, fun h => by have h5 := H.out; have := hS.out; omega, q⟩
      · have hjl : j = v.l.length := by omega
        have hd : decide ((j : Int) < (v.l.length : Int)) = false := by simp; omega
        have H := hid h1
        rw [hjl, List.take_length] at H
        clear h1
        go_wp2
        go_ret
        exact ⟨r, rfl, by omega, fun h => by have h5 := H.out; have := hS.out; omega, fun h => by have h5 := H.out; have := hS.out; omega, q⟩
end Go.Proofs.Ytjcniiojcigefad
