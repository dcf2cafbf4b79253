/- The document's own answer: how many, as far as one too many. The elder words for what lies in memory. -/
import Derived.Test.YtclkaamcoicgcaeJBase
import Derived.Test.YtclkaamcoicgcaeTell4
import Derived.Test.YtclkaamcoicgcaeRefOwn
namespace Go.Proofs.Ytclkaamcoicgcae
open Go.ChangeShapes Go.WideShapes Go.ChangeAt Go.RowKit
set_option maxRecDepth 8000 in
set_option maxHeartbeats 1000000 in
theorem size_any (f : Nat) : ∀ (v : V) (ao : Option Addr) (cap most : Nat) (w : World), most < f → most ≤ 1000 → Is w v ao →
    Calls Try.prog 27 #[.agg #[.int .i64 v.kind, .int .i64 v.n, .slice ao v.l.length cap], .int .i64 most] w fun e w' => ∃ r : Nat, e = .returned (.int .i64 r) ∧ 1 ≤ r ∧ r ≤ most + 1 ∧ (v.size ≤ most → r = v.size) ∧ (most < v.size → r = most + 1) ∧ Quiet w w' := by
  induction f with
  | zero => intro v ao cap most w h; omega
  | succ f ih =>
    intro v ao cap most w hf hm hI
    have hS := hid (size_eq v)
    go_enter Try.func27, Try.ntmps27
    go_wp2
    go_loopw [5, 6] (fun n i wr => ∃ (r j : Nat), n = .int .i64 r ∧ i = .int .i64 j ∧ j ≤ v.l.length ∧ j + 1 ≤ r ∧ r ≤ most + 1 ∧ (r ≤ most → r = 1 + sizes (v.l.take j)) ∧ (most < r → most < 1 + sizes (v.l.take j)) ∧ Quiet w wr ∧ wr.heap[w.heap.size]? = some (.cells #[.int .i64 v.kind, .int .i64 v.n, .slice ao v.l.length cap] 25 (0, 0))) (fun _ i _ => v.l.length - (intOf i).toNat)
    case atStart => exact ⟨1, 0, rfl, rfl, Nat.zero_le _, Nat.le_refl _, by omega, by simp [sizes_nil], by simp [sizes_nil], Kp.alloc _ _, heap_alloc_new w _⟩
    case round =>
      obtain ⟨r, j, rfl, rfl, hj, h1, h2, h3, h4, q, hb⟩ := hrel
      obtain ⟨c0, c1, c2⟩ := box_cells hb
      have HB := hid hb
      clear hb c0 c1
      by_cases hlt : j < v.l.length
      · by_cases hr : r ≤ most
        · have hr' : (r : Int) ≤ (most : Int) := by omega
          obtain ⟨b, off, rfl, dh, ai, ci, d2, hi⟩ := (hI.quiet q).get j hlt
          obtain ⟨d0, d1⟩ := dh
          have HT := hid (And.intro (sizes_take v.l j hlt) (h3 hr))
          have HIH := hid (ih v.l[j] ai ci (most - r) wr (by omega) (by omega) hi)
          rw [show ((most - r : Nat) : Int) = (most : Int) - (r : Int) by omega] at HIH
          clear h3 h4
          generalize hu : v.l[j] = u at *
          clear hu hi hI
          go_wp2_with (go_at_call 27; refine HIH.out.mono ?_; rintro e w3 ⟨r2, rfl, k1, k2, k3, k4, q3⟩)
          refine ⟨⟨r + r2, j + 1, by go_num, by go_num, by omega, by omega, by omega, ?_, ?_, q.trans q3, (q3.block _ (lt_of_block HB.out) fun e => e).trans HB.out⟩, by simp [intOf]; omega⟩
          · intro h; have h5 := HT.out; omega
          · intro h; have h5 := HT.out; omega
        · have hr' : decide ((r : Int) ≤ (most : Int)) = false := by simp; omega
          have H := hid (And.intro (h4 (by omega)) (sizes_take_le v.l j))
          clear h3 h4
          go_wp2
          go_ret
          exact ⟨r, rfl, by omega, h2, fun h => by have h5 := H.out; have := hS.out; omega, fun h => by omega, q⟩
      · have hjl : j = v.l.length := by omega
        have hd : decide ((j : Int) < (v.l.length : Int)) = false := by simp; omega
        have H := hid (And.intro h3 h4)
        rw [hjl, List.take_length] at H
        clear h3 h4
        go_wp2
        go_ret
        exact ⟨r, rfl, by omega, h2, fun h => by have h5 := H.out; have := hS.out; omega, fun h => by have h5 := H.out; have := hS.out; omega, q⟩
end Go.Proofs.Ytclkaamcoicgcae
namespace Go.Proofs.Ytclkaamcoicgcae
open Go.ChangeShapes Go.WideShapes Go.ChangeAt Go.RowKit
theorem Is.get3 {w : World} {v : V} {ao : Option Addr} (h : Is w v ao) (i : Nat) (hi : i < v.l.length) :
    ∃ b off, ao = some ⟨b, off, none⟩ ∧ w.cell? ⟨b, off + i * 3, none⟩ = some (.int .i64 v.l[i].kind) ∧ w.cell? ⟨b, off + i * 3 + 1, none⟩ = some (.int .i64 v.l[i].n) ∧ ∃ ai cap, w.cell? ⟨b, off + i * 3 + 2, none⟩ = some (.slice ai v.l[i].l.length cap) ∧ Is w v.l[i] ai := by
  obtain ⟨b, off, e, hh, ai, ci, cs, hI⟩ := h.get i hi
  exact ⟨b, off, e, hh.1, hh.2, ai, ci, cs, hI⟩
theorem at_iff3 (w : World) (v : V) (b off : Nat) : v.at w b off ↔ w.cell? ⟨b, off, none⟩ = some (.int .i64 v.kind) ∧ w.cell? ⟨b, off + 1, none⟩ = some (.int .i64 v.n) ∧ ∃ ao cap, w.cell? ⟨b, off + 2, none⟩ = some (.slice ao v.l.length cap) ∧ Is w v ao := by
  rw [at_iff]
  exact ⟨fun h => ⟨h.1.1, h.1.2, h.2⟩, fun h => ⟨⟨h.1, h.2.1⟩, h.2.2⟩⟩
theorem Is.leaf3 (w : World) (k n : Int) (hk : In64 k) (hn : In64 n) (ao : Option Addr) : Is w ⟨k, n, []⟩ ao := Is.leaf w ⟨k, n, []⟩ ⟨hk, hn⟩ rfl ao
theorem ownR5 (v : V) (ao : Option Addr) (cap : Nat) (w : World) (hI : Is w v ao) (hS : v.size ≤ 500) :
    Calls Try.prog 9 #[.agg #[.int .i64 v.kind, .int .i64 v.n, .slice ao v.l.length cap]] w fun e w' => ∃ ao' cap', e = .returned (.agg #[.int .i64 v.kind, .int .i64 v.n, .slice ao' v.l.length cap']) ∧ Hold w.heap.size none w' v ao' ∧ Quiet w w' := ownR_any v ao cap w hI (by omega)
end Go.Proofs.Ytclkaamcoicgcae
