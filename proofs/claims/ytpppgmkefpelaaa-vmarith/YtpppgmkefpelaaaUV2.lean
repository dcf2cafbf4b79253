/- The contracts of Check, Caps and Gates. The document's own answer: a value in memory of its own. The document's own answer: how many, as far as one too many. The elder words for what lies in memory. The document's own answers: how many parts (as far as one too many), the first fault. -/
import Derived.Test.YtpppgmkefpelaaaUV0
import Derived.Test.YtpppgmkefpelaaaUV1
import Derived.Deep.RegionLaw
import Derived.Laws.ResultCell
namespace Go.Proofs.Ytpppgmkefpelaaa
open Go.ChangeShapes Go.WideShapes Go.ChangeAt Go.RowKit
/-- One thing in a row of its own. -/
theorem fo_single {w : World} {b : Nat} {v : V} {ao : Option Addr} {cap : Nat} (h : w.heap[b]? = some (.cells #[.int .i64 v.kind, .int .i64 v.n, .slice ao v.l.length cap] 40 (0, 0))) (hI : Is w v ao) : Fo w [v] (some ⟨b, 0, none⟩) := by
  intro i hi
  obtain rfl : i = 0 := by simp at hi; omega
  refine ⟨b, 0, rfl, ?_⟩
  obtain ⟨h0, h1, h2⟩ := box_cells h
  exact (at_iff _ _ _ _).2 ⟨⟨h0, h1⟩, ao, cap, h2, hI⟩
theorem check_any (v : V) (ao : Option Addr) (cap : Nat) (w : World) (hI : Is w v ao) (hS : v.size ≤ 500) :
    Calls Try.prog 24 #[.agg #[.int .i64 v.kind, .int .i64 v.n, .slice ao v.l.length cap]] w fun e w' => e = .returned (.int .i64 v.check) ∧ Quiet w w' := by
  have q1 : Quiet w ((w.alloc (.cells #[.int .i64 v.kind, .int .i64 v.n, .slice ao v.l.length cap] 40)).alloc (.cells #[.int .i64 v.kind, .int .i64 v.n, .slice ao v.l.length cap] 40)) := (Kp.alloc _ _).trans (Kp.alloc _ _)
  have hb0 : ((w.alloc (.cells #[.int .i64 v.kind, .int .i64 v.n, .slice ao v.l.length cap] 40)).alloc (.cells #[.int .i64 v.kind, .int .i64 v.n, .slice ao v.l.length cap] 40)).heap[w.heap.size]? = some (.cells #[.int .i64 v.kind, .int .i64 v.n, .slice ao v.l.length cap] 40 (0, 0)) := by
    rw [Below.heap_alloc _ _ _ (by simp)]; exact heap_alloc_new w _
  have hm := hid (more_any [v] (some ⟨w.heap.size + 1, 0, none⟩) 1 40 _ (fo_single (heap_two w _ _) (hI.quiet q1)) (by rw [sizes_one]; omega) (by decide))
  rw [List.length_singleton, sizes_one] at hm
  by_cases hb : 40 < v.size
  · have hE := hid (show v.check = 3 by unfold V.check; rw [if_pos hb])
    have hd := hid (show decide (40 < v.size) = true by simpa using hb)
    clear hb
    go_enter Try.func24, Try.ntmps24
    go_wp2_with (go_at_call 35; refine hm.out.mono ?_; rintro e w2 ⟨rfl, q2⟩; rw [hd.out])
    go_ret
    exact ⟨by rw [hE.out]; rfl, q1.trans q2⟩
  · have hE := hid (show v.check = v.fault by unfold V.check; rw [if_neg hb])
    have hd := hid (show decide (40 < v.size) = false by simpa using hb)
    clear hb
    have hs := hid (fun w2 (q2 : Quiet w w2) => searchC_any v ao cap w2.heap.size 0 w (w2.alloc (.cells #[.int .i64 0] 3)) (q2.trans (Kp.alloc _ _)).low hI hS q2.size (heap_alloc_new w2 _))
    go_enter Try.func24, Try.ntmps24
    go_wp2_with (first
      | (go_at_call 37; refine (hs.out w2 q12).mono ?_; rintro e w3 ⟨⟨r, rfl⟩, hb3, q3⟩; have c3 := cell_of_one hb3)
      | (go_at_call 35; refine hm.out.mono ?_; rintro e w2 ⟨rfl, q2⟩; rw [hd.out]; have q12 := q1.trans q2; obtain ⟨c0, c1, c2⟩ := box_cells ((q2.block _ (lt_of_block hb0) (fun e => e)).trans hb0); have z2 : w.heap.size < w2.heap.size := (by have := q2.size; simp at this; omega)))
    go_ret
    exact ⟨by rw [hE.out]; rfl, quiet_of q3⟩
theorem gates_any (v : V) (ao : Option Addr) (cap : Nat) (w : World) (hI : Is w v ao) (hC : v.check = 0) :
    Calls Try.prog 94 #[.agg #[.int .i64 v.kind, .int .i64 v.n, .slice ao v.l.length cap]] w fun e w' => e = .returned (.bool v.gate) ∧ Quiet w w' := by
  have q1 : Quiet w (w.alloc (.cells #[.int .i64 v.kind, .int .i64 v.n, .slice ao v.l.length cap] 40)) := Kp.alloc _ _
  have hS : v.size ≤ 500 := by have := check_size hC; omega
  have hm := hid (check_any v ao cap _ (hI.quiet q1) hS)
  have hs := hid (fun w2 (q2 : Quiet w w2) => searchG_any v ao cap w w2 q2.low hI hS)
  have HC := hid hC
  clear hC
  go_enter Try.func94, Try.ntmps94
  go_wp2_with (first
    | (go_at_call 37; refine (hs.out w2 q12).mono ?_; rintro e w3 ⟨rfl, q3⟩)
    | (go_at_call 24; refine hm.out.mono ?_; rintro e w2 ⟨rfl, q2⟩; rw [HC.out]; have q12 := q1.trans q2; have c0 : w2.cell? ⟨w.heap.size, 0, none⟩ = some (.int .i64 v.kind) := q2.cell (by simp) (fun e => e); have c1 : w2.cell? ⟨w.heap.size, 1, none⟩ = some (.int .i64 v.n) := q2.cell (by simp) (fun e => e); have c2 : w2.cell? ⟨w.heap.size, 2, none⟩ = some (.slice ao v.l.length cap) := q2.cell (by simp) (fun e => e)))
  go_ret
  exact ⟨by rfl, quiet_of q3⟩
theorem caps_any (v : V) (ao : Option Addr) (cap : Nat) (w : World) (hI : Is w v ao) (hC : v.check = 0) :
    Calls Try.prog 95 #[.agg #[.int .i64 v.kind, .int .i64 v.n, .slice ao v.l.length cap]] w fun e w' => ∃ sv, e = .returned sv ∧ w'.ownsRow w.heap.size 3 1 sv v.caps.length (ints v.caps) ∧ Quiet w w' ∧ (v.caps = [] → sv = .slice none 0 0) := by
  have q1 : Quiet w (w.alloc (.cells #[.int .i64 v.kind, .int .i64 v.n, .slice ao v.l.length cap] 40)) := Kp.alloc _ _
  have hS : v.size ≤ 500 := by have := check_size hC; omega
  have hm := hid (check_any v ao cap _ (hI.quiet q1) hS)
  have hs := hid (fun w2 (q2 : Quiet w w2) => searchP_any v ao cap w2.heap.size (.slice none 0 0) w (w2.alloc (.cells #[.slice none 0 0] 148)) (q2.trans (Kp.alloc _ _)).low hI hS ⟨heap_alloc_new w2 _, World.ownsRow_nil _ _ _ _, by simp [Value.ownBlock], q2.size, fun _ => rfl⟩)
  have HC := hid hC
  clear hC
  go_enter Try.func95, Try.ntmps95
  go_wp2_with (first
    | (go_at_call 37; refine (hs.out w2 q12).mono ?_; rintro e w3 ⟨rfl, ⟨sv3, hb3⟩, q3⟩; have c3 := cell_of_one hb3.obj; obtain ⟨av, cv, hav⟩ := owns_shape hb3.row; subst hav; have HB3 := hid hb3; clear hb3)
    | (go_at_call 24; refine hm.out.mono ?_; rintro e w2 ⟨rfl, q2⟩; rw [HC.out]; have q12 := q1.trans q2; have c0 : w2.cell? ⟨w.heap.size, 0, none⟩ = some (.int .i64 v.kind) := q2.cell (by simp) (fun e => e); have c1 : w2.cell? ⟨w.heap.size, 1, none⟩ = some (.int .i64 v.n) := q2.cell (by simp) (fun e => e); have c2 : w2.cell? ⟨w.heap.size, 2, none⟩ = some (.slice ao v.l.length cap) := q2.cell (by simp) (fun e => e); have z2 : w.heap.size < w2.heap.size := (by have := q2.size; simp at this; omega)))
  go_ret
  exact ⟨_, rfl, HB3.out.row, quiet_of q3, HB3.out.nil⟩
end Go.Proofs.Ytpppgmkefpelaaa
namespace Go.Proofs.Ytpppgmkefpelaaa
open Go.ChangeShapes Go.WideShapes Go.ChangeAt Go.RowKit
end Go.Proofs.Ytpppgmkefpelaaa
namespace Go.Proofs.Ytpppgmkefpelaaa
open Go.ChangeShapes Go.WideShapes Go.ChangeAt Go.RowKit
end Go.Proofs.Ytpppgmkefpelaaa
namespace Go.Proofs.Ytpppgmkefpelaaa
open Go.ChangeShapes Go.WideShapes Go.ChangeAt Go.RowKit
end Go.Proofs.Ytpppgmkefpelaaa
namespace Go.Proofs.Ytpppgmkefpelaaa
open Go.ChangeShapes Go.WideShapes Go.ChangeAt Go.RowKit
end Go.Proofs.Ytpppgmkefpelaaa
