/- The contracts of Check, Caps and Gates. -/
import Derived.Test.YtegpnncmphhjjabDoorSearchP
import Derived.Test.YtegpnncmphhjjabDoorMore
namespace Go.Proofs.YtegpnncmphhjjabDoor
open Go.ChangeShapes Go.WideShapes Go.ChangeAt Go.RowKit
theorem check_any (v : V) (ao : Option Addr) (cap : Nat) (w : World) (hI : Is w v ao) (hS : v.size ≤ 500) :
    Calls Tryd.prog 9 #[.agg #[.int .i64 v.kind, .int .i64 v.n, .slice ao v.l.length cap]] w fun e w' => e = .returned (.int .i64 v.check) ∧ Quiet w w' := by
  have q1 : Quiet w (w.alloc (.cells #[.int .i64 v.kind, .int .i64 v.n, .slice ao v.l.length cap] 24)) := Kp.alloc _ _
  have hm := hid (more_any v ao cap 40 _ (hI.quiet q1) hS (by decide) (by decide))
  by_cases hb : 40 < v.size
  · have hE := hid (show v.check = 3 by unfold V.check; rw [if_pos hb])
    have hd := hid (show decide (40 < v.size) = true by simpa using hb)
    clear hb
    go_enter Tryd.func9, Tryd.ntmps9
    go_wp2_with (go_at_call 22; refine hm.out.mono ?_; rintro e w2 ⟨rfl, q2⟩; rw [hd.out])
    go_ret
    exact ⟨by rw [hE.out]; rfl, q1.trans q2⟩
  · have hE := hid (show v.check = v.fault by unfold V.check; rw [if_neg hb])
    have hd := hid (show decide (40 < v.size) = false by simpa using hb)
    clear hb
    have hs : ∀ w2, Quiet w w2 → Calls Tryd.prog 23 #[.agg #[.int .i64 v.kind, .int .i64 v.n, .slice ao v.l.length cap], .func (.func 24) #[] #[.pointer (some ⟨w2.heap.size, 0, none⟩)]] (w2.alloc (.cells #[.int .i64 0] 3)) fun e w' => e = .returned (.bool (v.fault != 0)) ∧ w'.heap[w2.heap.size]? = some (.cells #[.int .i64 v.fault] 3 (0, 0)) ∧ Kp (fun k => k = w2.heap.size) (w2.alloc (.cells #[.int .i64 0] 3)) w' :=
      fun w2 q2 => searchC_any w w2.heap.size q2.size v ao cap 0 _ hI hS (q2.trans (Kp.alloc _ _)).low (heap_alloc_new w2 _)
    go_enter Tryd.func9, Tryd.ntmps9
    go_wp2_with (first
      | (go_at_call 22; refine hm.out.mono ?_; rintro e w2 ⟨rfl, q2⟩; rw [hd.out]; have q12 := q1.trans q2; have c0 : w2.cell? ⟨w.heap.size, 0, none⟩ = some (.int .i64 v.kind) := q2.cell (by simp) (fun e => e); have c1 : w2.cell? ⟨w.heap.size, 1, none⟩ = some (.int .i64 v.n) := q2.cell (by simp) (fun e => e); have c2 : w2.cell? ⟨w.heap.size, 2, none⟩ = some (.slice ao v.l.length cap) := q2.cell (by simp) (fun e => e); have z2 : w.heap.size < w2.heap.size := by have := q2.size; simp at this; omega)
      | (go_at_call 23; refine (hs w2 q12).mono ?_; rintro e w3 ⟨rfl, hb3, q3⟩; have c3 := cell_of_one hb3))
    go_ret
    refine ⟨by rw [hE.out]; rfl, ?_⟩
    exact q12.fresh (((Kp.alloc _ _).trans q3).mono fun k _ e => by have := q12.size; omega)
theorem gates_any (v : V) (ao : Option Addr) (cap : Nat) (w : World) (hI : Is w v ao) (hC : v.check = 0) :
    Calls Tryd.prog 17 #[.agg #[.int .i64 v.kind, .int .i64 v.n, .slice ao v.l.length cap]] w fun e w' => e = .returned (.bool v.gate) ∧ Quiet w w' := by
  have q1 : Quiet w (w.alloc (.cells #[.int .i64 v.kind, .int .i64 v.n, .slice ao v.l.length cap] 24)) := Kp.alloc _ _
  have hS : v.size ≤ 500 := by have := check_size hC; omega
  have hm := hid (check_any v ao cap _ (hI.quiet q1) hS)
  have hs : ∀ w2, Quiet w w2 → _ := fun w2 q2 => searchG_any v ao cap w2 (hI.quiet q2) hS
  have HC := hid hC
  clear hC
  go_enter Tryd.func17, Tryd.ntmps17
  go_wp2_with (first
    | (go_at_call 9; refine hm.out.mono ?_; rintro e w2 ⟨rfl, q2⟩; rw [HC.out]; have q12 := q1.trans q2; have c0 : w2.cell? ⟨w.heap.size, 0, none⟩ = some (.int .i64 v.kind) := q2.cell (by simp) (fun e => e); have c1 : w2.cell? ⟨w.heap.size, 1, none⟩ = some (.int .i64 v.n) := q2.cell (by simp) (fun e => e); have c2 : w2.cell? ⟨w.heap.size, 2, none⟩ = some (.slice ao v.l.length cap) := q2.cell (by simp) (fun e => e))
    | (go_at_call 23; refine (hs w2 q12).mono ?_; rintro e w3 ⟨rfl, q3⟩))
  go_ret
  exact ⟨by rfl, q12.trans q3⟩
theorem caps_any (v : V) (ao : Option Addr) (cap : Nat) (w : World) (hI : Is w v ao) (hC : v.check = 0) :
    Calls Tryd.prog 15 #[.agg #[.int .i64 v.kind, .int .i64 v.n, .slice ao v.l.length cap]] w fun e w' => ∃ sv, e = .returned sv ∧ w'.ownsRow w.heap.size 3 1 sv v.caps.length (ints v.caps) ∧ Quiet w w' ∧ (v.caps = [] → sv = .slice none 0 0) := by
  have q1 : Quiet w (w.alloc (.cells #[.int .i64 v.kind, .int .i64 v.n, .slice ao v.l.length cap] 24)) := Kp.alloc _ _
  have hS : v.size ≤ 500 := by have := check_size hC; omega
  have hm := hid (check_any v ao cap _ (hI.quiet q1) hS)
  have hs : ∀ w2, Quiet w w2 → Calls Tryd.prog 23 #[.agg #[.int .i64 v.kind, .int .i64 v.n, .slice ao v.l.length cap], .func (.func 29) #[] #[.pointer (some ⟨w2.heap.size, 0, none⟩)]] (w2.alloc (.cells #[.slice none 0 0] 31)) fun e w' => e = .returned (.bool false) ∧ ∃ sv', CS w.heap.size w' w2.heap.size sv' ([] ++ v.caps) ∧ Below w.heap.size (w2.alloc (.cells #[.slice none 0 0] 31)) w' :=
    fun w2 q2 => searchP_any w w2.heap.size v ao cap (.slice none 0 0) [] _ hI (by simpa using hS) (q2.trans (Kp.alloc _ _)).low ⟨heap_alloc_new w2 _, World.ownsRow_nil _ _ _ _, by simp [Value.ownBlock], q2.size, fun _ => rfl⟩
  have HC := hid hC
  clear hC
  go_enter Tryd.func15, Tryd.ntmps15
  go_wp2_with (first
    | (go_at_call 9; refine hm.out.mono ?_; rintro e w2 ⟨rfl, q2⟩; rw [HC.out]; have q12 := q1.trans q2; have c0 : w2.cell? ⟨w.heap.size, 0, none⟩ = some (.int .i64 v.kind) := q2.cell (by simp) (fun e => e); have c1 : w2.cell? ⟨w.heap.size, 1, none⟩ = some (.int .i64 v.n) := q2.cell (by simp) (fun e => e); have c2 : w2.cell? ⟨w.heap.size, 2, none⟩ = some (.slice ao v.l.length cap) := q2.cell (by simp) (fun e => e); have z2 : w.heap.size < w2.heap.size := by have := q2.size; simp at this; omega)
    | (go_at_call 23; refine (hs w2 q12).mono ?_; rintro e w3 ⟨rfl, sv3, hb3, q3⟩; have c3 := cell_of_one hb3.obj; obtain ⟨av, cv, hav⟩ := owns_shape hb3.row; subst hav; have HB3 := hid hb3; clear hb3))
  go_ret
  refine ⟨_, rfl, ?_, quiet_of ((q12.low.trans ((Below.refl _ _).alloc q12.size _)).trans q3), ?_⟩
  · simpa using HB3.out.row
  · intro e; exact HB3.out.nil (by simpa using e)
end Go.Proofs.YtegpnncmphhjjabDoor
