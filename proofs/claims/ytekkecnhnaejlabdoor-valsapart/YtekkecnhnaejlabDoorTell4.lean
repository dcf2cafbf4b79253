/- The contracts of Check, Caps, Gates, Own and Same. -/
import Derived.Test.YtekkecnhnaejlabDoorSearchG
import Derived.Test.YtekkecnhnaejlabDoorSearchC
import Derived.Test.YtekkecnhnaejlabDoorSearchP
import Derived.Test.YtekkecnhnaejlabDoorMore
import Derived.Test.YtekkecnhnaejlabDoorSameWalk
import Derived.Test.YtekkecnhnaejlabDoorOwnWalk
namespace Go.Proofs.YtekkecnhnaejlabDoor
open Go.ChangeShapes Go.WideShapes Go.ChangeAt Go.RowKit
/-- One thing in a row of its own. -/
theorem fo_single {w : World} {b : Nat} {v : V} {ao : Option Addr} {cap : Nat} (h : w.heap[b]? = some (.cells #[.int .i64 v.kind, .int .i64 v.n, .slice ao v.l.length cap] 24 (0, 0))) (hI : Is w v ao) : Fo w [v] (some ⟨b, 0, none⟩) := by
  intro i hi
  obtain rfl : i = 0 := by simp at hi; omega
  refine ⟨b, 0, rfl, ?_⟩
  obtain ⟨h0, h1, h2⟩ := box_cells h
  exact (at_iff _ _ _ _).2 ⟨⟨h0, h1⟩, ao, cap, h2, hI⟩
theorem check_any (v : V) (ao : Option Addr) (cap : Nat) (w : World) (hI : Is w v ao) (hS : v.size ≤ 500) :
    Calls Tryd.prog 9 #[.agg #[.int .i64 v.kind, .int .i64 v.n, .slice ao v.l.length cap]] w fun e w' => e = .returned (.int .i64 v.check) ∧ Quiet w w' := by
  have q1 : Quiet w ((w.alloc (.cells #[.int .i64 v.kind, .int .i64 v.n, .slice ao v.l.length cap] 24)).alloc (.cells #[.int .i64 v.kind, .int .i64 v.n, .slice ao v.l.length cap] 24)) := (Kp.alloc _ _).trans (Kp.alloc _ _)
  have hb0 : ((w.alloc (.cells #[.int .i64 v.kind, .int .i64 v.n, .slice ao v.l.length cap] 24)).alloc (.cells #[.int .i64 v.kind, .int .i64 v.n, .slice ao v.l.length cap] 24)).heap[w.heap.size]? = some (.cells #[.int .i64 v.kind, .int .i64 v.n, .slice ao v.l.length cap] 24 (0, 0)) := by
    rw [Below.heap_alloc _ _ _ (by simp)]; exact heap_alloc_new w _
  have hm := hid (more_any [v] (some ⟨w.heap.size + 1, 0, none⟩) 1 40 _ (fo_single (heap_two w _ _) (hI.quiet q1)) (by rw [sizes_one]; omega) (by decide))
  rw [List.length_singleton, sizes_one] at hm
  by_cases hb : 40 < v.size
  · have hE := hid (show v.check = 3 by unfold V.check; rw [if_pos hb])
    have hd := hid (show decide (40 < v.size) = true by simpa using hb)
    clear hb
    go_enter Tryd.func9, Tryd.ntmps9
    go_wp2_with (go_at_call 22; refine hm.out.mono ?_; rintro e w2 ⟨rfl, q2⟩; rw [hd.out])
    go_ret
    exact ⟨by rw [hE.out]; rfl, q1.trans q2⟩
  · have hE := hid (show v.check = v.fault by unfold V.check; rw [if_neg hb])
    have hd := hid (show decide (40 < v.size) = false by simpa using hb)
    clear hb
    have hs := hid (fun w2 (q2 : Quiet w w2) => searchC_any v ao cap w2.heap.size 0 w (w2.alloc (.cells #[.int .i64 0] 3)) (q2.trans (Kp.alloc _ _)).low hI hS q2.size (heap_alloc_new w2 _))
    go_enter Tryd.func9, Tryd.ntmps9
    go_wp2_with (first
      | (go_at_call 24; refine (hs.out w2 q12).mono ?_; rintro e w3 ⟨⟨r, rfl⟩, hb3, q3⟩; have c3 := cell_of_one hb3)
      | (go_at_call 22; refine hm.out.mono ?_; rintro e w2 ⟨rfl, q2⟩; rw [hd.out]; have q12 := q1.trans q2; obtain ⟨c0, c1, c2⟩ := box_cells ((q2.block _ (lt_of_block hb0) (fun e => e)).trans hb0); have z2 : w.heap.size < w2.heap.size := (by have := q2.size; simp at this; omega)))
    go_ret
    exact ⟨by rw [hE.out]; rfl, quiet_of q3⟩
theorem gates_any (v : V) (ao : Option Addr) (cap : Nat) (w : World) (hI : Is w v ao) (hC : v.check = 0) :
    Calls Tryd.prog 17 #[.agg #[.int .i64 v.kind, .int .i64 v.n, .slice ao v.l.length cap]] w fun e w' => e = .returned (.bool v.gate) ∧ Quiet w w' := by
  have q1 : Quiet w (w.alloc (.cells #[.int .i64 v.kind, .int .i64 v.n, .slice ao v.l.length cap] 24)) := Kp.alloc _ _
  have hS : v.size ≤ 500 := by have := check_size hC; omega
  have hm := hid (check_any v ao cap _ (hI.quiet q1) hS)
  have hs := hid (fun w2 (q2 : Quiet w w2) => searchG_any v ao cap w w2 q2.low hI hS)
  have HC := hid hC
  clear hC
  go_enter Tryd.func17, Tryd.ntmps17
  go_wp2_with (first
    | (go_at_call 24; refine (hs.out w2 q12).mono ?_; rintro e w3 ⟨rfl, q3⟩)
    | (go_at_call 9; refine hm.out.mono ?_; rintro e w2 ⟨rfl, q2⟩; rw [HC.out]; have q12 := q1.trans q2; have c0 : w2.cell? ⟨w.heap.size, 0, none⟩ = some (.int .i64 v.kind) := q2.cell (by simp) (fun e => e); have c1 : w2.cell? ⟨w.heap.size, 1, none⟩ = some (.int .i64 v.n) := q2.cell (by simp) (fun e => e); have c2 : w2.cell? ⟨w.heap.size, 2, none⟩ = some (.slice ao v.l.length cap) := q2.cell (by simp) (fun e => e)))
  go_ret
  exact ⟨by rfl, quiet_of q3⟩
theorem caps_any (v : V) (ao : Option Addr) (cap : Nat) (w : World) (hI : Is w v ao) (hC : v.check = 0) :
    Calls Tryd.prog 15 #[.agg #[.int .i64 v.kind, .int .i64 v.n, .slice ao v.l.length cap]] w fun e w' => ∃ sv, e = .returned sv ∧ w'.ownsRow w.heap.size 3 1 sv v.caps.length (ints v.caps) ∧ Quiet w w' ∧ (v.caps = [] → sv = .slice none 0 0) := by
  have q1 : Quiet w (w.alloc (.cells #[.int .i64 v.kind, .int .i64 v.n, .slice ao v.l.length cap] 24)) := Kp.alloc _ _
  have hS : v.size ≤ 500 := by have := check_size hC; omega
  have hm := hid (check_any v ao cap _ (hI.quiet q1) hS)
  have hs := hid (fun w2 (q2 : Quiet w w2) => searchP_any v ao cap w2.heap.size (.slice none 0 0) w (w2.alloc (.cells #[.slice none 0 0] 31)) (q2.trans (Kp.alloc _ _)).low hI hS ⟨heap_alloc_new w2 _, World.ownsRow_nil _ _ _ _, by simp [Value.ownBlock], q2.size, fun _ => rfl⟩)
  have HC := hid hC
  clear hC
  go_enter Tryd.func15, Tryd.ntmps15
  go_wp2_with (first
    | (go_at_call 24; refine (hs.out w2 q12).mono ?_; rintro e w3 ⟨rfl, ⟨sv3, hb3⟩, q3⟩; have c3 := cell_of_one hb3.obj; obtain ⟨av, cv, hav⟩ := owns_shape hb3.row; subst hav; have HB3 := hid hb3; clear hb3)
    | (go_at_call 9; refine hm.out.mono ?_; rintro e w2 ⟨rfl, q2⟩; rw [HC.out]; have q12 := q1.trans q2; have c0 : w2.cell? ⟨w.heap.size, 0, none⟩ = some (.int .i64 v.kind) := q2.cell (by simp) (fun e => e); have c1 : w2.cell? ⟨w.heap.size, 1, none⟩ = some (.int .i64 v.n) := q2.cell (by simp) (fun e => e); have c2 : w2.cell? ⟨w.heap.size, 2, none⟩ = some (.slice ao v.l.length cap) := q2.cell (by simp) (fun e => e); have z2 : w.heap.size < w2.heap.size := (by have := q2.size; simp at this; omega)))
  go_ret
  exact ⟨_, rfl, HB3.out.row, quiet_of q3, HB3.out.nil⟩
set_option maxHeartbeats 1000000 in
theorem sameV_any (v u : V) (va ua : Option Addr) (vc uc : Nat) (w : World) (hI : Is w v va) (hU : Is w u ua) (hS : v.size ≤ 500) :
    Calls Tryd.prog 11 #[.agg #[.int .i64 v.kind, .int .i64 v.n, .slice va v.l.length vc], .agg #[.int .i64 u.kind, .int .i64 u.n, .slice ua u.l.length uc]] w fun e w' => e = .returned (.bool (v.same u)) ∧ Quiet w w' := by
  obtain ⟨W, hW⟩ : ∃ W, W = (((w.alloc (.cells #[.int .i64 v.kind, .int .i64 v.n, .slice va v.l.length vc] 24)).alloc (.cells #[.int .i64 u.kind, .int .i64 u.n, .slice ua u.l.length uc] 24)).alloc (.cells #[.int .i64 v.kind, .int .i64 v.n, .slice va v.l.length vc] 24)).alloc (.cells #[.int .i64 u.kind, .int .i64 u.n, .slice ua u.l.length uc] 24) := ⟨_, rfl⟩
  have q4 : Quiet w W := by rw [hW]; exact (Kp.alloc _ _).trans ((Kp.alloc _ _).trans ((Kp.alloc _ _).trans (Kp.alloc _ _)))
  have b2 : W.heap[w.heap.size + 2]? = some (.cells #[.int .i64 v.kind, .int .i64 v.n, .slice va v.l.length vc] 24 (0, 0)) := by
    rw [hW, Below.heap_alloc _ _ _ (by simp)]
    have := heap_alloc_new ((w.alloc (.cells #[.int .i64 v.kind, .int .i64 v.n, .slice va v.l.length vc] 24)).alloc (.cells #[.int .i64 u.kind, .int .i64 u.n, .slice ua u.l.length uc] 24)) (.cells #[.int .i64 v.kind, .int .i64 v.n, .slice va v.l.length vc] 24); simpa using this
  have b3 : W.heap[w.heap.size + 3]? = some (.cells #[.int .i64 u.kind, .int .i64 u.n, .slice ua u.l.length uc] 24 (0, 0)) := by
    rw [hW]
    have := heap_alloc_new (((w.alloc (.cells #[.int .i64 v.kind, .int .i64 v.n, .slice va v.l.length vc] 24)).alloc (.cells #[.int .i64 u.kind, .int .i64 u.n, .slice ua u.l.length uc] 24)).alloc (.cells #[.int .i64 v.kind, .int .i64 v.n, .slice va v.l.length vc] 24)) (.cells #[.int .i64 u.kind, .int .i64 u.n, .slice ua u.l.length uc] 24); simpa using this
  have HO := hid (same_any [v] [u] (some ⟨w.heap.size + 2, 0, none⟩) (some ⟨w.heap.size + 3, 0, none⟩) 1 1 W (fo_single b2 (hI.quiet q4)) (fo_single b3 (hU.quiet q4)) (by rw [sizes_one]; omega))
  have hss : sames [v] [u] = v.same u := by rw [sames_cons]; simp [sames, V.same.sames]
  rw [hss, List.length_singleton, List.length_singleton, hW] at HO
  have HQ := hid q4
  rw [hW] at HQ
  clear b2 b3 q4 hW hI hU
  go_enter Tryd.func11, Tryd.ntmps11
  go_wp2_with (go_at_call 28; refine HO.out.mono ?_; rintro e w3 ⟨rfl, q3⟩)
  go_ret
  exact ⟨rfl, HQ.out.trans q3⟩
/-- What lies in an earlier world lies there without a block that was made since. -/
theorem cut_keep {w w2 : World} {r h : Nat} (q : Quiet w w2) (hh : w.heap.size ≤ h) (hr : w.heap.size ≤ r) : ∀ (a : Addr) (x : Value), w.cell? a = some x → (cutV r h w2).cell? a = some x := fun a x hc =>
  cutV_mk (q.cell hc fun e => e) (by have := World.block_lt_of_cell? w a hc; omega) (.inl (by have := World.block_lt_of_cell? w a hc; omega))
theorem keeps_kp {w w' : World} {r h : Nat} (q : Kp (fun k => k = r) w w') (hh : h ≤ w.heap.size) : Keeps r h w w' :=
  ⟨fun k hr hk => q.block k (by omega) hr, fun k _ _ hr e => (q.block k (lt_of_block e) hr).trans e⟩
set_option maxHeartbeats 1000000 in
theorem ownV_any (v : V) (ao : Option Addr) (cap : Nat) (w : World) (hI : Is w v ao) (hS : v.size ≤ 500) :
    Calls Tryd.prog 13 #[.agg #[.int .i64 v.kind, .int .i64 v.n, .slice ao v.l.length cap]] w fun e w' => ∃ ao' cap', e = .returned (.agg #[.int .i64 v.kind, .int .i64 v.n, .slice ao' v.l.length cap']) ∧ Is w' v ao' ∧ Quiet w w' := by
  obtain ⟨W, hW⟩ : ∃ W, W = ((w.alloc (.cells #[.int .i64 v.kind, .int .i64 v.n, .slice ao v.l.length cap] 24)).alloc (.cells #[.int .i64 0, .int .i64 0, .slice none 0 0] 24)).alloc (.cells #[.int .i64 v.kind, .int .i64 v.n, .slice ao v.l.length cap] 24) := ⟨_, rfl⟩
  have q3 : Quiet w W := by rw [hW]; exact (Kp.alloc _ _).trans ((Kp.alloc _ _).trans (Kp.alloc _ _))
  have sW : W.heap.size = w.heap.size + 3 := by rw [hW]; simp
  have b1 : W.heap[w.heap.size + 1]? = some (.cells #[.int .i64 0, .int .i64 0, .slice none 0 0] 24 (0, 0)) := by
    rw [hW, Below.heap_alloc _ _ _ (by simp)]; exact heap_two w _ _
  have b2 : W.heap[w.heap.size + 2]? = some (.cells #[.int .i64 v.kind, .int .i64 v.n, .slice ao v.l.length cap] 24 (0, 0)) := by
    rw [hW]; have := heap_alloc_new ((w.alloc (.cells #[.int .i64 v.kind, .int .i64 v.n, .slice ao v.l.length cap] 24)).alloc (.cells #[.int .i64 0, .int .i64 0, .slice none 0 0] 24)) (.cells #[.int .i64 v.kind, .int .i64 v.n, .slice ao v.l.length cap] 24); simpa using this
  have hF : Fo (cutV (w.heap.size + 1) W.heap.size W) [v] (some ⟨w.heap.size + 2, 0, none⟩) := by
    refine fo_single (ao := ao) (cap := cap) ?_ (hI.kept (cut_keep q3 (by omega) (by omega)))
    rw [cutV_old (by omega) (by omega)]; exact b2
  have HO := hid (own_any [v] (some ⟨w.heap.size + 2, 0, none⟩) 1 (w.heap.size + 1) W (by omega) hF (by rw [sizes_one]; omega))
  rw [List.length_singleton] at HO
  have HB := hid (And.intro q3 (And.intro sW b1))
  have HW := hid hW
  rw [hW] at HO
  clear b1 b2 hF q3 sW hW hI
  go_enter Tryd.func13, Tryd.ntmps13
  go_wp2_with (go_at_call 31; refine HO.out.mono ?_; rintro e w3 ⟨a3, c3, rfl, f3, q3⟩; rw [← HW.out] at f3 q3; obtain ⟨b, off, rfl, hh, ai, ci, cs, hci⟩ := f3.get 0 (by simp); simp only [List.getElem_cons_zero, Nat.zero_mul, Nat.add_zero] at hh cs hci; obtain ⟨d0, d1⟩ := head_kept (fun a x hc => (cutV_cell hc).1) hh; have ds := (cutV_cell cs).1; have hb3 := (q3.block _ (lt_of_block HB.out.2.2) (fun e => e)).trans HB.out.2.2; obtain ⟨r0, r1, rs⟩ := box_cells hb3; have f0 := frozen_of_row w3 (w.heap.size + 1) 0 _ 24 hb3; have f1 := frozen_of_row w3 (w.heap.size + 1) 1 _ 24 hb3; have f2 := frozen_of_row w3 (w.heap.size + 1) 2 _ 24 hb3; have HC := hid hci; clear hh cs hci f3 hb3)
  refine bodyPost_ret (v := .agg #[.int .i64 v.kind, .int .i64 v.n, .slice ai v.l.length ci]) (by simp [results, Tryd.results13, go_sem, r0, r1, rs]) rfl ?_
  have kset : ∀ (w : World) (b o : Nat) (y : Value), Kp (fun k => k = b) w (w.setCell ⟨b, o, none⟩ y) := fun w b o y => Kp.setCell w ⟨b, o, none⟩ y rfl
  have qz : Kp (fun k => k = w.heap.size + 1) w3 (((w3.setCell ⟨w.heap.size + 1, 0, none⟩ (.int .i64 v.kind)).setCell ⟨w.heap.size + 1, 1, none⟩ (.int .i64 v.n)).setCell ⟨w.heap.size + 1, 2, none⟩ (.slice ai v.l.length ci)) := ((kset _ _ _ _).trans (kset _ _ _ _)).trans (kset _ _ _ _)
  refine ⟨ai, ci, rfl, ?_, (HB.out.1.trans q3).fresh (qz.mono fun k _ e => by omega)⟩
  have h1 := HC.out.kept (keeps_kp qz (by have := q3.size; omega)).cell
  exact h1.kept fun a x hc => (cutV_cell hc).1
end Go.Proofs.YtekkecnhnaejlabDoor
