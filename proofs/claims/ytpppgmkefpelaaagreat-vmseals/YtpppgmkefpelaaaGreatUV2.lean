/- The contracts of Check, Caps and Gates. The document's own answer: a value in memory of its own. The document's own answer: how many, as far as one too many. The elder words for what lies in memory. The document's own answers: how many parts (as far as one too many), the first fault. -/
import Derived.Test.YtpppgmkefpelaaaGreatUV0
import Derived.Test.YtpppgmkefpelaaaGreatUV1
import Derived.Deep.RegionLaw
import Derived.Laws.ResultCell
namespace Go.Proofs.YtpppgmkefpelaaaGreat
open Go.ChangeShapes Go.WideShapes Go.ChangeAt Go.RowKit
/-- One thing in a row of its own. -/
theorem fo_single {w : World} {b : Nat} {v : V} {ao : Option Addr} {cap : Nat} (h : w.heap[b]? = some (.cells #[.int .i64 v.kind, .int .i64 v.n, .slice ao v.l.length cap] 24 (0, 0))) (hI : Is w v ao) : Fo w [v] (some ⟨b, 0, none⟩) := by
  intro i hi
  obtain rfl : i = 0 := by simp at hi; omega
  refine ⟨b, 0, rfl, ?_⟩
  obtain ⟨h0, h1, h2⟩ := box_cells h
  exact (at_iff _ _ _ _).2 ⟨⟨h0, h1⟩, ao, cap, h2, hI⟩
theorem check_any (v : V) (ao : Option Addr) (cap : Nat) (w : World) (hI : Is w v ao) (hS : v.size ≤ 500) :
    Calls Tryz.prog 6 #[.agg #[.int .i64 v.kind, .int .i64 v.n, .slice ao v.l.length cap]] w fun e w' => e = .returned (.int .i64 v.check) ∧ Quiet w w' := by
  have q1 : Quiet w ((w.alloc (.cells #[.int .i64 v.kind, .int .i64 v.n, .slice ao v.l.length cap] 24)).alloc (.cells #[.int .i64 v.kind, .int .i64 v.n, .slice ao v.l.length cap] 24)) := (Kp.alloc _ _).trans (Kp.alloc _ _)
  have hb0 : ((w.alloc (.cells #[.int .i64 v.kind, .int .i64 v.n, .slice ao v.l.length cap] 24)).alloc (.cells #[.int .i64 v.kind, .int .i64 v.n, .slice ao v.l.length cap] 24)).heap[w.heap.size]? = some (.cells #[.int .i64 v.kind, .int .i64 v.n, .slice ao v.l.length cap] 24 (0, 0)) := by
    rw [Below.heap_alloc _ _ _ (by simp)]; exact heap_alloc_new w _
  have hm := hid (more_any [v] (some ⟨w.heap.size + 1, 0, none⟩) 1 40 _ (fo_single (heap_two w _ _) (hI.quiet q1)) (by rw [sizes_one]; omega) (by decide))
  rw [List.length_singleton, sizes_one] at hm
  by_cases hb : 40 < v.size
  · have hE := hid (show v.check = 3 by unfold V.check; rw [if_pos hb])
    have hd := hid (show decide (40 < v.size) = true by simpa using hb)
    clear hb
    go_enter Tryz.func6, Tryz.ntmps6
    go_wp2_with (go_at_call 15; refine hm.out.mono ?_; rintro e w2 ⟨rfl, q2⟩; rw [hd.out])
    go_ret
    exact ⟨by rw [hE.out]; rfl, q1.trans q2⟩
  · have hE := hid (show v.check = v.fault by unfold V.check; rw [if_neg hb])
    have hd := hid (show decide (40 < v.size) = false by simpa using hb)
    clear hb
    have hs := hid (fun w2 (q2 : Quiet w w2) => searchC_any v ao cap w2.heap.size 0 w (w2.alloc (.cells #[.int .i64 0] 3)) (q2.trans (Kp.alloc _ _)).low hI hS q2.size (heap_alloc_new w2 _))
    go_enter Tryz.func6, Tryz.ntmps6
    go_wp2_with (first
      | (go_at_call 17; refine (hs.out w2 q12).mono ?_; rintro e w3 ⟨⟨r, rfl⟩, hb3, q3⟩; have c3 := cell_of_one hb3)
      | (go_at_call 15; refine hm.out.mono ?_; rintro e w2 ⟨rfl, q2⟩; rw [hd.out]; have q12 := q1.trans q2; obtain ⟨c0, c1, c2⟩ := box_cells ((q2.block _ (lt_of_block hb0) (fun e => e)).trans hb0); have z2 : w.heap.size < w2.heap.size := (by have := q2.size; simp at this; omega)))
    go_ret
    exact ⟨by rw [hE.out]; rfl, quiet_of q3⟩
theorem gates_any (v : V) (ao : Option Addr) (cap : Nat) (w : World) (hI : Is w v ao) (hC : v.check = 0) :
    Calls Tryz.prog 118 #[.agg #[.int .i64 v.kind, .int .i64 v.n, .slice ao v.l.length cap]] w fun e w' => e = .returned (.bool v.gate) ∧ Quiet w w' := by
  have q1 : Quiet w (w.alloc (.cells #[.int .i64 v.kind, .int .i64 v.n, .slice ao v.l.length cap] 24)) := Kp.alloc _ _
  have hS : v.size ≤ 500 := by have := check_size hC; omega
  have hm := hid (check_any v ao cap _ (hI.quiet q1) hS)
  have hs := hid (fun w2 (q2 : Quiet w w2) => searchG_any v ao cap w w2 q2.low hI hS)
  have HC := hid hC
  clear hC
  go_enter Tryz.func118, Tryz.ntmps118
  go_wp2_with (first
    | (go_at_call 17; refine (hs.out w2 q12).mono ?_; rintro e w3 ⟨rfl, q3⟩)
    | (go_at_call 6; refine hm.out.mono ?_; rintro e w2 ⟨rfl, q2⟩; rw [HC.out]; have q12 := q1.trans q2; have c0 : w2.cell? ⟨w.heap.size, 0, none⟩ = some (.int .i64 v.kind) := q2.cell (by simp) (fun e => e); have c1 : w2.cell? ⟨w.heap.size, 1, none⟩ = some (.int .i64 v.n) := q2.cell (by simp) (fun e => e); have c2 : w2.cell? ⟨w.heap.size, 2, none⟩ = some (.slice ao v.l.length cap) := q2.cell (by simp) (fun e => e)))
  go_ret
  exact ⟨by rfl, quiet_of q3⟩
theorem caps_any (v : V) (ao : Option Addr) (cap : Nat) (w : World) (hI : Is w v ao) (hC : v.check = 0) :
    Calls Tryz.prog 119 #[.agg #[.int .i64 v.kind, .int .i64 v.n, .slice ao v.l.length cap]] w fun e w' => ∃ sv, e = .returned sv ∧ w'.ownsRow w.heap.size 3 1 sv v.caps.length (ints v.caps) ∧ Quiet w w' ∧ (v.caps = [] → sv = .slice none 0 0) := by
  have q1 : Quiet w (w.alloc (.cells #[.int .i64 v.kind, .int .i64 v.n, .slice ao v.l.length cap] 24)) := Kp.alloc _ _
  have hS : v.size ≤ 500 := by have := check_size hC; omega
  have hm := hid (check_any v ao cap _ (hI.quiet q1) hS)
  have hs := hid (fun w2 (q2 : Quiet w w2) => searchP_any v ao cap w2.heap.size (.slice none 0 0) w (w2.alloc (.cells #[.slice none 0 0] 178)) (q2.trans (Kp.alloc _ _)).low hI hS ⟨heap_alloc_new w2 _, World.ownsRow_nil _ _ _ _, by simp [Value.ownBlock], q2.size, fun _ => rfl⟩)
  have HC := hid hC
  clear hC
  go_enter Tryz.func119, Tryz.ntmps119
  go_wp2_with (first
    | (go_at_call 17; refine (hs.out w2 q12).mono ?_; rintro e w3 ⟨rfl, ⟨sv3, hb3⟩, q3⟩; have c3 := cell_of_one hb3.obj; obtain ⟨av, cv, hav⟩ := owns_shape hb3.row; subst hav; have HB3 := hid hb3; clear hb3)
    | (go_at_call 6; refine hm.out.mono ?_; rintro e w2 ⟨rfl, q2⟩; rw [HC.out]; have q12 := q1.trans q2; have c0 : w2.cell? ⟨w.heap.size, 0, none⟩ = some (.int .i64 v.kind) := q2.cell (by simp) (fun e => e); have c1 : w2.cell? ⟨w.heap.size, 1, none⟩ = some (.int .i64 v.n) := q2.cell (by simp) (fun e => e); have c2 : w2.cell? ⟨w.heap.size, 2, none⟩ = some (.slice ao v.l.length cap) := q2.cell (by simp) (fun e => e); have z2 : w.heap.size < w2.heap.size := (by have := q2.size; simp at this; omega)))
  go_ret
  exact ⟨_, rfl, HB3.out.row, quiet_of q3, HB3.out.nil⟩
end Go.Proofs.YtpppgmkefpelaaaGreat
namespace Go.Proofs.YtpppgmkefpelaaaGreat
open Go.ChangeShapes Go.WideShapes Go.ChangeAt Go.RowKit
/-- The state of the loop: what was made so far. -/
structure OS (W : World) (h : Nat) (v : V) (j : Nat) (av : Option Addr) (n cv : Nat) (ps : List Kd) (w : World) : Prop where
  obj : w.heap[h + 2]? = some (.cells #[.int .i64 v.kind, .int .i64 v.n, .slice av n cv] 24 (0, 0))
  row : w.ownsRow (h + 3) 24 3 (.slice av n cv) n (tris ps)
  len : n = ps.length
  all : ∀ p ∈ ps, Hold (h + 3) (Value.slice av n cv).ownBlock w p.1 p.2.1
  map : ps.map (·.1) = v.l.take j
  low : Below (h + 2) W w
  sz : h + 3 ≤ w.heap.size
theorem own_step {W w w3 w1 : World} {h : Nat} {v : V} {j : Nat} {av : Option Addr} {m cv : Nat} {ps : List Kd} {x : V} {a : Option Addr} {c g cap : Nat} {o : Obj} (H : OS W h v j av m cv ps w) (hx : v.l.take (j + 1) = v.l.take j ++ [x]) (q3 : Quiet w.drew w3) (hc : Hold w.heap.size none w3 x a)
    (hr : w1.ownsRow (h + 3) 24 3 (.slice (some ⟨g, 0, none⟩) (m + 1) cap) (m + 1) (tris ps ++ tri (x, a, c))) (hg : (w3.alloc o).grownBy w1 (Value.slice av m cv).ownBlock) (hat : (Value.slice av m cv).ownBlock = some g ∨ g = w3.heap.size + 1) :
    OS W h v (j + 1) (some ⟨g, 0, none⟩) (m + 1) cap (ps ++ [(x, a, c)]) (w1.setCell ⟨h + 2, 2, none⟩ (.slice (some ⟨g, 0, none⟩) (m + 1) cap)) ∧ (w1.cell? ⟨h + 2, 2, none⟩ = some (.slice av m cv) ∧ w1.frozen? ⟨h + 2, 2, none⟩ = false) := by
  have hm := H.len
  have hlt := lt_of_block H.obj
  have hs3 : w.heap.size ≤ w3.heap.size := q3.size
  have hs1 : w3.heap.size + 1 ≤ w1.heap.size := by have := hg.size; simpa using this
  have hrb : ∀ b, (Value.slice av m cv).ownBlock = some b → h + 3 ≤ b ∧ b < w.heap.size := fun b e => H.row.lt b e
  have hk1 : ∀ b, b < w.heap.size → (Value.slice av m cv).ownBlock ≠ some b → w1.heap[b]? = w.heap[b]? := by
    intro b hb hne
    rw [hg.block b (by simp; omega) (fun e => hne e.symm), Below.heap_alloc w3 o b (by omega)]
    exact q3.block b hb (fun e => e)
  have hk3 : ∀ b, w.heap.size ≤ b → b < w3.heap.size → w1.heap[b]? = w3.heap[b]? := by
    intro b hb hb3
    rw [hg.block b (by simp; omega) (fun e => by have := hrb b e.symm; omega), Below.heap_alloc w3 o b hb3]
  have hobj : w1.heap[h + 2]? = some (.cells #[.int .i64 v.kind, .int .i64 v.n, .slice av m cv] 24 (0, 0)) := by
    rw [hk1 (h + 2) hlt (fun e => by have := hrb _ e; omega)]; exact H.obj
  have hset : ∀ b, b ≠ h + 2 → (w1.setCell ⟨h + 2, 2, none⟩ (.slice (some ⟨g, 0, none⟩) (m + 1) cap)).heap[b]? = w1.heap[b]? := fun b hb => Below.heap_setCell _ _ _ _ (fun e => hb e)
  have hgl : h + 3 ≤ g := by
    rcases hat with e | e
    · exact (hrb g e).1
    · have := H.sz; omega
  refine ⟨⟨?_, ?_, ?_, ?_, ?_, ?_, ?_⟩, ?_⟩
  · simp [World.setCell, Array.getElem?_modify, hobj]
  · have := (Kp.setCell (F := fun b => b = h + 2) w1 ⟨h + 2, 2, none⟩ (.slice (some ⟨g, 0, none⟩) (m + 1) cap) rfl).row hr (fun b e => by simp [Value.ownBlock] at e; omega)
    rw [tris_app, tris_one]; simpa using this
  · rw [List.length_append, hm]; rfl
  · intro p hp
    have hrow' : (Value.slice (some ⟨g, 0, none⟩) (m + 1) cap).ownBlock = some g := rfl
    rw [hrow']
    rcases List.mem_append.1 hp with hp | hp
    · refine (H.all p hp).step (fun b h1 h2 h3 => ?_) ?_
      · rw [hset b (by omega)]; exact hk1 b h2 (fun e => h3 e)
      · rcases hat with e | e
        · exact .inl e.symm
        · exact .inr ⟨g, rfl, by omega⟩
    · simp at hp
      subst hp
      intro w2 h2
      refine hc w2 fun b c t h1 _ h3 => h2 b c t (by have := H.sz; omega) ?_ ((hset b (by have := H.sz; omega)).trans ((hk3 b h1 (lt_of_block h3)).trans h3))
      intro e
      simp at e
      have hb3 := lt_of_block h3
      rcases hat with e' | e'
      · have := hrb g e'; omega
      · omega
  · rw [List.map_append, H.map, hx]; rfl
  · refine ⟨?_, ?_, ?_, ?_, fun b hb => ?_⟩
    · exact (hg.os.trans q3.os).trans H.low.os
    · exact (hg.tape.trans q3.tape).trans H.low.tape
    · exact (hg.output.trans q3.output).trans H.low.output
    · have := H.low.size; simp [World.setCell]; omega
    · rw [hset b (by omega), hk1 b (by omega) (fun e => by have := hrb b e; omega)]; exact H.low.block b hb
  · simp [World.setCell]; omega
  · exact ⟨by simp [World.cell?, hobj], frozen_of_row w1 (h + 2) 2 _ 24 hobj⟩
/-- A world in which but one block has turned. -/
theorem own_end {W w w0 w' : World} {v : V} {j : Nat} {av : Option Addr} {n cv : Nat} {ps : List Kd} (H : OS W w0.heap.size v j av n cv ps w) (hj : v.l.length ≤ j) (hf : v.fits) (qW : Quiet w0 W) (q : Kp (fun k => k = w0.heap.size + 1) w w') :
    Hold w0.heap.size none w' v av ∧ Quiet w0 w' ∧ n = v.l.length := by
  have hm : ps.map (·.1) = v.l := by rw [H.map, List.take_of_length_le hj]
  have hs : ∀ b, b < w.heap.size → b ≠ w0.heap.size + 1 → w'.heap[b]? = w.heap[b]? := fun b hb hne => q.block b hb hne
  refine ⟨?_, ?_, ?_⟩
  · have h1 := hold_row (lo := w0.heap.size + 3) (B := w0.heap.size + 3) hf hm H.row H.len (Nat.le_refl _) H.all
    intro w2 h2
    exact h1 w2 fun b c t h3 _ h4 => h2 b c t (by omega) (by simp) ((hs b (lt_of_block h4) (by omega)).trans h4)
  · refine ⟨q.os.trans (H.low.os.trans qW.os), q.tape.trans (H.low.tape.trans qW.tape), q.output.trans (H.low.output.trans qW.output), by have := qW.size; have := H.low.size; have := q.size; omega, fun b hb _ => ?_⟩
    rw [hs b (by have := H.sz; omega) (by omega), H.low.block b (by omega)]
    exact qW.block b hb (fun e => e)
  · rw [H.len, ← hm, List.length_map]
theorem box_free {w : World} {x : Nat} {c : Array Value} {t : TypeId} (h : w.heap[x]? = some (.cells c t (0, 0))) : w.frozen? ⟨x, 0, none⟩ = false ∧ w.frozen? ⟨x, 1, none⟩ = false ∧ w.frozen? ⟨x, 2, none⟩ = false :=
  ⟨frozen_of_row w x 0 _ t h, frozen_of_row w x 1 _ t h, frozen_of_row w x 2 _ t h⟩
theorem kp1 (w : World) (b o : Nat) (y : Value) : Kp (fun k => k = b) w (w.setCell ⟨b, o, none⟩ y) := Kp.setCell w ⟨b, o, none⟩ y rfl
end Go.Proofs.YtpppgmkefpelaaaGreat
namespace Go.Proofs.YtpppgmkefpelaaaGreat
open Go.ChangeShapes Go.WideShapes Go.ChangeAt Go.RowKit
set_option maxRecDepth 8000 in
set_option maxHeartbeats 1000000 in
theorem size_any (f : Nat) : ∀ (v : V) (ao : Option Addr) (cap most : Nat) (w : World), most < f → most ≤ 1000 → Is w v ao →
    Calls Tryz.prog 14 #[.agg #[.int .i64 v.kind, .int .i64 v.n, .slice ao v.l.length cap], .int .i64 most] w fun e w' => ∃ r : Nat, e = .returned (.int .i64 r) ∧ 1 ≤ r ∧ r ≤ most + 1 ∧ (v.size ≤ most → r = v.size) ∧ (most < v.size → r = most + 1) ∧ Quiet w w' := by
  induction f with
  | zero => intro v ao cap most w h; omega
  | succ f ih =>
    intro v ao cap most w hf hm hI
    have hS := hid (size_eq v)
    go_enter Tryz.func14, Tryz.ntmps14
    go_wp2
    go_loopw [5, 6] (fun n i wr => ∃ (r j : Nat), n = .int .i64 r ∧ i = .int .i64 j ∧ j ≤ v.l.length ∧ j + 1 ≤ r ∧ r ≤ most + 1 ∧ (r ≤ most → r = 1 + sizes (v.l.take j)) ∧ (most < r → most < 1 + sizes (v.l.take j)) ∧ Quiet w wr ∧ wr.heap[w.heap.size]? = some (.cells #[.int .i64 v.kind, .int .i64 v.n, .slice ao v.l.length cap] 24 (0, 0))) (fun _ i _ => v.l.length - (intOf i).toNat)
    case atStart => exact ⟨1, 0, rfl, rfl, Nat.zero_le _, Nat.le_refl _, by omega, by simp [sizes_nil], by simp [sizes_nil], Kp.alloc _ _, heap_alloc_new w _⟩
    case round =>
      obtain ⟨r, j, rfl, rfl, hj, h1, h2, h3, h4, q, hb⟩ := hrel
      obtain ⟨c0, c1, c2⟩ := box_cells hb
      have HB := hid hb
      clear hb c0 c1
      by_cases hlt : j < v.l.length
      · by_cases hr : r ≤ most
        · have hr' : (r : Int) ≤ (most : Int) := by omega
          obtain ⟨b, off, rfl, dh, ai, ci, d2, hi⟩ := (hI.quiet q).get j hlt
          obtain ⟨d0, d1⟩ := dh
          have HT := hid (And.intro (sizes_take v.l j hlt) (h3 hr))
          have HIH := hid (ih v.l[j] ai ci (most - r) wr (by omega) (by omega) hi)
          rw [show ((most - r : Nat) : Int) = (most : Int) - (r : Int) by omega] at HIH
          clear h3 h4
          generalize hu : v.l[j] = u at *
          clear hu hi hI
          go_wp2_with (go_at_call 14; refine HIH.out.mono ?_; rintro e w3 ⟨r2, rfl, k1, k2, k3, k4, q3⟩)
          refine ⟨⟨r + r2, j + 1, by go_num, by go_num, by omega, by omega, by omega, ?_, ?_, q.trans q3, (q3.block _ (lt_of_block HB.out) fun e => e).trans HB.out⟩, by simp [intOf]; omega⟩
          · intro h; have h5 := HT.out; omega
          · intro h; have h5 := HT.out; omega
        · have hr' : decide ((r : Int) ≤ (most : Int)) = false := by simp; omega
          have H := hid (And.intro (h4 (by omega)) (sizes_take_le v.l j))
          clear h3 h4
          go_wp2
          go_ret
          exact ⟨r, rfl, by omega, h2, fun h => by have h5 := H.out; have := hS.out; omega, fun h => by omega, q⟩
      · have hjl : j = v.l.length := by omega
        have hd : decide ((j : Int) < (v.l.length : Int)) = false := by simp; omega
        have H := hid (And.intro h3 h4)
        rw [hjl, List.take_length] at H
        clear h3 h4
        go_wp2
        go_ret
        exact ⟨r, rfl, by omega, h2, fun h => by have h5 := H.out; have := hS.out; omega, fun h => by have h5 := H.out; have := hS.out; omega, q⟩
end Go.Proofs.YtpppgmkefpelaaaGreat
namespace Go.Proofs.YtpppgmkefpelaaaGreat
open Go.ChangeShapes Go.WideShapes Go.ChangeAt Go.RowKit
theorem at_iff3 (w : World) (v : V) (b off : Nat) : v.at w b off ↔ w.cell? ⟨b, off, none⟩ = some (.int .i64 v.kind) ∧ w.cell? ⟨b, off + 1, none⟩ = some (.int .i64 v.n) ∧ ∃ ao cap, w.cell? ⟨b, off + 2, none⟩ = some (.slice ao v.l.length cap) ∧ Is w v ao := by
  rw [at_iff]
  exact ⟨fun h => ⟨h.1.1, h.1.2, h.2⟩, fun h => ⟨⟨h.1, h.2.1⟩, h.2.2⟩⟩
end Go.Proofs.YtpppgmkefpelaaaGreat
namespace Go.Proofs.YtpppgmkefpelaaaGreat
open Go.ChangeShapes Go.WideShapes Go.ChangeAt Go.RowKit
theorem great_any (v : V) (ao : Option Addr) (cap : Nat) (w : World) (hI : Is w v ao) :
    Calls Tryz.prog 5 #[.agg #[.int .i64 v.kind, .int .i64 v.n, .slice ao v.l.length cap]] w fun e w' => e = .returned (.bool (decide (500 < v.size))) ∧ Quiet w w' := by
  have q1 : Quiet w (w.alloc (.cells #[.int .i64 v.kind, .int .i64 v.n, .slice ao v.l.length cap] 24)) := Kp.alloc _ _
  have hm := hid (size_any 501 v ao cap 500 _ (by omega) (by omega) (hI.quiet q1))
  go_enter Tryz.func5, Tryz.ntmps5
  go_wp2_with (go_at_call 14; refine hm.out.mono ?_; rintro e w2 ⟨r, rfl, k1, k2, k3, k4, q2⟩; have HK := hid (And.intro k3 k4); clear k3 k4)
  go_ret
  refine ⟨?_, q1.trans q2⟩
  have h := HK.out
  simp only [Ending.returned.injEq]
  by_cases hb : 500 < v.size
  · simp [hb, h.2 hb]
  · simp [hb, h.1 (by omega)]; omega
end Go.Proofs.YtpppgmkefpelaaaGreat
