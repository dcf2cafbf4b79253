/- The contracts of Check, Caps and Gates. The document's own answer: a value in memory of its own. The document's own answer: how many, as far as one too many. The elder words for what lies in memory. The document's own answers: how many parts (as far as one too many), the first fault. -/
import Derived.Test.YtcgjjkaifklnnaaGreatUV0
import Derived.Test.YtcgjjkaifklnnaaGreatUV1
import Derived.Deep.RegionLaw
import Derived.Laws.ResultCell
namespace Go.Proofs.YtcgjjkaifklnnaaGreat
open Go.ChangeShapes Go.WideShapes Go.ChangeAt Go.RowKit
/-- One thing in a row of its own. -/
theorem fo_single {w : World} {b : Nat} {v : V} {ao : Option Addr} {cap : Nat} (h : w.heap[b]? = some (.cells #[.int .i64 v.kind, .int .i64 v.n, .slice ao v.l.length cap] 33 (0, 0))) (hI : Is w v ao) : Fo w [v] (some ⟨b, 0, none⟩) := by
  intro i hi
  obtain rfl : i = 0 := by simp at hi; omega
  refine ⟨b, 0, rfl, ?_⟩
  obtain ⟨h0, h1, h2⟩ := box_cells h
  exact (at_iff _ _ _ _).2 ⟨⟨h0, h1⟩, ao, cap, h2, hI⟩
theorem check_any (v : V) (ao : Option Addr) (cap : Nat) (w : World) (hI : Is w v ao) (hS : v.size ≤ 500) :
    Calls Tryz.prog 20 #[.agg #[.int .i64 v.kind, .int .i64 v.n, .slice ao v.l.length cap]] w fun e w' => e = .returned (.int .i64 v.check) ∧ Quiet w w' := by
  have q1 : Quiet w ((w.alloc (.cells #[.int .i64 v.kind, .int .i64 v.n, .slice ao v.l.length cap] 33)).alloc (.cells #[.int .i64 v.kind, .int .i64 v.n, .slice ao v.l.length cap] 33)) := (Kp.alloc _ _).trans (Kp.alloc _ _)
  have hb0 : ((w.alloc (.cells #[.int .i64 v.kind, .int .i64 v.n, .slice ao v.l.length cap] 33)).alloc (.cells #[.int .i64 v.kind, .int .i64 v.n, .slice ao v.l.length cap] 33)).heap[w.heap.size]? = some (.cells #[.int .i64 v.kind, .int .i64 v.n, .slice ao v.l.length cap] 33 (0, 0)) := by
    rw [Below.heap_alloc _ _ _ (by simp)]; exact heap_alloc_new w _
  have hm := hid (more_any [v] (some ⟨w.heap.size + 1, 0, none⟩) 1 40 _ (fo_single (heap_two w _ _) (hI.quiet q1)) (by rw [sizes_one]; omega) (by decide))
  rw [List.length_singleton, sizes_one] at hm
  by_cases hb : 40 < v.size
  · have hE := hid (show v.check = 3 by unfold V.check; rw [if_pos hb])
    have hd := hid (show decide (40 < v.size) = true by simpa using hb)
    clear hb
    go_enter Tryz.func20, Tryz.ntmps20
    go_wp2_with (go_at_call 38; refine hm.out.mono ?_; rintro e w2 ⟨rfl, q2⟩; rw [hd.out])
    go_ret
    exact ⟨by rw [hE.out]; rfl, q1.trans q2⟩
  · have hE := hid (show v.check = v.fault by unfold V.check; rw [if_neg hb])
    have hd := hid (show decide (40 < v.size) = false by simpa using hb)
    clear hb
    have hs := hid (fun w2 (q2 : Quiet w w2) => searchC_any v ao cap w2.heap.size 0 w (w2.alloc (.cells #[.int .i64 0] 3)) (q2.trans (Kp.alloc _ _)).low hI hS q2.size (heap_alloc_new w2 _))
    go_enter Tryz.func20, Tryz.ntmps20
    go_wp2_with (first
      | (go_at_call 40; refine (hs.out w2 q12).mono ?_; rintro e w3 ⟨⟨r, rfl⟩, hb3, q3⟩; have c3 := cell_of_one hb3)
      | (go_at_call 38; refine hm.out.mono ?_; rintro e w2 ⟨rfl, q2⟩; rw [hd.out]; have q12 := q1.trans q2; obtain ⟨c0, c1, c2⟩ := box_cells ((q2.block _ (lt_of_block hb0) (fun e => e)).trans hb0); have z2 : w.heap.size < w2.heap.size := (by have := q2.size; simp at this; omega)))
    go_ret
    exact ⟨by rw [hE.out]; rfl, quiet_of q3⟩
theorem gates_any (v : V) (ao : Option Addr) (cap : Nat) (w : World) (hI : Is w v ao) (hC : v.check = 0) :
    Calls Tryz.prog 153 #[.agg #[.int .i64 v.kind, .int .i64 v.n, .slice ao v.l.length cap]] w fun e w' => e = .returned (.bool v.gate) ∧ Quiet w w' := by
  have q1 : Quiet w (w.alloc (.cells #[.int .i64 v.kind, .int .i64 v.n, .slice ao v.l.length cap] 33)) := Kp.alloc _ _
  have hS : v.size ≤ 500 := by have := check_size hC; omega
  have hm := hid (check_any v ao cap _ (hI.quiet q1) hS)
  have hs := hid (fun w2 (q2 : Quiet w w2) => searchG_any v ao cap w w2 q2.low hI hS)
  have HC := hid hC
  clear hC
  go_enter Tryz.func153, Tryz.ntmps153
  go_wp2_with (first
    | (go_at_call 40; refine (hs.out w2 q12).mono ?_; rintro e w3 ⟨rfl, q3⟩)
    | (go_at_call 20; refine hm.out.mono ?_; rintro e w2 ⟨rfl, q2⟩; rw [HC.out]; have q12 := q1.trans q2; have c0 : w2.cell? ⟨w.heap.size, 0, none⟩ = some (.int .i64 v.kind) := q2.cell (by simp) (fun e => e); have c1 : w2.cell? ⟨w.heap.size, 1, none⟩ = some (.int .i64 v.n) := q2.cell (by simp) (fun e => e); have c2 : w2.cell? ⟨w.heap.size, 2, none⟩ = some (.slice ao v.l.length cap) := q2.cell (by simp) (fun e => e)))
  go_ret
  exact ⟨by rfl, quiet_of q3⟩
theorem caps_any (v : V) (ao : Option Addr) (cap : Nat) (w : World) (hI : Is w v ao) (hC : v.check = 0) :
    Calls Tryz.prog 154 #[.agg #[.int .i64 v.kind, .int .i64 v.n, .slice ao v.l.length cap]] w fun e w' => ∃ sv, e = .returned sv ∧ w'.ownsRow w.heap.size 3 1 sv v.caps.length (ints v.caps) ∧ Quiet w w' ∧ (v.caps = [] → sv = .slice none 0 0) := by
  have q1 : Quiet w (w.alloc (.cells #[.int .i64 v.kind, .int .i64 v.n, .slice ao v.l.length cap] 33)) := Kp.alloc _ _
  have hS : v.size ≤ 500 := by have := check_size hC; omega
  have hm := hid (check_any v ao cap _ (hI.quiet q1) hS)
  have hs := hid (fun w2 (q2 : Quiet w w2) => searchP_any v ao cap w2.heap.size (.slice none 0 0) w (w2.alloc (.cells #[.slice none 0 0] 184)) (q2.trans (Kp.alloc _ _)).low hI hS ⟨heap_alloc_new w2 _, World.ownsRow_nil _ _ _ _, by simp [Value.ownBlock], q2.size, fun _ => rfl⟩)
  have HC := hid hC
  clear hC
  go_enter Tryz.func154, Tryz.ntmps154
  go_wp2_with (first
    | (go_at_call 40; refine (hs.out w2 q12).mono ?_; rintro e w3 ⟨rfl, ⟨sv3, hb3⟩, q3⟩; have c3 := cell_of_one hb3.obj; obtain ⟨av, cv, hav⟩ := owns_shape hb3.row; subst hav; have HB3 := hid hb3; clear hb3)
    | (go_at_call 20; refine hm.out.mono ?_; rintro e w2 ⟨rfl, q2⟩; rw [HC.out]; have q12 := q1.trans q2; have c0 : w2.cell? ⟨w.heap.size, 0, none⟩ = some (.int .i64 v.kind) := q2.cell (by simp) (fun e => e); have c1 : w2.cell? ⟨w.heap.size, 1, none⟩ = some (.int .i64 v.n) := q2.cell (by simp) (fun e => e); have c2 : w2.cell? ⟨w.heap.size, 2, none⟩ = some (.slice ao v.l.length cap) := q2.cell (by simp) (fun e => e); have z2 : w.heap.size < w2.heap.size := (by have := q2.size; simp at this; omega)))
  go_ret
  exact ⟨_, rfl, HB3.out.row, quiet_of q3, HB3.out.nil⟩
end Go.Proofs.YtcgjjkaifklnnaaGreat
namespace Go.Proofs.YtcgjjkaifklnnaaGreat
open Go.ChangeShapes Go.WideShapes Go.ChangeAt Go.RowKit
/-- The state of the loop: what was made so far. -/
structure OS (W : World) (h : Nat) (v : V) (j : Nat) (av : Option Addr) (n cv : Nat) (ps : List Kd) (w : World) : Prop where
  obj : w.heap[h + 2]? = some (.cells #[.int .i64 v.kind, .int .i64 v.n, .slice av n cv] 33 (0, 0))
  row : w.ownsRow (h + 3) 33 3 (.slice av n cv) n (tris ps)
  len : n = ps.length
  all : ∀ p ∈ ps, Hold (h + 3) (Value.slice av n cv).ownBlock w p.1 p.2.1
  map : ps.map (·.1) = v.l.take j
  low : Below (h + 2) W w
  sz : h + 3 ≤ w.heap.size
theorem own_step {W w w3 w1 : World} {h : Nat} {v : V} {j : Nat} {av : Option Addr} {m cv : Nat} {ps : List Kd} {x : V} {a : Option Addr} {c g cap : Nat} {o : Obj} (H : OS W h v j av m cv ps w) (hx : v.l.take (j + 1) = v.l.take j ++ [x]) (q3 : Quiet w.drew w3) (hc : Hold w.heap.size none w3 x a)
    (hr : w1.ownsRow (h + 3) 33 3 (.slice (some ⟨g, 0, none⟩) (m + 1) cap) (m + 1) (tris ps ++ tri (x, a, c))) (hg : (w3.alloc o).grownBy w1 (Value.slice av m cv).ownBlock) (hat : (Value.slice av m cv).ownBlock = some g ∨ g = w3.heap.size + 1) :
    OS W h v (j + 1) (some ⟨g, 0, none⟩) (m + 1) cap (ps ++ [(x, a, c)]) (w1.setCell ⟨h + 2, 2, none⟩ (.slice (some ⟨g, 0, none⟩) (m + 1) cap)) ∧ (w1.cell? ⟨h + 2, 2, none⟩ = some (.slice av m cv) ∧ w1.frozen? ⟨h + 2, 2, none⟩ = false) := by
  have hm := H.len
  have hlt := lt_of_block H.obj
  have hs3 : w.heap.size ≤ w3.heap.size := q3.size
  have hs1 : w3.heap.size + 1 ≤ w1.heap.size := by have := hg.size; simpa using this
  have hrb : ∀ b, (Value.slice av m cv).ownBlock = some b → h + 3 ≤ b ∧ b < w.heap.size := fun b e => H.row.lt b e
  have hk1 : ∀ b, b < w.heap.size → (Value.slice av m cv).ownBlock ≠ some b → w1.heap[b]? = w.heap[b]? := by
    intro b hb hne
    rw [hg.block b (by simp; omega) (fun e => hne e.symm), Below.heap_alloc w3 o b (by omega)]
    exact q3.block b hb (fun e => e)
  have hk3 : ∀ b, w.heap.size ≤ b → b < w3.heap.size → w1.heap[b]? = w3.heap[b]? := by
    intro b hb hb3
    rw [hg.block b (by simp; omega) (fun e => by have := hrb b e.symm; omega), Below.heap_alloc w3 o b hb3]
  have hobj : w1.heap[h + 2]? = some (.cells #[.int .i64 v.kind, .int .i64 v.n, .slice av m cv] 33 (0, 0)) := by
    rw [hk1 (h + 2) hlt (fun e => by have := hrb _ e; omega)]; exact H.obj
  have hset : ∀ b, b ≠ h + 2 → (w1.setCell ⟨h + 2, 2, none⟩ (.slice (some ⟨g, 0, none⟩) (m + 1) cap)).heap[b]? = w1.heap[b]? := fun b hb => Below.heap_setCell _ _ _ _ (fun e => hb e)
  have hgl : h + 3 ≤ g := by
    rcases hat with e | e
    · exact (hrb g e).1
    · have := H.sz; omega
  refine ⟨⟨?_, ?_, ?_, ?_, ?_, ?_, ?_⟩, ?_⟩
  · simp [World.setCell, Array.getElem?_modify, hobj]
  · have := (Kp.setCell (F := fun b => b = h + 2) w1 ⟨h + 2, 2, none⟩ (.slice (some ⟨g, 0, none⟩) (m + 1) cap) rfl).row hr (fun b e => by simp [Value.ownBlock] at e; omega)
    rw [tris_app, tris_one]; simpa using this
  · rw [List.length_append, hm]; rfl
  · intro p hp
    have hrow' : (Value.slice (some ⟨g, 0, none⟩) (m + 1) cap).ownBlock = some g := rfl
    rw [hrow']
    rcases List.mem_append.1 hp with hp | hp
    · refine (H.all p hp).step (fun b h1 h2 h3 => ?_) ?_
      · rw [hset b (by omega)]; exact hk1 b h2 (fun e => h3 e)
      · rcases hat with e | e
        · exact .inl e.symm
        · exact .inr ⟨g, rfl, by omega⟩
    · simp at hp
      subst hp
      intro w2 h2
      refine hc w2 fun b c t h1 _ h3 => h2 b c t (by have := H.sz; omega) ?_ ((hset b (by have := H.sz; omega)).trans ((hk3 b h1 (lt_of_block h3)).trans h3))
      intro e
      simp at e
      have hb3 := lt_of_block h3
      rcases hat with e' | e'
      · have := hrb g e'; omega
      · omega
  · rw [List.map_append, H.map, hx]; rfl
  · refine ⟨?_, ?_, ?_, ?_, fun b hb => ?_⟩
    · exact (hg.os.trans q3.os).trans H.low.os
    · exact (hg.tape.trans q3.tape).trans H.low.tape
    · exact (hg.output.trans q3.output).trans H.low.output
    · have := H.low.size; simp [World.setCell]; omega
    · rw [hset b (by omega), hk1 b (by omega) (fun e => by have := hrb b e; omega)]; exact H.low.block b hb
  · simp [World.setCell]; omega
  · exact ⟨by simp [World.cell?, hobj], frozen_of_row w1 (h + 2) 2 _ 33 hobj⟩
/-- A world in which but one block has turned. -/
theorem own_end {W w w0 w' : World} {v : V} {j : Nat} {av : Option Addr} {n cv : Nat} {ps : List Kd} (H : OS W w0.heap.size v j av n cv ps w) (hj : v.l.length ≤ j) (hf : v.fits) (qW : Quiet w0 W) (q : Kp (fun k => k = w0.heap.size + 1) w w') :
    Hold w0.heap.size none w' v av ∧ Quiet w0 w' ∧ n = v.l.length := by
  have hm : ps.map (·.1) = v.l := by rw [H.map, List.take_of_length_le hj]
  have hs : ∀ b, b < w.heap.size → b ≠ w0.heap.size + 1 → w'.heap[b]? = w.heap[b]? := fun b hb hne => q.block b hb hne
  refine ⟨?_, ?_, ?_⟩
  · have h1 := hold_row (lo := w0.heap.size + 3) (B := w0.heap.size + 3) hf hm H.row H.len (Nat.le_refl _) H.all
    intro w2 h2
    exact h1 w2 fun b c t h3 _ h4 => h2 b c t (by omega) (by simp) ((hs b (lt_of_block h4) (by omega)).trans h4)
  · refine ⟨q.os.trans (H.low.os.trans qW.os), q.tape.trans (H.low.tape.trans qW.tape), q.output.trans (H.low.output.trans qW.output), by have := qW.size; have := H.low.size; have := q.size; omega, fun b hb _ => ?_⟩
    rw [hs b (by have := H.sz; omega) (by omega), H.low.block b (by omega)]
    exact qW.block b hb (fun e => e)
  · rw [H.len, ← hm, List.length_map]
theorem box_free {w : World} {x : Nat} {c : Array Value} {t : TypeId} (h : w.heap[x]? = some (.cells c t (0, 0))) : w.frozen? ⟨x, 0, none⟩ = false ∧ w.frozen? ⟨x, 1, none⟩ = false ∧ w.frozen? ⟨x, 2, none⟩ = false :=
  ⟨frozen_of_row w x 0 _ t h, frozen_of_row w x 1 _ t h, frozen_of_row w x 2 _ t h⟩
theorem kp1 (w : World) (b o : Nat) (y : Value) : Kp (fun k => k = b) w (w.setCell ⟨b, o, none⟩ y) := Kp.setCell w ⟨b, o, none⟩ y rfl
end Go.Proofs.YtcgjjkaifklnnaaGreat
namespace Go.Proofs.YtcgjjkaifklnnaaGreat
open Go.ChangeShapes Go.WideShapes Go.ChangeAt Go.RowKit
set_option maxRecDepth 8000 in
set_option maxHeartbeats 1000000 in
theorem size_any (f : Nat) : ∀ (v : V) (ao : Option Addr) (cap most : Nat) (w : World), most < f → most ≤ 1000 → Is w v ao →
    Calls Tryz.prog 30 #[.agg #[.int .i64 v.kind, .int .i64 v.n, .slice ao v.l.length cap], .int .i64 most] w fun e w' => ∃ r : Nat, e = .returned (.int .i64 r) ∧ 1 ≤ r ∧ r ≤ most + 1 ∧ (v.size ≤ most → r = v.size) ∧ (most < v.size → r = most + 1) ∧ Quiet w w' := by
  induction f with
  | zero => intro v ao cap most w h; omega
  | succ f ih =>
    intro v ao cap most w hf hm hI
    have hS := hid (size_eq v)
    go_enter Tryz.func30, Tryz.ntmps30
    go_wp2
    go_loopw [5, 6] (fun n i wr => ∃ (r j : Nat), n = .int .i64 r ∧ i = .int .i64 j ∧ j ≤ v.l.length ∧ j + 1 ≤ r ∧ r ≤ most + 1 ∧ (r ≤ most → r = 1 + sizes (v.l.take j)) ∧ (most < r → most < 1 + sizes (v.l.take j)) ∧ Quiet w wr ∧ wr.heap[w.heap.size]? = some (.cells #[.int .i64 v.kind, .int .i64 v.n, .slice ao v.l.length cap] 33 (0, 0))) (fun _ i _ => v.l.length - (intOf i).toNat)
    case atStart => exact ⟨1, 0, rfl, rfl, Nat.zero_le _, Nat.le_refl _, by omega, by simp [sizes_nil], by simp [sizes_nil], Kp.alloc _ _, heap_alloc_new w _⟩
    case round =>
      obtain ⟨r, j, rfl, rfl, hj, h1, h2, h3, h4, q, hb⟩ := hrel
      obtain ⟨c0, c1, c2⟩ := box_cells hb
      have HB := hid hb
      clear hb c0 c1
      by_cases hlt : j < v.l.length
      · by_cases hr : r ≤ most
        · have hr' : (r : Int) ≤ (most : Int) := by omega
          obtain ⟨b, off, rfl, dh, ai, ci, d2, hi⟩ := (hI.quiet q).get j hlt
          obtain ⟨d0, d1⟩ := dh
          have HT := hid (And.intro (sizes_take v.l j hlt) (h3 hr))
          have HIH := hid (ih v.l[j] ai ci (most - r) wr (by omega) (by omega) hi)
          rw [show ((most - r : Nat) : Int) = (most : Int) - (r : Int) by omega] at HIH
          clear h3 h4
          generalize hu : v.l[j] = u at *
          clear hu hi hI
          go_wp2_with (go_at_call 30; refine HIH.out.mono ?_; rintro e w3 ⟨r2, rfl, k1, k2, k3, k4, q3⟩)
          refine ⟨⟨r + r2, j + 1, by go_num, by go_num, by omega, by omega, by omega, ?_, ?_, q.trans q3, (q3.block _ (lt_of_block HB.out) fun e => e).trans HB.out⟩, by simp [intOf]; omega⟩
          · intro h; have h5 := HT.out; omega
          · intro h; have h5 := HT.out; omega
        · have hr' : decide ((r : Int) ≤ (most : Int)) = false := by simp; omega
          have H := hid (And.intro (h4 (by omega)) (sizes_take_le v.l j))
          clear h3 h4
          go_wp2
          go_ret
          exact ⟨r, rfl, by omega, h2, fun h => by have h5 := H.out; have := hS.out; omega, fun h => by omega, q⟩
      · have hjl : j = v.l.length := by omega
        have hd : decide ((j : Int) < (v.l.length : Int)) = false := by simp; omega
        have H := hid (And.intro h3 h4)
        rw [hjl, List.take_length] at H
        clear h3 h4
        go_wp2
        go_ret
        exact ⟨r, rfl, by omega, h2, fun h => by have h5 := H.out; have := hS.out; omega, fun h => by have h5 := H.out; have := hS.out; omega, q⟩
end Go.Proofs.YtcgjjkaifklnnaaGreat
namespace Go.Proofs.YtcgjjkaifklnnaaGreat
open Go.ChangeShapes Go.WideShapes Go.ChangeAt Go.RowKit
theorem Is.get3 {w : World} {v : V} {ao : Option Addr} (h : Is w v ao) (i : Nat) (hi : i < v.l.length) :
    ∃ b off, ao = some ⟨b, off, none⟩ ∧ w.cell? ⟨b, off + i * 3, none⟩ = some (.int .i64 v.l[i].kind) ∧ w.cell? ⟨b, off + i * 3 + 1, none⟩ = some (.int .i64 v.l[i].n) ∧ ∃ ai cap, w.cell? ⟨b, off + i * 3 + 2, none⟩ = some (.slice ai v.l[i].l.length cap) ∧ Is w v.l[i] ai := by
  obtain ⟨b, off, e, hh, ai, ci, cs, hI⟩ := h.get i hi
  exact ⟨b, off, e, hh.1, hh.2, ai, ci, cs, hI⟩
theorem at_iff3 (w : World) (v : V) (b off : Nat) : v.at w b off ↔ w.cell? ⟨b, off, none⟩ = some (.int .i64 v.kind) ∧ w.cell? ⟨b, off + 1, none⟩ = some (.int .i64 v.n) ∧ ∃ ao cap, w.cell? ⟨b, off + 2, none⟩ = some (.slice ao v.l.length cap) ∧ Is w v ao := by
  rw [at_iff]
  exact ⟨fun h => ⟨h.1.1, h.1.2, h.2⟩, fun h => ⟨⟨h.1, h.2.1⟩, h.2.2⟩⟩
theorem Is.leaf3 (w : World) (k n : Int) (hk : In64 k) (hn : In64 n) (ao : Option Addr) : Is w ⟨k, n, []⟩ ao := Is.leaf w ⟨k, n, []⟩ ⟨hk, hn⟩ rfl ao
end Go.Proofs.YtcgjjkaifklnnaaGreat
namespace Go.Proofs.YtcgjjkaifklnnaaGreat
open Go.ChangeShapes Go.WideShapes Go.ChangeAt Go.RowKit
theorem great_any (v : V) (ao : Option Addr) (cap : Nat) (w : World) (hI : Is w v ao) :
    Calls Tryz.prog 10 #[.agg #[.int .i64 v.kind, .int .i64 v.n, .slice ao v.l.length cap]] w fun e w' => e = .returned (.bool (decide (500 < v.size))) ∧ Quiet w w' := by
  have q1 : Quiet w (w.alloc (.cells #[.int .i64 v.kind, .int .i64 v.n, .slice ao v.l.length cap] 33)) := Kp.alloc _ _
  have hm := hid (size_any 501 v ao cap 500 _ (by omega) (by omega) (hI.quiet q1))
  go_enter Tryz.func10, Tryz.ntmps10
  go_wp2_with (go_at_call 30; refine hm.out.mono ?_; rintro e w2 ⟨r, rfl, k1, k2, k3, k4, q2⟩; have HK := hid (And.intro k3 k4); clear k3 k4)
  go_ret
  refine ⟨?_, q1.trans q2⟩
  have h := HK.out
  simp only [Ending.returned.injEq]
  by_cases hb : 500 < v.size
  · simp [hb, h.2 hb]
  · simp [hb, h.1 (by omega)]; omega
theorem first_take0 (l : List V) : first (pres (l.take 0)) = 0 := by simp [pres_nil, first]
/-- The numbers of a part that is as it should be, by itself. -/
theorem fault1_zero {k n : Int} {l : List V} (h : (V.mk k n l).fault1 = 0) : ∃ p, partsB k = some p ∧ l.length = p ∧ ¬ ((k = 0 ∨ k = 2) ∧ n ≠ 0) ∧ ¬ ((k = 3 ∨ k = 4 ∨ k = 5) ∧ n < 0) := by
  unfold V.fault1 at h
  cases hp : partsB k with
  | none => simp [hp] at h
  | some p =>
    simp only [hp] at h
    refine ⟨p, rfl, ?_⟩
    by_cases h1 : l.length = p
    · by_cases h2 : (k = 0 ∨ k = 2) ∧ n ≠ 0
      · simp [h1, h2] at h
      · by_cases h3 : (k = 3 ∨ k = 4 ∨ k = 5) ∧ n < 0
        · rw [if_neg (by simp [h1]), if_neg h2, if_pos h3] at h; simp at h
        · exact ⟨h1, h2, h3⟩
    · simp [h1] at h
set_option maxRecDepth 8000 in
set_option maxHeartbeats 2000000 in
theorem faultR_any (v : V) : ∀ (ao : Option Addr) (cap : Nat) (w : World), Is w v ao → v.size ≤ 500 →
    Calls Tryz.prog 66 #[.agg #[.int .i64 v.kind, .int .i64 v.n, .slice ao v.l.length cap]] w fun e w' => e = .returned (.int .i64 v.fault) ∧ Quiet w w' := by
  induction v using V.ind with
  | h k n l ih =>
    intro ao cap w hI hS
    by_cases hz : (V.mk k n l).fault1 = 0
    · have hE := hid (show (V.mk k n l).fault = first (pres l) by rw [fault_eq, if_pos hz])
      obtain ⟨p, hp, hl, hn1, hn2⟩ := fault1_zero hz
      have hp2 : p ≤ 2 := by rcases parts_cases hp with h | h | h | h | h | h <;> omega
      have hsz : ∀ j (h : j < l.length), l[j].size ≤ 500 := fun j h => by have := size_get l j h; rw [size_mk] at hS; omega
      have h0 := first_take0 l
      have HI := hid (And.intro hI ih)
      have HSZ := hid hsz
      have hb0 := heap_alloc_new w (.cells #[.int .i64 k, .int .i64 n, .slice ao l.length cap] 33)
      clear hz hsz hI ih hS
      have main : ∀ (wr : World) (j : Nat), j < l.length → Quiet w wr → first (pres (l.take j)) = 0 → ∃ b off ai ci, ao = some ⟨b, off, none⟩ ∧ wr.cell? ⟨b, off + j * 3, none⟩ = some (.int .i64 (l.getD j ⟨0, 0, []⟩).kind) ∧ wr.cell? ⟨b, off + j * 3 + 1, none⟩ = some (.int .i64 (l.getD j ⟨0, 0, []⟩).n) ∧ wr.cell? ⟨b, off + j * 3 + 2, none⟩ = some (.slice ai (l.getD j ⟨0, 0, []⟩).l.length ci) ∧ (Calls Tryz.prog 66 #[.agg #[.int .i64 (l.getD j ⟨0, 0, []⟩).kind, .int .i64 (l.getD j ⟨0, 0, []⟩).n, .slice ai (l.getD j ⟨0, 0, []⟩).l.length ci]] wr fun e w' => e = .returned (.int .i64 (l.getD j ⟨0, 0, []⟩).fault) ∧ Quiet wr w') ∧ first (pres (l.take (j + 1))) = (l.getD j ⟨0, 0, []⟩).fault ∧ ((l.getD j ⟨0, 0, []⟩).fault ≠ 0 → first (pres l) = (l.getD j ⟨0, 0, []⟩).fault) := by
        intro wr j hj q hf
        obtain ⟨b, off, e, d0, d1, ai, ci, d2, hi⟩ := (HI.out.1.quiet q).get3 j hj
        have eq : l.getD j ⟨0, 0, []⟩ = l[j] := by simp [List.getD_eq_getElem?_getD, hj]
        rw [eq]
        exact ⟨b, off, ai, ci, e, d0, d1, d2, HI.out.2 l[j] (List.getElem_mem hj) ai ci wr hi (HSZ.out j hj), first_pres l j hj hf, first_stop l j hj hf⟩
      have HM := hid main
      have h0H := hid h0
      clear main h0
      have hll := hid hl
      rcases parts_cases hp with ⟨rfl, rfl⟩ | ⟨rfl, rfl⟩ | ⟨rfl, rfl⟩ | ⟨rfl, rfl⟩ | ⟨rfl, rfl⟩ | ⟨rfl, rfl⟩
      all_goals
        rw [hl] at hb0
        rw [show (V.mk _ n l).l.length = _ from hl]
        clear hl hp hp2
        have hn0 : _ := hn1
        have hn3 : _ := hn2
        simp at hn0 hn3
        clear hn1 hn2
        try subst hn0
        go_enter Tryz.func66, Tryz.ntmps66
        go_wp2
        go_loopw [4] (fun i wr => ∃ j : Nat, j ≤ l.length ∧ i = .int .i64 j ∧ first (pres (l.take j)) = 0 ∧ Quiet w wr ∧ wr.cell? ⟨w.heap.size, 2, none⟩ = some (.slice ao l.length cap)) (fun i _ => l.length - (intOf i).toNat)
        case atStart => exact ⟨0, Nat.zero_le _, rfl, h0H.out, Kp.alloc _ _, by rw [hll.out]; simp⟩
        case round =>
          obtain ⟨j, hj, rfl, hf, q, hc⟩ := hrel
          have hj' : j ≤ _ := hll.out ▸ hj
          have HF := hid hf
          have HC := hid hc
          rw [hll.out] at hc
          clear hj
          by_cases hlt : j < l.length
          · first
            | (exfalso; have h9 := hll.out; omega)
            | (have hlt' : j < _ := hll.out ▸ hlt
               have HLT := hid hlt
               obtain ⟨b, off, ai, ci, rfl, d0, d1, d2, hcall, hnx, hst⟩ := HM.out wr j hlt q hf
               have HN := hid (And.intro hnx hst)
               have HCA := hid hcall
               clear hlt hf hnx hst hcall
               generalize l.getD j ⟨0, 0, []⟩ = u at *
               by_cases huz : u.fault = 0
               · have HU := hid huz
                 clear huz
                 go_wp2_with (go_at_call 66; refine HCA.out.mono ?_; rintro e w3 ⟨rfl, q3⟩; rw [HU.out])
                 refine ⟨⟨j + 1, HLT.out, by go_num, by rw [HN.out.1, HU.out], q.trans q3, q3.cell HC.out fun e => e⟩, ?_⟩
                 have := HLT.out
                 simp [intOf]; omega
               · have hu2 : (u.fault != 0) = true := by simpa using huz
                 go_wp2_with (go_at_call 66; refine HCA.out.mono ?_; rintro e w3 ⟨rfl, q3⟩)
                 go_ret
                 exact ⟨by rw [hE.out, HN.out.2 huz]; rfl, q.trans q3⟩)
          · have hlt' : ¬ j < _ := hll.out ▸ hlt
            have HLT := hid hlt
            clear hlt hf
            go_wp2
            go_ret
            refine ⟨?_, q⟩
            have h5 := HF.out
            rw [List.take_of_length_le (by have := HLT.out; omega)] at h5
            rw [hE.out, h5]; rfl
    · have hE := hid (show (V.mk k n l).fault = (V.mk k n l).fault1 by rw [fault_eq, if_neg hz])
      clear ih hI
      cases hp : partsB k with
      | none =>
        have hF := hid (show (V.mk k n l).fault1 = 2 by simp [V.fault1, hp])
        obtain ⟨h2, h3, h0, h1, h4, h5⟩ := parts_none hp
        clear hz
        go_enter Tryz.func66, Tryz.ntmps66
        go_wp2
        go_ret
        exact ⟨by rw [hE.out, hF.out]; rfl, Kp.alloc _ _⟩
      | some p =>
        by_cases hl : l.length = p
        · have hF := hid (show (V.mk k n l).fault1 = if (k = 0 ∨ k = 2) ∧ n ≠ 0 then 5 else if (k = 3 ∨ k = 4 ∨ k = 5) ∧ n < 0 then 1 else 0 by simp [V.fault1, hp, hl])
          have hz' := hid hz
          clear hz
          generalize l.length = ll at *
          subst hl
          have hnz : ((k = 0 ∨ k = 2) ∧ n ≠ 0) ∨ ((k = 3 ∨ k = 4 ∨ k = 5) ∧ n < 0) := by
            by_cases a : (k = 0 ∨ k = 2) ∧ n ≠ 0
            · exact .inl a
            · by_cases b : (k = 3 ∨ k = 4 ∨ k = 5) ∧ n < 0
              · exact .inr b
              · have h1 := hz'.out; rw [hF.out, if_neg a, if_neg b] at h1; exact absurd rfl h1
          have hG : Hid ((V.mk k n l).fault1 = if (k = 0 ∨ k = 2) then 5 else 1) := by
            rw [hF.out]
            rcases hnz with h | h
            · rw [if_pos h, if_pos h.1]; exact rfl
            · rw [if_neg (by omega), if_pos h, if_neg (by omega)]; exact rfl
          clear hF hz'
          rcases parts_cases hp with ⟨rfl, rfl⟩ | ⟨rfl, rfl⟩ | ⟨rfl, rfl⟩ | ⟨rfl, rfl⟩ | ⟨rfl, rfl⟩ | ⟨rfl, rfl⟩
          · have h1 : n ≠ 0 := by omega
            have h2 : (n != 0) = true := by simpa using h1
            clear hnz
            go_enter Tryz.func66, Tryz.ntmps66
            go_wp2
            go_ret
            exact ⟨by rw [hE.out, hG.out]; rfl, Kp.alloc _ _⟩
          · have h1 : n < 0 := by omega
            clear hnz
            go_enter Tryz.func66, Tryz.ntmps66
            go_wp2
            go_ret
            exact ⟨by rw [hE.out, hG.out]; rfl, Kp.alloc _ _⟩
          · have h1 : n ≠ 0 := by omega
            have h2 : (n != 0) = true := by simpa using h1
            clear hnz
            go_enter Tryz.func66, Tryz.ntmps66
            go_wp2
            go_ret
            exact ⟨by rw [hE.out, hG.out]; rfl, Kp.alloc _ _⟩
          · omega
          all_goals
            have h1 : n < 0 := by omega
            clear hnz
            go_enter Tryz.func66, Tryz.ntmps66
            go_wp2
            go_ret
            exact ⟨by rw [hE.out, hG.out]; rfl, Kp.alloc _ _⟩
        · have hF := hid (show (V.mk k n l).fault1 = 5 by simp [V.fault1, hp, hl])
          clear hz
          rcases parts_cases hp with ⟨rfl, rfl⟩ | ⟨rfl, rfl⟩ | ⟨rfl, rfl⟩ | ⟨rfl, rfl⟩ | ⟨rfl, rfl⟩ | ⟨rfl, rfl⟩
          all_goals
            go_enter Tryz.func66, Tryz.ntmps66
            go_wp2
            go_ret
            exact ⟨by rw [hE.out, hF.out]; rfl, Kp.alloc _ _⟩
theorem valFault_any (v : V) (ao : Option Addr) (cap : Nat) (w : World) (hI : Is w v ao) (hS : v.size ≤ 500) :
    Calls Tryz.prog 33 #[.agg #[.int .i64 v.kind, .int .i64 v.n, .slice ao v.l.length cap]] w fun e w' => e = .returned (.int .i64 v.check) ∧ Quiet w w' := by
  have q1 : Quiet w (w.alloc (.cells #[.int .i64 v.kind, .int .i64 v.n, .slice ao v.l.length cap] 33)) := Kp.alloc _ _
  have hm := hid (size_any 41 v ao cap 40 _ (by omega) (by omega) (hI.quiet q1))
  have hs : ∀ w2, Quiet w w2 → _ := fun w2 q2 => faultR_any v ao cap w2 (hI.quiet q2) hS
  by_cases hb : 40 < v.size
  · have hE := hid (show v.check = 3 by unfold V.check; rw [if_pos hb])
    have HB := hid hb
    clear hb
    go_enter Tryz.func33, Tryz.ntmps33
    go_wp2_with (go_at_call 30; refine hm.out.mono ?_; rintro e w2 ⟨r, rfl, k1, k2, k3, k4, q2⟩; obtain rfl := k4 HB.out; clear k3 k4)
    go_ret
    exact ⟨by rw [hE.out]; rfl, q1.trans q2⟩
  · have hE := hid (show v.check = v.fault by unfold V.check; rw [if_neg hb])
    have HB := hid hb
    clear hb
    go_enter Tryz.func33, Tryz.ntmps33
    go_wp2_with (first
      | (go_at_call 30; refine hm.out.mono ?_; rintro e w2 ⟨r, rfl, k1, k2, k3, k4, q2⟩; have hr := k3 (by have := HB.out; omega); have hr4 : r ≤ 40 := (by have := HB.out; omega); clear k3 k4 hr; have q12 := q1.trans q2; have c0 : w2.cell? ⟨w.heap.size, 0, none⟩ = some (.int .i64 v.kind) := q2.cell (by simp) (fun e => e); have c1 : w2.cell? ⟨w.heap.size, 1, none⟩ = some (.int .i64 v.n) := q2.cell (by simp) (fun e => e); have c2 : w2.cell? ⟨w.heap.size, 2, none⟩ = some (.slice ao v.l.length cap) := q2.cell (by simp) (fun e => e))
      | (go_at_call 66; refine (hs w2 q12).mono ?_; rintro e w3 ⟨rfl, q3⟩))
    go_ret
    exact ⟨by rw [hE.out]; rfl, q12.trans q3⟩
end Go.Proofs.YtcgjjkaifklnnaaGreat
