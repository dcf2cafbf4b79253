/- The contracts of listOf and Own. -/
import Derived.Test.YtegpnncmphhjjabDoorOwnMem
import Derived.Test.YtegpnncmphhjjabDoorMore
import Derived.Test.YtegpnncmphhjjabDoorRefSize
import Derived.Test.YtegpnncmphhjjabDoorRefOwn
import Derived.Carry
namespace Go.Proofs.YtegpnncmphhjjabDoor
open Go.ChangeShapes Go.WideShapes Go.ChangeAt Go.RowKit
set_option maxHeartbeats 1000000 in
theorem listOf_any (a : Option Addr) (n cap : Nat) (w : World) (ha : 0 < n → ∃ b o, a = some ⟨b, o, none⟩) :
    Calls Tryd.prog 28 #[.slice a n cap] w fun e w' => ∃ p : Option Addr, e = .returned (.agg #[.pointer p, .int .i64 n]) ∧ Quiet w w' := by
  by_cases hn : n = 0
  · subst hn
    go_enter Tryd.func28, Tryd.ntmps28
    go_wp2
    refine bodyPost_ret (v := .agg #[.pointer none, .int .i64 0]) (by simp [results, Tryd.results28, go_sem]) rfl ?_
    exact ⟨none, rfl, Kp.alloc _ _⟩
  · obtain ⟨b, o, rfl⟩ := ha (by omega)
    have hn1 : ¬ (n : Int) = 0 := by omega
    have hn2 : (0 : Int) < (n : Int) := by omega
    go_enter Tryd.func28, Tryd.ntmps28
    go_wp2
    refine bodyPost_ret (v := .agg #[.pointer (some ⟨b, o, none⟩), .int .i64 n]) (by simp [results, Tryd.results28, go_sem]) rfl ?_
    exact ⟨_, rfl, Kp.alloc _ _⟩
theorem part0 (p : Option Addr) (n : Int) (w : World) : (part 37 #[.pointer p, .int .i64 n] 0).run Tryd.prog w = .ok (.pointer p) w := by
  simp [go_sem, part]
theorem part1 (p : Option Addr) (n : Int) (w : World) : (part 3 #[.pointer p, .int .i64 n] 1).run Tryd.prog w = .ok (.int .i64 n) w := by
  simp [go_sem, part]
theorem key_p (p : Option Addr) (m : Nat) (w : World) : (Instr.checkKey true (m + 1) 37 (.pointer p)).run Tryd.prog w = .ok () w := by
  simp [Instr.checkKey, run_underlying Tryd.underlying37, go_sem]
theorem key_i (n : Int) (m : Nat) (w : World) : (Instr.checkKey true (m + 1) 3 (.int .i64 n)).run Tryd.prog w = .ok () w := by
  simp [Instr.checkKey, run_underlying Tryd.underlying3, go_sem]
theorem key_ok (p : Option Addr) (n : Int) (m : Nat) (w : World) : (Instr.checkKey true (m + 1 + 1) 48 (.agg #[.pointer p, .int .i64 n])).run Tryd.prog w = .ok () w := by
  rw [Instr.checkKey]
  simp [run_underlying Tryd.underlying48, part0, part1, key_p, key_i, Result.andThen]
theorem look_nil (p : Option Addr) (n : Int) (w : World) : (Instr.lookup 45 (.map none) (.agg #[.pointer p, .int .i64 n]) true).run Tryd.prog w = .ok (.tuple #[.slice none 0 0, .bool false]) w := by
  have k := key_ok p n 9998 w
  have hz := Tryd.zeroValue22 w
  unfold Instr.lookup
  simp only [Sem.run_bind, run_underlying Tryd.underlying45, Result.andThen]
  rw [show (10000 : Nat) = 9998 + 1 + 1 from rfl]
  generalize (9998 + 1 + 1 : Nat) = M at *
  simp [k, Instr.findKey, Instr.findNow, hz, Result.andThen, run_underlying Tryd.underlying48]
theorem eq_made (d : Nat) (w : World) : (Op.equalIn (d + 1) 45 (.map none) (.map none)).run Tryd.prog w = .ok true w := by
  simp [Op.equalIn, run_underlying Tryd.underlying45]
theorem neq_made (w : World) : (binOp .neq 45 (.map none) (.map none)).run Tryd.prog w = .ok (.bool false) w := by
  simp only [binOp]
  simp [Op.equal, Op.maxDepth, eq_made 9999 w]
/-- The state of the loop of Own: the list of what is still to be copied. -/
structure NS (W : World) (h : Nat) (v : V) (sv : Value) (ts : List Pl) (w : World) : Prop where
  row : w.ownsRow (h + 3) 37 1 sv ts.length (ts.map ptr)
  root : v.at (cutV h w) (h + 2) 0
  rootb : ∃ c, w.heap[h + 2]? = some (.cells c 24 (0, 0))
  all : ∀ x ∈ ts, x.1.at (cutV h w) x.2.1 x.2.2 ∧ h + 2 ≤ x.2.1 ∧ IsV w x.2.1
  low : Below (h + 2) W w
  sz : h + 3 ≤ w.heap.size
theorem set_kind {w : World} {p : Addr} {y : Value} {k : Nat} {c : Array Value} {t : TypeId} {z : Nat × Nat} (hk : w.heap[k]? = some (.cells c t z)) : ∃ c', (w.setCell p y).heap[k]? = some (.cells c' t z) := by
  by_cases e : k = p.block
  · subst e
    exact ⟨_, by simp [World.setCell, Array.getElem?_modify, hk]; rfl⟩
  · exact ⟨c, (Below.heap_setCell _ _ _ _ e).trans hk⟩
/-- A value's list is exchanged for a copy of it. -/
theorem own_copy {W wr X w4 : World} {h : Nat} {v u : V} {sv : Value} {ts : List Pl} {b off : Nat} {ua ao' : Option Addr} {uc G cap' : Nat} (hroot : v.at (cutV h wr) (h + 2) 0) (hrootb : IsV wr (h + 2)) (hall : ∀ x ∈ ts, x.1.at (cutV h wr) x.2.1 x.2.2 ∧ h + 2 ≤ x.2.1 ∧ IsV wr x.2.1)
    (hu : u.at (cutV h wr) b off) (hub : h + 2 ≤ b) (huv : IsV wr b) (hrow : wr.ownsRow (h + 3) 37 1 sv ts.length (ts.map ptr)) (hlow : Below (h + 2) W wr) (hsz : h + 3 ≤ wr.heap.size) (qX : Quiet wr X) (q4 : Quiet X w4) (h2 : X.cell? ⟨b, off + 2, none⟩ = some (.slice ua u.l.length uc))
    (hG : u.l ≠ [] → ao' = some ⟨G, 0, none⟩ ∧ IsV w4 G ∧ X.heap.size ≤ G) (hc : ∀ b0 o0, ua = some ⟨b0, o0, none⟩ → ∀ i, i < u.l.length → ∀ c, c < 3 → ∃ x, w4.cell? ⟨G, i * 3 + c, none⟩ = some x ∧ (cutV h X).cell? ⟨b0, o0 + i * 3 + c, none⟩ = some x) :
    let w5 := w4.setCell ⟨b, off + 2, none⟩ (.slice ao' u.l.length cap')
    NS W h v sv ts w5 ∧ (∀ i (hi : i < u.l.length), u.l[i].at (cutV h w5) G (i * 3)) ∧ (u.l ≠ [] → IsV w5 G ∧ h + 2 ≤ G) ∧ w5.cell? ⟨b, off + 2, none⟩ = some (.slice ao' u.l.length cap') ∧ IsV w5 b := by
  intro w5
  have hsX : wr.heap.size ≤ X.heap.size := qX.size
  have hs4 : X.heap.size ≤ w4.heap.size := q4.size
  have kX : Keeps h wr X := Keeps.quiet qX (by omega)
  obtain ⟨cb, hcb⟩ := huv
  have hbX : X.heap[b]? = some (.cells cb 24 (0, 0)) := (qX.block b (lt_of_block hcb) fun e => e).trans hcb
  have hb4 : w4.heap[b]? = some (.cells cb 24 (0, 0)) := (q4.block b (lt_of_block hbX) fun e => e).trans hbX
  obtain ⟨cb5, hb5⟩ := set_kind (p := ⟨b, off + 2, none⟩) (y := .slice ao' u.l.length cap') hb4
  have h24 : w4.cell? ⟨b, off + 2, none⟩ = some (.slice ua u.l.length uc) := q4.cell h2 fun e => e
  have n5 : w5.cell? ⟨b, off + 2, none⟩ = some (.slice ao' u.l.length cap') := World.cell?_setCell_same' _ _ _ (by rw [h24]; rfl)
  have huX := kX.at hu
  have K1 : ∀ (a : Addr) (x : Value), a ≠ ⟨b, off + 2, none⟩ → (cutV h X).cell? a = some x → (cutV h w5).cell? a = some x := by
    intro a x hne hx
    obtain ⟨h1, h3⟩ := cutV_cell hx
    have h4 : w5.cell? a = some x := cell_set hne (q4.cell h1 fun e => e)
    rcases h3 with h3 | ⟨hle, c, z, h3⟩
    · exact cutV_mk h4 (.inl h3)
    · obtain ⟨c', h5⟩ := set_kind (p := ⟨b, off + 2, none⟩) (y := .slice ao' u.l.length cap') ((q4.block _ (lt_of_block h3) fun e => e).trans h3)
      exact cutV_mk h4 (.inr ⟨hle, c', z, h5⟩)
  have K2 : (cutV h w5).cell? ⟨b, off + 2, none⟩ = some (.slice ao' u.l.length cap') := cutV_mk n5 (.inr ⟨hub, cb5, _, hb5⟩)
  have hbl : b < X.heap.size := lt_of_block hbX
  have IG : u.l ≠ [] → IsV w5 G ∧ h + 2 ≤ G := by
    intro hne
    obtain ⟨_, ⟨c, hgv⟩, hg2⟩ := hG hne
    obtain ⟨c', h5⟩ := set_kind (p := ⟨b, off + 2, none⟩) (y := .slice ao' u.l.length cap') hgv
    exact ⟨⟨c', h5⟩, by omega⟩
  have K3 : ∀ b0 o0, ua = some ⟨b0, o0, none⟩ → ∀ i, i < u.l.length → ∀ c, c < 3 → (cutV h w5).cell? ⟨G, i * 3 + c, none⟩ = (cutV h X).cell? ⟨b0, o0 + i * 3 + c, none⟩ := by
    intro b0 o0 e i hi c hc3
    have hne : u.l ≠ [] := by intro e; rw [e] at hi; simp at hi
    obtain ⟨x, x1, x2⟩ := hc b0 o0 e i hi c hc3
    obtain ⟨⟨c', h5⟩, hGl⟩ := IG hne
    rw [x2]
    refine cutV_mk (cell_set ?_ x1) (.inr ⟨hGl, c', _, h5⟩)
    intro e'
    have h6 := (hG hne).2.2
    simp only [Addr.mk.injEq] at e'
    omega
  have hX2 : (cutV h X).cell? ⟨b, off + 2, none⟩ = some (.slice ua u.l.length uc) := cutV_mk h2 (.inr ⟨hub, cb, _, hbX⟩)
  have T : ∀ (y : V) (b1 o1 : Nat), y.at (cutV h X) b1 o1 → y.at (cutV h w5) b1 o1 := fun y b1 o1 hy => at_write huX hX2 K1 K2 (fun hne => (hG hne).1) K3 y.size y b1 o1 (Nat.le_refl _) hy
  have V5 : ∀ k, IsV wr k → IsV w5 k := by
    rintro k ⟨c, hk⟩
    have := (q4.block k (by have := lt_of_block hk; omega) fun e => e).trans ((qX.block k (lt_of_block hk) fun e => e).trans hk)
    obtain ⟨c', h5⟩ := set_kind (p := ⟨b, off + 2, none⟩) (y := .slice ao' u.l.length cap') this
    exact ⟨c', h5⟩
  have hr4 := q4.row (qX.row hrow fun _ _ e => e) (fun _ _ e => e)
  refine ⟨⟨?_, T _ _ _ (kX.at hroot), V5 _ hrootb, fun x hx => ?_, ?_, ?_⟩, fun i hi => ?_, IG, n5, ⟨cb5, hb5⟩⟩
  · refine (Kp.setCell (F := fun k => k = b) w4 ⟨b, off + 2, none⟩ _ rfl).row hr4 fun k e hk => ?_
    subst hk
    rcases hr4.2 with ⟨rfl, _⟩ | ⟨g, cp, cur, rfl, _, hh, _⟩
    · simp [Value.ownBlock] at e
    · simp [Value.ownBlock] at e; subst e; rw [hh] at hb4; simp at hb4
  · obtain ⟨h1, h3, h4⟩ := hall x hx
    exact ⟨T _ _ _ (kX.at h1), h3, V5 _ h4⟩
  · refine hlow.trans (((qX.trans q4).low.mono (by omega)).trans ?_)
    exact (Below.refl _ _).setCell (p := ⟨b, off + 2, none⟩) hub _
  · show h + 3 ≤ (w4.setCell _ _).heap.size
    simp [World.setCell]; omega
  · have hne : u.l ≠ [] := by intro e; rw [e] at hi; simp at hi
    obtain ⟨hI5, _⟩ := cutV_is (T _ _ _ huX) n5
    obtain ⟨bb, oo, e, k⟩ := hI5.fo i hi
    rw [(hG hne).1] at e
    simp only [Option.some.injEq, Addr.mk.injEq, and_true] at e
    obtain ⟨rfl, rfl⟩ := e
    rwa [Nat.zero_add] at k
/-- One more is to be copied. -/
theorem own_push {W w w1 : World} {h : Nat} {v : V} {sv : Value} {ts : List Pl} {x : Pl} {g cap n : Nat} (H : NS W h v sv ts w) (hx : x.1.at (cutV h w) x.2.1 x.2.2 ∧ h + 2 ≤ x.2.1 ∧ IsV w x.2.1) (hn : n = ts.length)
    (hr1 : w1.ownsRow (h + 3) 37 1 (.slice (some ⟨g, 0, none⟩) (n + 1) cap) (n + 1) (ts.map ptr ++ [ptr x])) (hg : (w.alloc (.cells #[ptr x] 37)).grownBy w1 sv.ownBlock) :
    NS W h v (.slice (some ⟨g, 0, none⟩) (n + 1) cap) (ts ++ [x]) w1 ∧ Keeps h w w1 := by
  subst hn
  have hsz := H.sz
  have k1 : Keeps h w w1 := (Keeps.quiet (Kp.alloc _ _) (by omega)).trans (Keeps.grown (H.row.alloc _) (by decide) (by omega) hg (by simp; omega))
  have V1 : ∀ k, IsV w k → IsV w1 k := fun k ⟨c, hc⟩ => ⟨c, k1.2 k c _ hc⟩
  refine ⟨⟨by simpa using hr1, k1.at H.root, V1 _ H.rootb, fun y hy => ?_, ?_, ?_⟩, k1⟩
  · rcases List.mem_append.1 hy with hy | hy
    · obtain ⟨a1, a2, a3⟩ := H.all y hy; exact ⟨k1.at a1, a2, V1 _ a3⟩
    · simp at hy; subst hy; exact ⟨k1.at hx.1, hx.2.1, V1 _ hx.2.2⟩
  · refine H.low.trans (((Below.refl _ _).alloc (by omega) (.cells #[ptr x] 37)).trans ?_)
    exact (Kp.grown (F := fun k => h + 3 ≤ k) hg fun k _ e => (H.row.lt k e.symm).1).below (by simp; omega) fun k hk => by omega
  · have := hg.size; simp at this; omega
theorem row_isV {w : World} {B G n cap : Nat} {xs : List Value} (h : w.ownsRow B 24 3 (.slice (some ⟨G, 0, none⟩) n cap) n xs) : IsV w G := by
  rcases h.2 with ⟨e, _⟩ | ⟨g, cp, cur, e, _, hh, _⟩
  · simp at e
  · simp only [Value.slice.injEq, Option.some.injEq, Addr.mk.injEq] at e
    obtain ⟨⟨rfl, _⟩, _⟩ := e
    exact ⟨cur, hh⟩
theorem kid_pair {w4 X : World} {h B G m cap : Nat} {ps : List Kd} {b0 o0 b1 o1 i c : Nat} (hr : w4.ownsRow B 24 3 (.slice (some ⟨G, 0, none⟩) m cap) m (tris ps)) (hl : (tris ps).length = m * 3) (h2 : ∀ j x, (tris ps)[j]? = some x → (cutV h X).cell? ⟨b0, o0 + j, none⟩ = some x) (e : (some ⟨b0, o0, none⟩ : Option Addr) = some ⟨b1, o1, none⟩) (hi : i < m) (hc : c < 3) :
    ∃ x, w4.cell? ⟨G, i * 3 + c, none⟩ = some x ∧ (cutV h X).cell? ⟨b1, o1 + i * 3 + c, none⟩ = some x := by
  cases e
  obtain ⟨g', e', d⟩ := owns_at hr (by omega)
  cases e'
  have hlt : i * 3 + c < (tris ps).length := by omega
  refine ⟨(tris ps)[i * 3 + c], ?_, ?_⟩
  · rw [d _ (by omega), List.getElem?_eq_getElem hlt]
  · rw [Nat.add_assoc]; exact h2 _ _ (List.getElem?_eq_getElem hlt)
theorem quiet_none {X w4 : World} (hg : X.grownBy w4 (Value.slice none 0 0).ownBlock) : Quiet X w4 := ⟨hg.os, hg.tape, hg.output, hg.size, fun k hk _ => hg.block k hk (by simp [Value.ownBlock])⟩
theorem own_cell {wr w4 : World} {b off : Nat} {x : Value} (huv : IsV wr b) (q : Quiet wr w4) (hc : wr.cell? ⟨b, off + 2, none⟩ = some x) : w4.cell? ⟨b, off + 2, none⟩ = some x ∧ w4.frozen? ⟨b, off + 2, none⟩ = false := by
  obtain ⟨c, hb⟩ := huv
  exact ⟨q.cell hc fun e => e, frozen_of_row w4 b _ _ 24 ((q.block b (lt_of_block hb) fun e => e).trans hb)⟩
theorem keeps_cell {h : Nat} {w w1 : World} {b off : Nat} {x : Value} (k : Keeps h w w1) (hv : IsV w b) (hc : w.cell? ⟨b, off, none⟩ = some x) : w1.cell? ⟨b, off, none⟩ = some x := by
  obtain ⟨c, hb⟩ := hv
  exact (World.cell?_of_block ((k.2 b c _ hb).trans hb.symm)).trans hc
theorem own_done {w0 W w : World} {v : V} {sv : Value} {ts : List Pl} {aa : Option Addr} (H : NS W w0.heap.size v sv ts w) (hI : Is (cutV w0.heap.size w) v aa) (qW : Quiet w0 W) (x0 x1 x2 : Value) :
    let w' := ((w.setCell ⟨w0.heap.size + 1, 0, none⟩ x0).setCell ⟨w0.heap.size + 1, 1, none⟩ x1).setCell ⟨w0.heap.size + 1, 2, none⟩ x2
    Is w' v aa ∧ Quiet w0 w' := by
  intro w'
  have hs : ∀ b, b ≠ w0.heap.size + 1 → w'.heap[b]? = w.heap[b]? := fun b hb => by
    show (((w.setCell _ _).setCell _ _).setCell _ _).heap[b]? = _
    rw [Below.heap_setCell _ _ _ _ (fun e => hb e), Below.heap_setCell _ _ _ _ (fun e => hb e), Below.heap_setCell _ _ _ _ (fun e => hb e)]
  have hz : w'.heap.size = w.heap.size := by simp [w', World.setCell]
  constructor
  · refine hI.kept fun a x hc => ?_
    obtain ⟨h1, h2⟩ := cutV_cell hc
    refine (World.cell?_of_block (hs a.block ?_)).trans h1
    rcases h2 with h2 | ⟨h2, _⟩ <;> omega
  · refine ⟨H.low.os.trans qW.os, H.low.tape.trans qW.tape, H.low.output.trans qW.output, by have := qW.size; have := H.low.size; omega, fun b hb _ => ?_⟩
    rw [hs b (by omega), H.low.block b (by omega)]
    exact qW.block b hb (fun e => e)
theorem own_start {w W w2 : World} {v : V} {ao : Option Addr} {cap : Nat} (hI : Is w v ao) (b2 : W.heap[w.heap.size + 2]? = some (.cells #[.int .i64 v.kind, .int .i64 v.n, .slice ao v.l.length cap] 24 (0, 0))) (qW : Quiet w W) (sW : W.heap.size = w.heap.size + 3) (q2 : Quiet W w2) :
    NS W w.heap.size v (.slice (some ⟨w2.heap.size, 0, none⟩) 1 1) [(v, w.heap.size + 2, 0)] (w2.alloc (.cells #[.pointer (some ⟨w.heap.size + 2, 0, none⟩)] 37)) := by
  have q3 : Quiet W (w2.alloc (.cells #[.pointer (some ⟨w.heap.size + 2, 0, none⟩)] 37)) := q2.trans (Kp.alloc _ _)
  have hs := q2.size
  have hb := (q3.block (w.heap.size + 2) (by omega) fun e => e).trans b2
  obtain ⟨c0, c1, c2⟩ := box_cells hb
  have hroot : v.at (cutV w.heap.size (w2.alloc (.cells #[.pointer (some ⟨w.heap.size + 2, 0, none⟩)] 37))) (w.heap.size + 2) 0 := by
    rw [at_iff]
    refine ⟨cutV_mk c0 (.inr ⟨Nat.le_refl _, _, _, hb⟩), cutV_mk c1 (.inr ⟨Nat.le_refl _, _, _, hb⟩), ao, cap, cutV_mk c2 (.inr ⟨Nat.le_refl _, _, _, hb⟩), hI.kept fun a x hc => ?_⟩
    have hlt := World.block_lt_of_cell? w a hc
    exact cutV_mk ((qW.trans q3).cell hc fun e => e) (.inl hlt)
  refine ⟨?_, hroot, ⟨_, hb⟩, fun x hx => ?_, q3.below (by omega) (fun _ e => e.elim), by simp; omega⟩
  · exact owns_mono (row_one w2 37 (.pointer (some ⟨w.heap.size + 2, 0, none⟩))) (by omega)
  · simp at hx; subst hx; exact ⟨hroot, Nat.le_refl _, ⟨_, hb⟩⟩
set_option maxHeartbeats 2000000 in
theorem own_any (v : V) (ao : Option Addr) (cap : Nat) (w : World) (hI : Is w v ao) (hS : v.size ≤ 500) :
    Calls Tryd.prog 13 #[.agg #[.int .i64 v.kind, .int .i64 v.n, .slice ao v.l.length cap]] w fun e w' => ∃ ao' cap', e = .returned (.agg #[.int .i64 v.kind, .int .i64 v.n, .slice ao' v.l.length cap']) ∧ Is w' v ao' ∧ Quiet w w' := by
  obtain ⟨i0, hi0, hz0, hz1, hz2⟩ := info_parts Tryd.infoV
  obtain ⟨j0, hj0, jz0, jz1, jz2⟩ := info_parts Tryd.infoP
  obtain ⟨W, hW⟩ : ∃ W, W = ((w.alloc (.cells #[.int .i64 v.kind, .int .i64 v.n, .slice ao v.l.length cap] 24)).alloc (.cells #[.int .i64 0, .int .i64 0, .slice none 0 0] 24)).alloc (.cells #[.int .i64 v.kind, .int .i64 v.n, .slice ao v.l.length cap] 24) := ⟨_, rfl⟩
  have HW := hid hW
  have b1 : W.heap[w.heap.size + 1]? = some (.cells #[.int .i64 0, .int .i64 0, .slice none 0 0] 24 (0, 0)) := by
    rw [hW, Below.heap_alloc _ _ _ (by simp)]; exact heap_two w _ _
  have b2 : W.heap[w.heap.size + 2]? = some (.cells #[.int .i64 v.kind, .int .i64 v.n, .slice ao v.l.length cap] 24 (0, 0)) := by
    rw [hW]; have := heap_alloc_new ((w.alloc (.cells #[.int .i64 v.kind, .int .i64 v.n, .slice ao v.l.length cap] 24)).alloc (.cells #[.int .i64 0, .int .i64 0, .slice none 0 0] 24)) (.cells #[.int .i64 v.kind, .int .i64 v.n, .slice ao v.l.length cap] 24); simpa using this
  have qW : Quiet w W := by rw [hW]; exact (Kp.alloc _ _).trans ((Kp.alloc _ _).trans (Kp.alloc _ _))
  have sW : W.heap.size = w.heap.size + 3 := by rw [hW]; simp
  have HM := hid (more_any v ao cap 67108864 W (hI.quiet qW) hS (by decide) (by decide))
  rw [HW.out] at HM
  have hd := hid (show decide (67108864 < v.size) = false by simp; omega)
  have HB := hid (And.intro b1 (And.intro b2 (And.intro qW sW)))
  have HI := hid hI
  clear hW b1 b2 qW sW hI
  go_enter Tryd.func13, Tryd.ntmps13
  go_wp2_with (go_at_call 22; refine HM.out.mono ?_; rintro e w2 ⟨rfl, q2⟩; rw [hd.out])
  rw [← HW.out] at q2
  go_loopg [5] v.size (fun gk sv wr => ∃ ts : List Pl, tsz ts = gk ∧ gk ≤ v.size ∧ NS W w.heap.size v sv ts wr)
  case atStart => exact ⟨[(v, w.heap.size + 2, 0)], tsz_one _, Nat.le_refl _, own_start HI.out HB.out.2.1 HB.out.2.2.1 HB.out.2.2.2 q2⟩
  case round =>
    obtain ⟨ts, hsz, hle, H⟩ := hrel
    rcases List.eq_nil_or_concat ts with rfl | ⟨ts, ⟨u, b, off⟩, rfl⟩
    · obtain ⟨c0, c1, aa, ac, c2, hIc⟩ := (at_iff _ _ _ _).1 H.root
      have c0 := (cutV_cell c0).1
      have c1 := (cutV_cell c1).1
      have c2 := (cutV_cell c2).1
      rw [Nat.zero_add] at c1 c2
      have hb1 := (H.low.block (w.heap.size + 1) (by omega)).trans HB.out.1
      obtain ⟨r0, r1, r2⟩ := box_cells hb1
      obtain ⟨f0, f1, f2⟩ := box_free hb1
      obtain ⟨av, cv, hsv⟩ := owns_shape H.row
      have HF := hid (own_done H hIc HB.out.2.2.1 (.int .i64 v.kind) (.int .i64 v.n) (.slice aa v.l.length ac))
      subst hsv
      clear hsz hle H hIc hb1
      go_wp2
      refine bodyPost_ret (v := .agg #[.int .i64 v.kind, .int .i64 v.n, .slice aa v.l.length ac]) (by simp [results, Tryd.results13, go_sem, r0, r1, r2]) rfl ?_
      exact ⟨aa, ⟨ac, rfl⟩, HF.out.1, HF.out.2⟩
    · rw [List.concat_eq_append] at hsz H
      have hr := H.row
      rw [List.map_append, List.map_cons, List.map_nil, List.length_append, List.length_cons, List.length_nil, Nat.zero_add] at hr
      obtain ⟨g, cp, hv⟩ := lies_shape hr (by omega)
      subst hv
      obtain ⟨hr', hc'⟩ := owns_pop hr rfl
      have hc := hc' 0 (by decide)
      simp only [Nat.mul_one, Nat.add_zero, List.getElem?_cons_zero, ptr] at hc
      obtain ⟨hu, hub, huv⟩ := H.all (u, b, off) (by simp)
      simp only at hu hub huv
      obtain ⟨c0, c1, ua, uc, c2, hui⟩ := (at_iff _ _ _ _).1 (at_uncut hu)
      rw [tsz_app, tsz_one] at hsz
      have htl := tsz_len ts
      have hus := size_eq u
      have hul := sizes_len u.l
      have hcp := owns_cap hr
      simp only at hsz
      have hul5 : u.l.length ≤ 500 := by omega
      have htl5 : ts.length ≤ 500 := by omega
      have HX := hid (And.intro hsz (And.intro hus hle))
      have HH := hid (And.intro H (And.intro hr' (And.intro hu (And.intro hub huv))))
      have HL := hid (listOf_any ua u.l.length uc wr (fun h => by obtain ⟨bb, oo, e, _⟩ := hui.fo 0 h; exact ⟨bb, oo, e⟩))
      have HV := hid huv
      clear hc' hr c0 c1 hsz hus hle H hr' hu hub huv
      have hlk := look_nil
      have hmd := neq_made
      by_cases hl0 : u.l.length = 0
      · have hnil := hid (List.eq_nil_of_length_eq_zero hl0)
        have hc2 := hid c2
        have key : ∀ X, Quiet wr X → NS W w.heap.size v (.slice (some ⟨g, 0, none⟩) ts.length cp) ts (X.setCell ⟨b, off + 2, none⟩ (.slice none 0 0)) ∧ (X.setCell ⟨b, off + 2, none⟩ (.slice none 0 0)).cell? ⟨b, off + 2, none⟩ = some (.slice none 0 0) := by
          intro X qX
          have h := own_copy (G := 0) (ao' := none) (cap' := 0) HH.out.1.root HH.out.1.rootb (fun x hx => HH.out.1.all x (by simp [hx])) HH.out.2.2.1 HH.out.2.2.2.1 HH.out.2.2.2.2 HH.out.2.1 HH.out.1.low HH.out.1.sz qX (Kp.refl _ X) (qX.cell hc2.out fun e => e) (fun h => absurd hnil.out h) (fun b0 o0 _ i hi => by rw [hnil.out] at hi; simp at hi)
          have h1 := h.1
          have h2 := h.2.2.2.1
          rw [hl0] at h1 h2
          exact ⟨h1, h2⟩
        have HKY := hid key
        rw [hl0] at c2 HL
        clear key hul hul5 hui hl0
        cases ua with
        | none =>
          go_wp2_with (go_at_call 28; refine HL.out.mono ?_; rintro e w3 ⟨pp, rfl, q3⟩; have d2 : w3.cell? ⟨b, off + 2, none⟩ = some (.slice none 0 uc) := q3.cell c2 (fun e => e); have qX : Quiet wr (w3.alloc (.cells #[.pointer pp, .int .i64 0] 48)) := q3.trans (Kp.alloc _ _); have d3 := own_cell HV.out qX c2; have d31 := d3.1; have d32 := d3.2; clear d3)
          go_loopw [5, 67] (fun sv i w6 => i = .int .i64 0 ∧ sv = .slice (some ⟨g, 0, none⟩) ts.length cp ∧ NS W w.heap.size v sv ts w6) (fun _ _ _ => 0)
          case atStart => exact ⟨rfl, rfl, (HKY.out _ qX).1⟩
          case round =>
            obtain ⟨rfl, rfl, N6⟩ := hrel
            have HN6 := hid N6
            clear N6
            go_wp2
            go_roundg (tsz ts)
            case measure => have h3 := HX.out; omega
            case rel => exact ⟨ts, rfl, by have h3 := HX.out; omega, HN6.out⟩
        | some a =>
          go_wp2_with (go_at_call 28; refine HL.out.mono ?_; rintro e w3 ⟨pp, rfl, q3⟩; have d2 : w3.cell? ⟨b, off + 2, none⟩ = some (.slice (some a) 0 uc) := q3.cell c2 (fun e => e); have qX : Quiet wr (w3.alloc (.cells #[.pointer pp, .int .i64 0] 48)) := q3.trans (Kp.alloc _ _); have d3 := own_cell HV.out qX c2; have d31 := d3.1; have d32 := d3.2; clear d3)
          go_loopw [5, 67] (fun sv i w6 => i = .int .i64 0 ∧ sv = .slice (some ⟨g, 0, none⟩) ts.length cp ∧ NS W w.heap.size v sv ts w6) (fun _ _ _ => 0)
          case atStart => exact ⟨rfl, rfl, (HKY.out _ qX).1⟩
          case round =>
            obtain ⟨rfl, rfl, N6⟩ := hrel
            have HN6 := hid N6
            clear N6
            go_wp2
            go_roundg (tsz ts)
            case measure => have h3 := HX.out; omega
            case rel => exact ⟨ts, rfl, by have h3 := HX.out; omega, HN6.out⟩
      · obtain ⟨b0, o0, hua⟩ : ∃ b0 o0, ua = some ⟨b0, o0, none⟩ := by obtain ⟨b0, o0, e, _⟩ := hui.fo 0 (by omega); exact ⟨b0, o0, e⟩
        subst hua
        have hpos : 0 < u.l.length := by omega
        have key : ∀ w3, Quiet wr w3 → ∃ ps : List Kd, ps.map (·.1) = u.l ∧ (∀ j x, (tris ps)[j]? = some x → (cutV w.heap.size w3).cell? ⟨b0, o0 + j, none⟩ = some x) ∧ (∀ j x, (tris ps)[j]? = some x → w3.cell? ((⟨b0, o0, none⟩ : Addr).add j) = some x) ∧ (tris ps).length = u.l.length * 3 := by
          intro w3 q3
          have hk : Keeps w.heap.size wr w3 := Keeps.quiet q3 (by have := HH.out.1.sz; omega)
          obtain ⟨hI3, _⟩ := cutV_is (hk.at HH.out.2.2.1) (q3.cell c2 fun e => e)
          obtain ⟨ps, h1, h2⟩ := kids_of hI3
          refine ⟨ps, h1, h2, fun j x hx => ?_, ?_⟩
          · rw [Addr.add_lit]; exact (cutV_cell (h2 j x hx)).1
          · rw [tris_len, ← h1, List.length_map]
        have HK := hid key
        have hcc := hid c2
        clear key
        go_wp2_with (first
          | (go_at_call 28; refine HL.out.mono ?_; rintro e w3 ⟨pp, rfl, q3⟩; have d2 : w3.cell? ⟨b, off + 2, none⟩ = some (.slice (some ⟨b0, o0, none⟩) u.l.length uc) := q3.cell c2 (fun e => e); have qX : Quiet wr (w3.alloc (.cells #[.pointer pp, .int .i64 u.l.length] 48)) := q3.trans (Kp.alloc _ _); have d3 : (w3.alloc (.cells #[.pointer pp, .int .i64 u.l.length] 48)).cell? ⟨b, off + 2, none⟩ = some (.slice (some ⟨b0, o0, none⟩) u.l.length uc) := qX.cell c2 (fun e => e); obtain ⟨ps, p1, p2, p3, p4⟩ := HK.out _ qX; have HP1 := hid p1; clear p1)
          | (at_builtin; refine wpList_append_lies _ rfl (.const (.slice none 0 0)) (.tmp 50) 22 rfl (w.heap.size + 3) 24 i0 _ 3 40 Tryd.undV hi0 hz0 hz1 hz2 rfl (by decide) (.slice none 0 0) 0 [] rfl (World.ownsRow_nil _ _ _ _) ⟨b0, o0, none⟩ u.l.length uc (tris ps) rfl p4 p3 (tris_onec ps) hpos (by unfold maxLen; omega) (by omega) (by have := HH.out.1.sz; have := qX.size; omega) _ rfl ?_; intro G cap4 w4 hr4 hg4 hat4 hlt4; rw [Nat.zero_add, List.nil_append] at hr4; have q4 : Quiet (w3.alloc (.cells #[.pointer pp, .int .i64 u.l.length] 48)) w4 := quiet_none hg4; have hGe := hid (hat4.resolve_left (by simp [Value.ownBlock])); have e4 := own_cell HV.out (qX.trans q4) c2; have e41 := e4.1; have e42 := e4.2; clear hg4 hat4 e4))
        have HC := hid (own_copy (G := G) (ao' := some ⟨G, 0, none⟩) (cap' := cap4) HH.out.1.root HH.out.1.rootb (fun x hx => HH.out.1.all x (by simp [hx])) HH.out.2.2.1 HH.out.2.2.2.1 HH.out.2.2.2.2 HH.out.2.1 HH.out.1.low HH.out.1.sz qX q4 d3 (fun _ => ⟨rfl, row_isV hr4, Nat.le_of_eq hGe.out.symm⟩) (fun b1 o1 e i hi c hc3 => kid_pair hr4 p4 p2 e hi hc3))
        have hmm := hid (And.intro hui hul)
        clear p2 p3 p4 hr4 hGe d2 d3 e41 e42 hlk hmd c2 hcc hui hul q4 qX q3 hc hcp
        go_loopw [5, 67] (fun sv i w6 => ∃ (j : Nat) (ks : List Pl), j ≤ u.l.length ∧ i = .int .i64 j ∧ NS W w.heap.size v sv (ts ++ ks) w6 ∧ (tsz ks = sizes (u.l.take j) ∧ ks.length = j) ∧ w6.cell? ⟨b, off + 2, none⟩ = some (.slice (some ⟨G, 0, none⟩) u.l.length cap4) ∧ (IsV w6 G ∧ IsV w6 b ∧ w.heap.size + 2 ≤ G) ∧ ∀ i (hi : i < u.l.length), u.l[i].at (cutV w.heap.size w6) G (i * 3)) (fun _ i _ => u.l.length - (intOf i).toNat)
        case atStart =>
          refine ⟨0, [], Nat.zero_le _, rfl, by rw [List.append_nil]; exact HC.out.1, ⟨by simp [tsz_nil, sizes_nil], rfl⟩, HC.out.2.2.2.1, ?_, HC.out.2.1⟩
          have hne : u.l ≠ [] := by intro e; rw [e] at hpos; simp at hpos
          exact ⟨(HC.out.2.2.1 hne).1, HC.out.2.2.2.2, (HC.out.2.2.1 hne).2⟩
        case round =>
          obtain ⟨j, ks, hj, rfl, H6, hks, c6, hv6, hat6⟩ := hrel
          have hsz6 := H6.sz
          have hrow6 := H6.row
          obtain ⟨av, cv, hsv⟩ := owns_shape hrow6
          have hlen5 : (ts ++ ks).length ≤ 1000 := by have := hks.2; simp only [List.length_append]; omega
          have HQ := hid (And.intro hks (And.intro hv6 (And.intro hat6 (And.intro H6 c6))))
          clear hks hv6 hat6 H6
          by_cases hlt : j < u.l.length
          · have HZ := hid (sizes_take u.l j hlt)
            have HA := hid (HQ.out.2.2.1 j hlt)
            have HR := hid hrow6
            clear hrow6
            subst hsv
            go_wp2_with (at_builtin; refine wpList_append_lies _ rfl (.tmp 70) (.tmp 77) 46 rfl (w.heap.size + 3) 37 j0 _ 1 8 Tryd.undP hj0 jz0 jz1 jz2 rfl (by decide) _ (ts ++ ks).length ((ts ++ ks).map ptr) rfl (HR.out.alloc _) ⟨wr.heap.size, 0, none⟩ 1 1 [ptr (u.l[j], G, j * 3)] rfl rfl (news_at wr _ 37) (by simp [Value.oneCell', ptr]) (by decide) (by unfold maxLen; omega) (by omega) (by simp; omega) _ rfl ?_; intro g2 cap2 w7 hr7 hg7 hat7 hlt7; have hS := hid (own_push (x := (u.l[j], G, j * 3)) HQ.out.2.2.2.1 ⟨HA.out, HQ.out.2.1.2.2, HQ.out.2.1.1⟩ rfl hr7 hg7); clear hr7 hg7 hat7 hlt7)
            refine ⟨⟨j + 1, ks ++ [(u.l[j], G, j * 3)], by omega, by go_num, ?_, ?_, keeps_cell hS.out.2 HQ.out.2.1.2.1 HQ.out.2.2.2.2, ⟨?_, ?_, HQ.out.2.1.2.2⟩, fun i hi => hS.out.2.at (HQ.out.2.2.1 i hi)⟩, by simp [intOf]; omega⟩
            · rw [← List.append_assoc]; have := hS.out.1; rw [show (ts ++ ks).length = ts.length + ks.length from List.length_append] at this; exact this
            · rw [tsz_app, tsz_one, HZ.out, HQ.out.1.1, List.length_append, HQ.out.1.2]; exact ⟨rfl, rfl⟩
            · obtain ⟨c, hc⟩ := HQ.out.2.1.1; exact ⟨c, hS.out.2.2 _ _ _ hc⟩
            · obtain ⟨c, hc⟩ := HQ.out.2.1.2.1; exact ⟨c, hS.out.2.2 _ _ _ hc⟩
          · have hjl : j = u.l.length := by omega
            subst hjl
            subst hsv
            clear hrow6
            go_wp2
            go_roundg (tsz (ts ++ ks))
            case measure =>
              have h2 := HQ.out.1.1; have h3 := HX.out
              rw [List.take_length] at h2; rw [tsz_app]; omega
            case rel =>
              refine ⟨ts ++ ks, rfl, ?_, by have := HQ.out.2.2.2.1; rw [List.length_append] at this; exact this⟩
              have h2 := HQ.out.1.1; have h3 := HX.out
              rw [List.take_length] at h2; rw [tsz_app]; omega
end Go.Proofs.YtegpnncmphhjjabDoor
