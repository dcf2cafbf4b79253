/- The contracts of package world (Read, Write, Cells, Log) and of the document's SameLongs and SameEntries. -/
import Derived.Test.YtjgeheggdoghiaaEnter
import Derived.BigQuiet
namespace Go.Proofs.Ytjgeheggdoghiaa
open Go.ChangeShapes Go.WideShapes Go.ChangeAt Go.RowKit
theorem Goes.refl (b : Nat) (v : Value) (w : World) : Goes b v w v w := ⟨Kp.refl _ _, .inl rfl⟩
def heldAt (cs : List Int) (c : Int) : Int := if hasB c then cs.getD c.toNat 0 else 0
def holdAt (cs : List Int) (c x : Int) : List Int := if hasB c then cs.set c.toNat x else cs
def entryOf (es : List Ent) (p c r n : Int) : List Ent := if hasB c then es ++ [⟨p, c, r, n⟩] else es
theorem hasB_yes {c : Int} (h : hasB c = true) : ∃ k : Nat, c = k ∧ k < 12 := by
  simp [hasB] at h
  exact ⟨c.toNat, by omega, by omega⟩
set_option maxHeartbeats 1000000 in
theorem read_any (B : Nat) (w : World) (b : Nat) (cs : List Int) (v : Value) (es : List Ent) (h : WS B w b cs v es) (hn : es.length ≤ 100000) (p c n : Int) :
    Calls Try.prog 20 #[.pointer (some ⟨b, 0, none⟩), .int .i64 p, .int .i64 c, .int .i64 n] w fun e w' =>
      e = .returned (.tuple #[.int .i64 (heldAt cs c), .bool (hasB c)]) ∧ ∃ v', WS B w' b cs v' (entryOf es p c 1 n) ∧ Goes b v w v' w' := by
  cases hc : hasB c with
  | false =>
    have e1 := hid (show heldAt cs c = 0 by simp [heldAt, hc])
    have e2 := hid (show entryOf es p c 1 n = es by simp [entryOf, hc])
    go_enter Try.func20, Try.ntmps20
    go_wp2_with (go_at_call 19; refine (has_any _ _).mono ?_; rintro e w' ⟨rfl, rfl⟩)
    go_ret2
    exact ⟨by rw [e1.out]; rfl, v, by rw [e2.out]; exact h, Goes.refl _ _ _⟩
  | true =>
    have e1 := hid (show heldAt cs c = cs.getD c.toNat 0 by simp [heldAt, hc])
    have e2 := hid (show entryOf es p c 1 n = es ++ [⟨p, c, 1, n⟩] by simp [entryOf, hc])
    obtain ⟨k, rfl, hk⟩ := hasB_yes hc
    go_enter Try.func20, Try.ntmps20
    go_wp2_with (first
      | (go_at_call 19; refine (has_any _ _).mono ?_; rintro e w' ⟨rfl, rfl⟩)
      | (go_at_call 27; refine (enter_any B _ b cs v es h hn _ _ _ _).mono ?_; rintro e w1 ⟨rfl, v', h1, hg⟩; have hcell := h1.obj.cell k hk))
    go_ret2
    exact ⟨by rw [e1.out]; rfl, v', by rw [e2.out]; exact h1, hg⟩
theorem write_done {B : Nat} {w w1 : World} {b : Nat} {cs : List Int} {v v' : Value} {es : List Ent} {k : Nat} (h1 : WS B w1 b cs v' es) (hg : Goes b v w v' w1) (hk : k < 12) (x : Int) :
    WS B (w1.setCell ⟨b, k, none⟩ (.int .i64 x)) b (cs.set k x) v' es ∧ Goes b v w v' (w1.setCell ⟨b, k, none⟩ (.int .i64 x)) :=
  ⟨⟨h1.obj.setAt k hk x, ownsRow_setCell_other h1.row (a := ⟨b, k, none⟩) h1.ne _, h1.ne, h1.lo⟩, hg.kp.trans (Kp.setCell _ _ _ (.inl rfl)), hg.near⟩
set_option maxHeartbeats 1000000 in
theorem write_any (B : Nat) (w : World) (b : Nat) (cs : List Int) (v : Value) (es : List Ent) (h : WS B w b cs v es) (hn : es.length ≤ 100000) (p c n x : Int) :
    Calls Try.prog 21 #[.pointer (some ⟨b, 0, none⟩), .int .i64 p, .int .i64 c, .int .i64 n, .int .i64 x] w fun e w' =>
      e = .returned (.bool (hasB c)) ∧ ∃ v', WS B w' b (holdAt cs c x) v' (entryOf es p c 2 n) ∧ Goes b v w v' w' := by
  cases hc : hasB c with
  | false =>
    have e1 := hid (show holdAt cs c x = cs by simp [holdAt, hc])
    have e2 := hid (show entryOf es p c 2 n = es by simp [entryOf, hc])
    go_enter Try.func21, Try.ntmps21
    go_wp2_with (go_at_call 19; refine (has_any _ _).mono ?_; rintro e w' ⟨rfl, rfl⟩)
    go_ret
    exact ⟨rfl, v, by rw [e1.out, e2.out]; exact h, Goes.refl _ _ _⟩
  | true =>
    have e1 := hid (show holdAt cs c x = cs.set c.toNat x by simp [holdAt, hc])
    have e2 := hid (show entryOf es p c 2 n = es ++ [⟨p, c, 2, n⟩] by simp [entryOf, hc])
    obtain ⟨k, rfl, hk⟩ := hasB_yes hc
    go_enter Try.func21, Try.ntmps21
    go_wp2_with (first
      | (go_at_call 19; refine (has_any _ _).mono ?_; rintro e w' ⟨rfl, rfl⟩)
      | (go_at_call 27; refine (enter_any B _ b cs v es h hn _ _ _ _).mono ?_; rintro e w1 ⟨rfl, v', h1, hg⟩; have hcell := h1.obj.cell k hk; have hfree := h1.obj.free k))
    go_ret
    have hD := write_done h1 hg hk x
    exact ⟨rfl, v', by rw [e1.out, e2.out]; exact hD.1, hD.2⟩
def longs (cs : List Int) : List Value := cs.map (Value.int .i64)
theorem cs12 {cs : List Int} (h : cs.length = 12) : ∃ a0 a1 a2 a3 a4 a5 a6 a7 a8 a9 a10 a11, cs = [a0, a1, a2, a3, a4, a5, a6, a7, a8, a9, a10, a11] := by
  match cs, h with
  | [a0, a1, a2, a3, a4, a5, a6, a7, a8, a9, a10, a11], _ => exact ⟨a0, a1, a2, a3, a4, a5, a6, a7, a8, a9, a10, a11, rfl⟩
set_option maxHeartbeats 1000000 in
theorem cells_any (B : Nat) (w : World) (b : Nat) (cs : List Int) (v : Value) (es : List Ent) (h : WS B w b cs v es) :
    Calls Try.prog 23 #[.pointer (some ⟨b, 0, none⟩)] w fun e w' =>
      e = .returned (.slice (some ⟨w.heap.size, 0, none⟩) 12 12) ∧ w'.heap[w.heap.size]? = some (.cells (longs cs).toArray 53 (0, 0)) ∧ Kp (fun _ => False) w w' := by
  obtain ⟨a0, a1, a2, a3, a4, a5, a6, a7, a8, a9, a10, a11, rfl⟩ := cs12 h.obj.len
  have c0 := h.obj.cell 0 (by decide)
  have c1 := h.obj.cell 1 (by decide)
  have c2 := h.obj.cell 2 (by decide)
  have c3 := h.obj.cell 3 (by decide)
  have c4 := h.obj.cell 4 (by decide)
  have c5 := h.obj.cell 5 (by decide)
  have c6 := h.obj.cell 6 (by decide)
  have c7 := h.obj.cell 7 (by decide)
  have c8 := h.obj.cell 8 (by decide)
  have c9 := h.obj.cell 9 (by decide)
  have c10 := h.obj.cell 10 (by decide)
  have c11 := h.obj.cell 11 (by decide)
  simp only [List.getD_cons_zero, List.getD_cons_succ] at c0 c1 c2 c3 c4 c5 c6 c7 c8 c9 c10 c11
  clear h
  go_enter Try.func23, Try.ntmps23
  go_wp2
  go_ret
  exact ⟨rfl, heap_alloc_new w _, Kp.alloc w _⟩
theorem equalIn37 (d : Nat) (a : Option Addr) (n c : Nat) (w : World) : (Op.equalIn (d + 1) 37 (.slice a n c) (.slice none 0 0)).run Try.prog w = .ok a.isNone w := by
  cases a <;> simp [Op.equalIn, run_underlying Try.underlying37]
theorem eql37 (a : Option Addr) (n c : Nat) (w : World) : (binOp .eql 37 (.slice a n c) (.slice none 0 0)).run Try.prog w = .ok (.bool a.isNone) w := by
  simp only [binOp]
  simp [Op.equal, Op.maxDepth, equalIn37 9999 a n c w]
theorem src_cells {B : Nat} {w : World} {g n cap : Nat} {xs : List Value} (h : w.ownsRow B 43 4 (.slice (some ⟨g, 0, none⟩) n cap) n xs) (o : Obj) :
    ∀ j u, xs[j]? = some u → (w.alloc o).cell? ((⟨g, 0, none⟩ : Addr).add j) = some u := (h.alloc o).cells rfl
theorem clone_done {w w1 : World} {o : Obj} {v' : Value} {n : Nat} {xs : List Value} (hr : w1.ownsRow w.heap.size 43 4 v' (0 + n) ([] ++ xs)) (hg : (w.alloc o).grownBy w1 (Value.slice (some ⟨w.heap.size, 0, none⟩) 0 0).ownBlock) :
    w1.ownsRow w.heap.size 43 4 v' n xs ∧ Kp (fun _ => False) w w1 := by
  refine ⟨by simpa using hr, hg.os, hg.tape, hg.output, Nat.le_trans (Kp.alloc (F := fun _ => False) w o).size hg.size, fun k hk _ => ?_⟩
  rw [hg.block k (by simp; omega) (by simp [Value.ownBlock]; omega)]
  exact Below.heap_alloc w o k hk
set_option maxHeartbeats 1000000 in
theorem clone_any (B : Nat) (w : World) (v : Value) (es : List Ent) (h : w.ownsRow B 43 4 v es.length (entCells es)) (hn : es.length ≤ 100000) :
    Calls Try.prog 28 #[v] w fun e w' => ∃ v', e = .returned v' ∧ w'.ownsRow w.heap.size 43 4 v' es.length (entCells es) ∧ Kp (fun _ => False) w w' := by
  obtain ⟨i0, hi, hz0, hz1, hz2⟩ := info_parts Try.info43
  have q := eql37
  rcases h.2 with ⟨rfl, h0⟩ | ⟨g, cap, cur, rfl, _⟩
  · have hN := hid (show w.ownsRow w.heap.size 43 4 (.slice none 0 0) es.length (entCells es) from ⟨h.1, .inl ⟨rfl, h0⟩⟩)
    clear h h0
    go_enter Try.func28, Try.ntmps28
    go_wp2
    go_ret
    exact ⟨_, rfl, hN.out, Kp.refl _ _⟩
  · have hlen := entCells_len es
    have hmade := hid (World.ownsRow_made (base := w.heap.size) (e := 43) (size := 4) w #[] 0 (Nat.le_refl _) (by decide) (by simp))
    have hsrc := hid (src_cells h (.cells #[] 43))
    clear h
    go_enter Try.func28, Try.ntmps28
    go_wp2_with (at_builtin; refine wpList_append_own _ rfl (.tmp 5) (.tmp 6) 37 rfl w.heap.size 43 i0 _ 4 32 Try.underlying37 hi hz0 hz1 hz2 rfl (by decide) (.slice (some ⟨w.heap.size, 0, none⟩) 0 0) 0 [] rfl hmade.out ⟨g, 0, none⟩ es.length cap (entCells es) rfl hlen hsrc.out (entCells_one es) (by unfold maxLen; omega) (by omega) (by simp) ?_; intro v' w1 hr hg _; have hD0 := clone_done hr hg; clear hr hg; obtain ⟨ao, cap', rfl⟩ := owns_shape hD0.1; have hD := hid hD0; clear hD0)
    go_ret
    exact ⟨_, rfl, hD.out.1, hD.out.2⟩
set_option maxHeartbeats 1000000 in
theorem log_any (B : Nat) (w : World) (b : Nat) (cs : List Int) (v : Value) (es : List Ent) (h : WS B w b cs v es) (hn : es.length ≤ 100000) :
    Calls Try.prog 25 #[.pointer (some ⟨b, 0, none⟩)] w fun e w' => ∃ v', e = .returned v' ∧ w'.ownsRow w.heap.size 43 4 v' es.length (entCells es) ∧ Kp (fun _ => False) w w' := by
  have hl := h.obj.log
  go_enter Try.func25, Try.ntmps25
  go_wp2_with (go_at_call 28; refine (clone_any B _ v es h.row hn).mono ?_; rintro e w1 ⟨v', rfl, hr, hk⟩; obtain ⟨ao, cap, rfl⟩ := owns_shape hr)
  go_ret
  exact ⟨_, rfl, hr, hk⟩
theorem Kp.drewN {F : Nat → Prop} (w : World) (n : Nat) : Kp F w (w.drewN n) := ⟨rfl, rfl, rfl, Nat.le_refl _, fun _ _ _ => rfl⟩
theorem Try.underlying36 : Try.prog.underlying 36 = some (.slice 2) := by kernel_rfl
set_option maxHeartbeats 1000000 in
theorem longs_any (w : World) (cs : List Int) (g1 g2 n1 n2 : Nat) (hl : cs.length ≤ 100000) (h1 : ∀ j, j < cs.length → w.cell? ⟨g1, j, none⟩ = some (.int .i64 (cs.getD j 0))) (h2 : ∀ j, j < cs.length → w.cell? ⟨g2, j, none⟩ = some (.int .i64 (cs.getD j 0))) :
    Calls Try.prog 22 #[.slice (some ⟨g1, 0, none⟩) cs.length n1, .slice (some ⟨g2, 0, none⟩) cs.length n2] w fun e w' => e = .returned (.bool true) ∧ Kp (fun _ => False) w w' := by
  have H1 := hid h1
  have H2 := hid h2
  clear h1 h2
  go_enter Try.func22, Try.ntmps22
  go_wp2
  go_loopw [5] (fun i w' => Kp (fun _ => False) w w' ∧ ∃ k : Nat, k ≤ cs.length ∧ i = .int .i64 k) (fun i _ => cs.length - (intOf i).toNat)
  case atStart => exact ⟨Kp.refl _ _, 0, Nat.zero_le _, rfl⟩
  case round =>
    obtain ⟨hk, k, hkl, rfl⟩ := hrel
    by_cases hlt : k < cs.length
    · have c1 := hk.cell (H1.out k hlt) (by simp)
      have c2 := hk.cell (H2.out k hlt) (by simp)
      have K := hid hk
      clear hk
      go_wp2
      go_quiet (fail)
      go_wp2
      exact ⟨⟨K.out.trans (Kp.drewN _ _), k + 1, by omega, by go_num⟩, by simp [intOf]; omega⟩
    · go_wp2
      go_ret
      exact ⟨rfl, hk⟩
theorem owns_at {w : World} {base : Nat} {e : TypeId} {size : Nat} {ao : Option Addr} {cap n : Nat} {xs : List Value} (h : w.ownsRow base e size (.slice ao n cap) n xs) (hn : 0 < n) :
    ∃ g, ao = some ⟨g, 0, none⟩ ∧ ∀ j, j < n * size → w.cell? ⟨g, j, none⟩ = xs[j]? := by
  rcases h.2 with ⟨h', h0⟩ | ⟨g, cap', cur, h', _⟩
  · omega
  · simp only [Value.slice.injEq] at h'
    obtain ⟨rfl, _, rfl⟩ := h'
    exact ⟨g, rfl, fun j hj => h.cellAt j hj⟩
theorem eq43 (a b c d a' b' c' d' : Int) (w : World) : (Op.equalIn 10000 43 (.agg #[.int .i64 a, .int .i64 b, .int .i64 c, .int .i64 d]) (.agg #[.int .i64 a', .int .i64 b', .int .i64 c', .int .i64 d'])).run Try.prog w = .ok (a == a' && b == b' && c == c' && d == d') w := by
  have hS : Try.prog.underlying 43 = some (.struct (Try.prog.fieldsOf 43)) := by kernel_rfl
  have hp : Try.prog.stoodInHeld 43 = false := by kernel_rfl
  rw [show (10000 : Nat) = 9999 + 1 from rfl, run_equalIn_agg w 9999 43 _ _ hS hp]
  simp only [Program.fieldsOf, Try.underlying43]
  go_simp
  by_cases h1 : a = a' <;> by_cases h2 : b = b' <;> by_cases h3 : c = c' <;> by_cases h4 : d = d' <;> simp [h1, h2, h3, h4]
theorem ent_cells {w : World} {g : Nat} {es : List Ent} (h : ∀ j, j < es.length * 4 → w.cell? ⟨g, j, none⟩ = (entCells es)[j]?) (k : Nat) (hk : k < es.length) :
    w.cell? ⟨g, k * 4, none⟩ = some (.int .i64 es[k].plugin) ∧ w.cell? ⟨g, k * 4 + 1, none⟩ = some (.int .i64 es[k].cell) ∧ w.cell? ⟨g, k * 4 + 2, none⟩ = some (.int .i64 es[k].right) ∧ w.cell? ⟨g, k * 4 + 3, none⟩ = some (.int .i64 es[k].node) := by
  refine ⟨?_, ?_, ?_, ?_⟩
  · rw [h _ (by omega), show k * 4 = k * 4 + 0 from rfl, entCells_at es k 0 hk (by decide)]; rfl
  · rw [h _ (by omega), entCells_at es k 1 hk (by decide)]; rfl
  · rw [h _ (by omega), entCells_at es k 2 hk (by decide)]; rfl
  · rw [h _ (by omega), entCells_at es k 3 hk (by decide)]; rfl
set_option maxHeartbeats 1000000 in
theorem entries_any (B1 B2 : Nat) (w : World) (es : List Ent) (v1 v2 : Value) (hl : es.length ≤ 100000) (h1 : w.ownsRow B1 43 4 v1 es.length (entCells es)) (h2 : w.ownsRow B2 43 4 v2 es.length (entCells es)) :
    Calls Try.prog 24 #[v1, v2] w fun e w' => e = .returned (.bool true) ∧ Kp (fun _ => False) w w' := by
  have H1 := hid h1
  have H2 := hid h2
  have q := eq43
  obtain ⟨a1, n1, rfl⟩ := owns_shape h1
  obtain ⟨a2, n2, rfl⟩ := owns_shape h2
  clear h1 h2
  go_enter Try.func24, Try.ntmps24
  go_wp2
  go_loopw [5] (fun i w' => Kp (fun _ => False) w w' ∧ ∃ k : Nat, k ≤ es.length ∧ i = .int .i64 k) (fun i _ => es.length - (intOf i).toNat)
  case atStart => exact ⟨Kp.refl _ _, 0, Nat.zero_le _, rfl⟩
  case round =>
    obtain ⟨hk, k, hkl, rfl⟩ := hrel
    by_cases hlt : k < es.length
    · obtain ⟨g1, rfl, d1⟩ := owns_at H1.out (by omega)
      obtain ⟨g2, rfl, d2⟩ := owns_at H2.out (by omega)
      obtain ⟨c1, c2, c3, c4⟩ := ent_cells d1 k hlt
      obtain ⟨c5, c6, c7, c8⟩ := ent_cells d2 k hlt
      replace c1 := hk.cell c1 (by simp)
      replace c2 := hk.cell c2 (by simp)
      replace c3 := hk.cell c3 (by simp)
      replace c4 := hk.cell c4 (by simp)
      replace c5 := hk.cell c5 (by simp)
      replace c6 := hk.cell c6 (by simp)
      replace c7 := hk.cell c7 (by simp)
      replace c8 := hk.cell c8 (by simp)
      have K := hid hk
      clear hk d1 d2
      generalize es[k].plugin = xp at *
      generalize es[k].cell = xc at *
      generalize es[k].right = xr at *
      generalize es[k].node = xn at *
      go_wp2
      go_quiet (fail)
      go_wp2
      exact ⟨⟨K.out.trans (Kp.drewN _ _), k + 1, by omega, by go_num⟩, by simp [intOf]; omega⟩
    · go_wp2
      go_ret
      exact ⟨rfl, hk⟩
end Go.Proofs.Ytjgeheggdoghiaa
