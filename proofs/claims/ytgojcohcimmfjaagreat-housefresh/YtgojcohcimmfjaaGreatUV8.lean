/- The program's own house: a capability is given. -/
import Derived.Test.YtgojcohcimmfjaaGreatUV7
import Derived.Test.YtgojcohcimmfjaaGreatUM5
namespace Go.Proofs.YtgojcohcimmfjaaGreat
open Go.ChangeShapes Go.WideShapes Go.ChangeAt Go.RowKit
open Gr (Nd Res nd0 thereB openB deriveOf addOf gateOf cutOf cellB cellOf funcB funcOf rightsN wayOf gatesOf gatesW targetOf Wf NdOk GS IntsAt)
section
variable {M : Hx} {q : Hq} {h : Hs} {w : World} {X : Nat → Prop}
theorem add_bad {ns : List Nd} {os : List Bool} {n : Nd} (h : (addOf ns os n).code ≠ 0) : (addOf ns os n).ns = ns ∧ (addOf ns os n).os = os := by
  unfold addOf at h ⊢
  repeat' split
  all_goals first
    | exact ⟨rfl, rfl⟩
    | (exfalso; apply h; repeat' split
       all_goals first | rfl | contradiction)
theorem cap_bad {x : Sx} (hc : (capR h x).code ≠ 0) : (capR h x).ns = h.s.ns ∧ (capR h x).os = h.s.os := by
  unfold capR cellOf funcOf at hc ⊢
  by_cases h1 : x.kind = 3
  · rw [if_pos h1] at hc ⊢
    by_cases h2 : funcB x.q x.k = true
    · rw [if_pos h2] at hc ⊢; exact add_bad hc
    · rw [if_neg h2]; exact ⟨rfl, rfl⟩
  · rw [if_neg h1] at hc ⊢
    by_cases h2 : cellB x.k = true
    · rw [if_pos h2] at hc ⊢; exact add_bad hc
    · rw [if_neg h2]; exact ⟨rfl, rfl⟩
theorem cap_ok (hi : HOk h) {x : Sx} (hc : (capR h x).code = 0) : Nx h.s.os h.s.ns (capR h x).ns ∧ (capR h x).os = h.s.os ∧ 0 ≤ (capR h x).num ∧ (capR h x).num < 100 := by
  unfold capR at hc ⊢
  by_cases h1 : x.kind = 3
  · rw [if_pos h1] at hc ⊢
    obtain ⟨_, a, b, c, _⟩ := func_root hi.inv.wf hi.inv.ln hc
    have := a.len
    have : 0 ≤ (funcOf h.s.ns h.s.os x.q x.k x.r x.g).num ∧ (funcOf h.s.ns h.s.os x.q x.k x.r x.g).num < (funcOf h.s.ns h.s.os x.q x.k x.r x.g).ns.length := by simpa [thereB] using c
    exact ⟨a, b, by omega, by omega⟩
  · rw [if_neg h1] at hc ⊢
    obtain ⟨a, b, c, _⟩ := cell_root hi.inv.wf hi.inv.ln hc
    have := a.len
    have : 0 ≤ (cellOf h.s.ns h.s.os x.k x.r x.g).num ∧ (cellOf h.s.ns h.s.os x.k x.r x.g).num < (cellOf h.s.ns h.s.os x.k x.r x.g).ns.length := by simpa [thereB] using c
    exact ⟨a, b, by omega, by omega⟩
/-- The house behind the making of a capability. -/
theorem HouseS.capped {w' : World} {x : Sx} {e : Ending} (H : HouseS X M q h w) (hq : CapQ M q (capR h x) w e w') :
    e = .returned (.tuple #[.int .i64 (capR h x).num, .int .i64 (capR h x).code]) ∧ ∃ vn' vo', HouseS X M ⟨vn', vo', q.l, q.r⟩ { h with s := { h.s with ns := (capR h x).ns, os := (capR h x).os } } w' ∧ GoesH M q w ⟨vn', vo', q.l, q.r⟩ w' := by
  obtain ⟨he, vn', vo', hg, go⟩ := hq
  refine ⟨he, vn', vo', ?_⟩
  by_cases hc : (capR h x).code = 0
  · obtain ⟨a, b, _⟩ := cap_ok H.ok hc
    refine H.graph go hg (by rw [b]; exact a.wf) ⟨⟨?_, a.len, ?_, H.ok.inv.cs, H.ok.inv.ks, H.ok.inv.good⟩, H.ok.ms, H.ok.len, H.ok.hand⟩
    · simp only; rw [b]; exact a.wf
    · simp only; rw [b]; exact H.ok.inv.lg
  · obtain ⟨a, b⟩ := cap_bad hc
    rw [a, b] at hg ⊢
    exact H.graph go hg H.ok.inv.wf H.ok
/-- What a giving comes to. -/
def giveX (h : Hs) (x : Sx) : Evt × Hs := if plugB x.p then giveH h x.p (capR h x) else (⟨1, 0, v0⟩, h)
set_option maxRecDepth 8000 in
set_option maxHeartbeats 2000000 in
theorem hgive_far (H : HouseS X M q h w) (x : Sx) (hp : plugB x.p = false) : Calls Tryz.prog 28 #[.pointer (some ⟨M.hb, 0, none⟩), .agg x.vals] w fun e w' => HDoQ X M q (giveX h x) w e w' := by
  have hE := hid (show giveX h x = (⟨1, 0, v0⟩, h) by unfold giveX; rw [hp]; rfl)
  have HH := hid H
  clear H
  obtain ⟨kind, p, qq, k, hh, r, g, n, fs, fa, fc⟩ := x
  simp only [Sx.vals] at *
  go_enter Tryz.func28, Tryz.ntmps28
  go_wp2_with (go_at_call 44; refine (plug_any p _).mono ?_; rintro e w' ⟨rfl, h2⟩; replace h2 := h2.symm; subst h2; rw [hp])
  refine bodyPost_ret (v := .agg #[.int .i64 1, .int .i64 0, .int .i64 0, .int .i64 0, .slice none 0 0]) (by simp [results, Tryz.results28, go_sem]) rfl ?_
  have q9 : Quiet w ((w.alloc (.cells #[.int .i64 kind, .int .i64 p, .int .i64 qq, .int .i64 k, .int .i64 hh, .int .i64 r, .int .i64 g, .int .i64 n, .slice fa fs.length fc] 39)).alloc (.cells #[.int .i64 1, .int .i64 0, .int .i64 0, .int .i64 0, .slice none 0 0] 33)) := (Kp.alloc _ _).trans (Kp.alloc _ _)
  rw [hE.out]
  exact ⟨q, none, 0, rfl, HH.out.quiet q9, GoesH.quiet M q q9, safe_leaf v0 v0_fits rfl none⟩
/-- A giving under way: a house beside the step, the event to come. -/
def XG (w : World) (X : Nat → Prop) (k : Nat) : Prop := k = w.heap.size ∨ k = w.heap.size + 1 ∨ X k
structure HG (X : Nat → Prop) (M : Hx) (q0 : Hq) (q : Hq) (h : Hs) (x : Sx) (w : World) (W : World) : Prop where
  s : HouseS (XG w X) M q h W
  g : GoesH M q0 w q W
  b0 : W.heap[w.heap.size]? = some (.cells x.vals 39 (0, 0))
  b1 : W.heap[w.heap.size + 1]? = some (.cells #[.int .i64 0, .int .i64 0, .int .i64 0, .int .i64 0, .slice none 0 0] 33 (0, 0))
theorem HG.start (H : HouseS X M q h w) (x : Sx) : HG X M q q h x w ((w.alloc (.cells x.vals 39)).alloc (.cells #[.int .i64 0, .int .i64 0, .int .i64 0, .int .i64 0, .slice none 0 0] 33)) := by
  have q2 : Quiet w ((w.alloc (.cells x.vals 39)).alloc (.cells #[.int .i64 0, .int .i64 0, .int .i64 0, .int .i64 0, .slice none 0 0] 33)) := (Kp.alloc _ _).trans (Kp.alloc _ _)
  refine ⟨H.step q2 (fun i hi e => ?_) (fun i e => ?_), GoesH.quiet M q q2, by rw [Below.heap_alloc _ _ _ (by simp)]; exact heap_alloc_new w _, heap_two w _ _⟩
  · rcases e with e | e | e
    · omega
    · omega
    · exact e
  · rcases e with e | e | e
    · simp; omega
    · simp; omega
    · exact Nat.lt_of_lt_of_le (H.xo i e).1 q2.size
theorem HG.quiet {q0 : Hq} {x : Sx} {W w' : World} (H : HG X M q0 q h x w W) (k : Quiet W w') : HG X M q0 q h x w w' :=
  ⟨H.s.quiet k, H.g.trans (GoesH.quiet M q k), (k.block _ (lt_of_block H.b0) fun e => e).trans H.b0, (k.block _ (lt_of_block H.b1) fun e => e).trans H.b1⟩
theorem HG.capped {q0 : Hq} {x : Sx} {W w' : World} {e : Ending} (H : HG X M q0 q h x w W) (hq : CapQ M q (capR h x) W e w') :
    e = .returned (.tuple #[.int .i64 (capR h x).num, .int .i64 (capR h x).code]) ∧ ∃ q2, q2.r = q.r ∧ HG X M q0 q2 { h with s := { h.s with ns := (capR h x).ns, os := (capR h x).os } } x w w' := by
  obtain ⟨he, vn', vo', h2, g2⟩ := H.s.capped hq
  exact ⟨he, ⟨vn', vo', q.l, q.r⟩, rfl, h2, H.g.trans g2, (g2.block H.b0 (H.s.xo _ (.inl rfl)).2).1, (g2.block H.b1 (H.s.xo _ (.inr (.inl rfl))).2).1⟩
/-- The event is written. -/
theorem HG.done {q0 : Hq} {x : Sx} {W w5 : World} {R : Evt × Hs} {ao : Option Addr} {cap : Nat} (H : HG X M q0 q R.2 x w W) (k5 : Kp (fun k => k = w.heap.size + 1) W w5) (hs : SafeF (fun k => OwnH M q k ∨ X k) (fun w => Is w R.1.v ao) w5) : HDoQ X M q0 R w (.returned (.agg #[.int .i64 R.1.code, .int .i64 R.1.fuel, .int .i64 R.1.v.kind, .int .i64 R.1.v.n, .slice ao R.1.v.l.length cap])) w5 := by
  have h5 := H.s.turn k5 (fun i e => .inr (.inl e)) (fun i cs t hi ht e => by
    rw [e, H.b1] at hi
    simp at hi
    rcases ht with ht | ht <;> rw [ht] at hi <;> exact absurd hi.2 (by decide))
  exact ⟨q, ao, cap, rfl, h5.step (Kp.refl _ _) (fun i _ e => .inr (.inr e)) (fun i e => (h5.xo i (.inr (.inr e))).1), H.g.fresh (k5.mono fun i _ e => by omega), hs⟩
set_option maxRecDepth 8000 in
set_option maxHeartbeats 2000000 in
theorem hgive_bad (H : HouseS X M q h w) (x : Sx) (hp : plugB x.p = true) (hc : (capR h x).code ≠ 0) : Calls Tryz.prog 28 #[.pointer (some ⟨M.hb, 0, none⟩), .agg x.vals] w fun e w' => HDoQ X M q (giveX h x) w e w' := by
  have hE := hid (show giveX h x = (⟨(capR h x).code, 0, v0⟩, h) by unfold giveX giveH; rw [hp, if_pos rfl, if_neg hc])
  have H2 := HG.start H x
  have HS := hid H2
  have HC := hid (xcap_any H2.s x)
  have HB := hid (cap_bad hc)
  have HD := hid (fun (w2 : World) (q2 : Hq) (k : HG X M q q2 { h with s := { h.s with ns := (capR h x).ns, os := (capR h x).os } } x w w2) => show HG X M q q2 h x w w2 from by rw [HB.out.1, HB.out.2] at k; exact k)
  have hK := hid (fun (w2 : World) (e : Ending) (k : CapQ M q (capR h x) _ e w2) => HS.out.capped k)
  clear H H2
  generalize (capR h x).code = cd at *
  generalize (capR h x).num = nm at *
  obtain ⟨kind, p, qq, k, hh, r, g, n, fs, fa, fc⟩ := x
  simp only [Sx.vals] at *
  go_enter Tryz.func28, Tryz.ntmps28
  go_wp2_with (first
    | (go_at_call 32; refine (made_no 4 nm cd hc _).mono ?_; rintro e w4 ⟨rfl, q4⟩; have H4 := hid (HH.out.quiet (q4.trans (Kp.alloc w4 (.cells #[.int .i64 cd, .int .i64 0, .int .i64 0, .int .i64 0, .slice none 0 0] 33)))); have hb4 := H4.out.b1; obtain ⟨⟨y0, y1, y2, y3, y4⟩, x0, x1, x2, x3, x4⟩ := evt_cells hb4; have hl4 := lt_of_block hb4; clear q4 hb4)
    | (go_at_call 50; refine HC.out.mono ?_; rintro e w3 hq3; obtain ⟨he, q2, _, h3⟩ := hK.out _ _ hq3; subst he; have HH := hid (HD.out _ _ h3); clear hq3 h3)
    | (go_at_call 44; refine (plug_any p _).mono ?_; rintro e w' ⟨rfl, h2⟩; replace h2 := h2.symm; subst h2; rw [hp]))
  generalize w4.alloc (.cells #[.int .i64 cd, .int .i64 0, .int .i64 0, .int .i64 0, .slice none 0 0] 33) = W4 at *
  have hb5 := evt_put H4.out.b1 (.int .i64 cd) (.int .i64 0) (.int .i64 0) (.int .i64 0) (.slice none 0 0)
  have k5 := evt_set W4 (w.heap.size + 1) (.int .i64 cd) (.int .i64 0) (.int .i64 0) (.int .i64 0) (.slice none 0 0)
  generalize ((((W4.setCell ⟨w.heap.size + 1, 0, none⟩ (.int .i64 cd)).setCell ⟨w.heap.size + 1, 1, none⟩ (.int .i64 0)).setCell ⟨w.heap.size + 1, 2, none⟩ (.int .i64 0)).setCell ⟨w.heap.size + 1, 3, none⟩ (.int .i64 0)).setCell ⟨w.heap.size + 1, 4, none⟩ (.slice none 0 0) = W5 at *
  obtain ⟨⟨u0, u1, u2, u3, u4⟩, _⟩ := evt_cells hb5
  refine bodyPost_ret (v := .agg #[.int .i64 cd, .int .i64 0, .int .i64 0, .int .i64 0, .slice none 0 0]) (by simp [results, Tryz.results28, go_sem, u0, u1, u2, u3, u4]) rfl ?_
  rw [hE.out]
  exact HG.done (R := (⟨cd, 0, v0⟩, h)) H4.out k5 (safe_leaf v0 v0_fits rfl none)
/-- A hand has one thing more, whichever store is first. -/
theorem HouseS.pushed {W w1 : World} {Y : Nat → Prop} {j gg cap n : Nat} {z : Kd} {v : V} (H : HouseS Y M q h w) (kW : Quiet w W) (hj : j < 4) (hv : v.l = [] ∧ v.fits) (ok : HOk { h with hs := h.hs.set j (h.hs.getD j [] ++ [v]) }) (hn : (h.hs.getD j []).length = n)
    (hr : w1.ownsRow M.B 31 3 (.slice (some ⟨gg, 0, none⟩) (n + 1) cap) (n + 1) (tris (hd (h.hs.getD j [])) ++ tri z)) (hg : W.grownBy w1 (handV q h j).ownBlock) (hat : (handV q h j).ownBlock = some gg ∨ W.heap.size ≤ gg) :
    (z = (v, none, 0) → ∃ q', HouseS Y M q' { h with hs := h.hs.set j (h.hs.getD j [] ++ [v]) } (w1.setCell ⟨M.hb, 1 + j, none⟩ (.slice (some ⟨gg, 0, none⟩) (n + 1) cap)) ∧ GoesH M q w q' (w1.setCell ⟨M.hb, 1 + j, none⟩ (.slice (some ⟨gg, 0, none⟩) (n + 1) cap))) ∧
    (∃ q', HouseS Y M q' { h with hs := h.hs.set j (h.hs.getD j [] ++ [v]) } ((((w1.setCell ⟨M.hb, 1 + j, none⟩ (.slice (some ⟨gg, 0, none⟩) (n + 1) cap)).setCell ⟨gg, n * 3, none⟩ (.int .i64 v.kind)).setCell ⟨gg, n * 3 + 1, none⟩ (.int .i64 v.n)).setCell ⟨gg, n * 3 + 2, none⟩ (.slice none v.l.length 0)) ∧ GoesH M q w q' ((((w1.setCell ⟨M.hb, 1 + j, none⟩ (.slice (some ⟨gg, 0, none⟩) (n + 1) cap)).setCell ⟨gg, n * 3, none⟩ (.int .i64 v.kind)).setCell ⟨gg, n * 3 + 1, none⟩ (.int .i64 v.n)).setCell ⟨gg, n * 3 + 2, none⟩ (.slice none v.l.length 0))) ∧
    (w1.cell? ⟨M.hb, 1 + j, none⟩ = some (handV q h j) ∧ w1.frozen? ⟨M.hb, 1 + j, none⟩ = false ∧ M.hb < w1.heap.size) ∧ gg ≠ M.hb := by
  subst hn
  have HW := H.quiet kW
  have hrow : ∀ k, (handV q h j).ownBlock = some k ↔ (Value.slice (q.r j).1 0 0).ownBlock = some k := fun k => by unfold handV; rw [own_len]
  have f2 := (HW.bfree).2 j hj
  have hne : gg ≠ M.hb := by
    rcases hat with e | e
    · exact (f2 gg ((hrow gg).1 e)).2
    · have := lt_of_block HW.obj; omega
  have hl : (h.hs.getD j []).length = (hd (h.hs.getD j [])).length := by simp [hd]
  refine ⟨fun ez => ?_, ?_, ?_, hne⟩
  · subst ez
    obtain ⟨a, b⟩ := H.push kW hj hv ok hr hg hat
    exact ⟨_, a, b⟩
  · obtain ⟨a3, b3⟩ := lay_row (v, none, 0) z hl hr
    obtain ⟨a, b⟩ := H.push kW hj hv ok a3 (grown_then2 hg b3 hat) hat
    have hf : (⟨M.hb, 1 + j, none⟩ : Addr).block ≠ gg := fun e => hne e.symm
    rw [set_comm w1 ⟨M.hb, 1 + j, none⟩ ⟨gg, (h.hs.getD j []).length * 3, none⟩ _ _ hf, set_comm _ ⟨M.hb, 1 + j, none⟩ ⟨gg, (h.hs.getD j []).length * 3 + 1, none⟩ _ _ hf, set_comm _ ⟨M.hb, 1 + j, none⟩ ⟨gg, (h.hs.getD j []).length * 3 + 2, none⟩ _ _ hf]
    exact ⟨_, a, b⟩
  · have k1 : Kp (fun k => (handV q h j).ownBlock = some k) W w1 := Kp.grown hg fun k _ e => e.symm
    have hb : w1.heap[M.hb]? = _ := (k1.block _ (lt_of_block HW.obj) fun e => (f2 _ ((hrow _).1 e)).2 rfl).trans HW.obj
    refine ⟨?_, frozen_of_row w1 _ (1 + j) _ _ hb, lt_of_block hb⟩
    obtain rfl | rfl | rfl | rfl : j = 0 ∨ j = 1 ∨ j = 2 ∨ j = 3 := by omega
    all_goals simp [World.cell?, hb]
/-- All that the append looks at, wherever new memory was made. -/
theorem HG.cells {q0 : Hq} {x : Sx} {W w' : World} {nb j : Nat} {nm : Int} {sa : Option Addr} {n sc : Nat} (H : HG X M q0 q h x w W) (hx : x.p = (j : Int)) (hj : j < 4) (hs : handV q h j = .slice sa n sc) (hb : W.heap[nb]? = some (.cells #[.int .i64 0, .int .i64 0, .int .i64 4, .int .i64 nm, .slice none 0 0] 33 (0, 0))) (k : Quiet W w') :
    w'.cell? ⟨w.heap.size, 1, none⟩ = some (.int .i64 j) ∧ w'.cell? ⟨M.hb, 1 + j, none⟩ = some (.slice sa n sc) ∧ w'.cell? ⟨nb, 2, none⟩ = some (.int .i64 4) ∧ w'.cell? ⟨nb, 3, none⟩ = some (.int .i64 nm) ∧ w'.cell? ⟨nb, 4, none⟩ = some (.slice none 0 0) := by
  obtain ⟨_, c1, _⟩ := nine_at H.b0
  obtain ⟨⟨_, _, d2, d3, d4⟩, _⟩ := evt_cells hb
  rw [hx] at c1
  have ch := H.s.handc j hj
  rw [hs] at ch
  exact ⟨k.cell c1 fun e => e, k.cell ch fun e => e, k.cell d2 fun e => e, k.cell d3 fun e => e, k.cell d4 fun e => e⟩
/-- A giving goes on: the hand has one thing more. -/
theorem HG.push {q0 : Hq} {x : Sx} {W W' w1 : World} {nb j gg cap n : Nat} {nm : Int} {sa : Option Addr} {sc : Nat} {z : Kd} {v : V} (H : HG X M q0 q h x w W) (hx : x.p = (j : Int)) (hb : W.heap[nb]? = some (.cells #[.int .i64 0, .int .i64 0, .int .i64 4, .int .i64 nm, .slice none 0 0] 33 (0, 0))) (kW : Quiet W W') (hj : j < 4) (hv : v.l = [] ∧ v.fits) (ok : HOk { h with hs := h.hs.set j (h.hs.getD j [] ++ [v]) }) (hs : handV q h j = .slice sa n sc) (hn : (h.hs.getD j []).length = n)
    (hr : w1.ownsRow M.B 31 3 (.slice (some ⟨gg, 0, none⟩) (n + 1) cap) (n + 1) (tris (hd (h.hs.getD j [])) ++ tri z)) (hg : W'.grownBy w1 (Value.slice sa n sc).ownBlock) (hat : (Value.slice sa n sc).ownBlock = some gg ∨ W'.heap.size ≤ gg) :
    (z = (v, none, 0) → ∃ q', HG X M q0 q' { h with hs := h.hs.set j (h.hs.getD j [] ++ [v]) } x w (w1.setCell ⟨M.hb, 1 + j, none⟩ (.slice (some ⟨gg, 0, none⟩) (n + 1) cap)) ∧ (w1.setCell ⟨M.hb, 1 + j, none⟩ (.slice (some ⟨gg, 0, none⟩) (n + 1) cap)).heap[nb]? = some (.cells #[.int .i64 0, .int .i64 0, .int .i64 4, .int .i64 nm, .slice none 0 0] 33 (0, 0))) ∧
    (∃ q', HG X M q0 q' { h with hs := h.hs.set j (h.hs.getD j [] ++ [v]) } x w ((((w1.setCell ⟨M.hb, 1 + j, none⟩ (.slice (some ⟨gg, 0, none⟩) (n + 1) cap)).setCell ⟨gg, n * 3, none⟩ (.int .i64 v.kind)).setCell ⟨gg, n * 3 + 1, none⟩ (.int .i64 v.n)).setCell ⟨gg, n * 3 + 2, none⟩ (.slice none v.l.length 0)) ∧ ((((w1.setCell ⟨M.hb, 1 + j, none⟩ (.slice (some ⟨gg, 0, none⟩) (n + 1) cap)).setCell ⟨gg, n * 3, none⟩ (.int .i64 v.kind)).setCell ⟨gg, n * 3 + 1, none⟩ (.int .i64 v.n)).setCell ⟨gg, n * 3 + 2, none⟩ (.slice none v.l.length 0)).heap[nb]? = some (.cells #[.int .i64 0, .int .i64 0, .int .i64 4, .int .i64 nm, .slice none 0 0] 33 (0, 0))) ∧
    (w1.cell? ⟨M.hb, 1 + j, none⟩ = some (.slice sa n sc) ∧ w1.frozen? ⟨M.hb, 1 + j, none⟩ = false ∧ M.hb < w1.heap.size) ∧ (¬ gg = M.hb ∧ ¬ M.hb = gg ∧ ¬ M.hb = nb ∧ ¬ nb = M.hb) ∧ (w1.cell? ⟨w.heap.size, 1, none⟩ = some (.int .i64 j) ∧ w1.cell? ⟨nb, 2, none⟩ = some (.int .i64 4) ∧ w1.cell? ⟨nb, 3, none⟩ = some (.int .i64 nm) ∧ w1.cell? ⟨nb, 4, none⟩ = some (.slice none 0 0)) := by
  have hg2 : W'.grownBy w1 (handV q h j).ownBlock := by rw [hs]; exact hg
  have hat2 : (handV q h j).ownBlock = some gg ∨ W'.heap.size ≤ gg := by rw [hs]; exact hat
  obtain ⟨a, b, ⟨c, d, l⟩, hne⟩ := H.s.pushed kW hj hv ok hn hr hg2 hat2
  have fb : ¬ OwnH M q nb := H.s.free hb (by decide) (by decide) (by decide) (by decide) (by decide) (by decide) (by decide) (by decide)
  have f0 := (H.s.xo _ (Or.inl rfl : XG w X w.heap.size)).2
  have f1 := (H.s.xo _ (Or.inr (Or.inl rfl) : XG w X (w.heap.size + 1))).2
  have go : ∀ (q' : Hq) (h' : Hs) (W2 : World), HouseS (XG w X) M q' h' W2 → GoesH M q W q' W2 → HG X M q0 q' h' x w W2 ∧ W2.heap[nb]? = some (.cells #[.int .i64 0, .int .i64 0, .int .i64 4, .int .i64 nm, .slice none 0 0] 33 (0, 0)) := fun q' h' W2 s g => ⟨⟨s, H.g.trans g, (g.block H.b0 f0).1, (g.block H.b1 f1).1⟩, (g.block hb fb).1⟩
  have nbne : nb ≠ M.hb := fun e => fb (.inr (.inl e))
  have k1 : Kp (fun k => OwnH M q k) W w1 := (kW.mono fun _ _ e => e.elim).trans (Kp.grown hg2 fun k _ e => by
    unfold handV at e
    exact .inr (.inr ⟨j, hj, ((own_len _ _ _ _ _).trans e.symm)⟩))
  obtain ⟨_, c1, _⟩ := nine_at H.b0
  obtain ⟨⟨_, _, d2, d3, d4⟩, _⟩ := evt_cells hb
  rw [hx] at c1
  refine ⟨fun ez => ?_, ?_, ⟨by rw [← hs]; exact c, d, l⟩, ⟨hne, fun e => hne e.symm, fun e => nbne e.symm, nbne⟩, k1.cell c1 f0, k1.cell d2 fb, k1.cell d3 fb, k1.cell d4 fb⟩
  · obtain ⟨q', s, g⟩ := a ez
    exact ⟨q', go _ _ _ s g⟩
  · obtain ⟨q', s, g⟩ := b
    exact ⟨q', go _ _ _ s g⟩
end
end Go.Proofs.YtgojcohcimmfjaaGreat
