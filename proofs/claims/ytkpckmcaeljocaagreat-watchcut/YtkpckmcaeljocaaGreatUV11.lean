/- Parts. -/
import Derived.Test.YtkpckmcaeljocaaGreatUHProgD
import Derived.Test.YtkpckmcaeljocaaGreatUHProgF
namespace Go.Proofs.YtkpckmcaeljocaaGreat
open Go.ChangeShapes Go.WideShapes Go.ChangeAt Go.RowKit
open Gr (Nd Res nd0 thereB openB deriveOf addOf gateOf cutOf cellB cellOf funcB funcOf rightsN wayOf gatesOf gatesW targetOf Wf NdOk GS IntsAt)
set_option maxRecDepth 8000 in
set_option maxHeartbeats 1000000 in
theorem hnew_c : HNewC := by
  intro X B w hX hB
  go_enter Tryz.func24, Tryz.ntmps24
  go_wp2_with (go_at_call 44; refine (new_c w.heap.size w (Nat.le_refl _)).mono ?_; rintro e w1 ⟨bb, g, wd, vn, vo, vl, rfl, h1, hb1, q1⟩; have H1 := hid (And.intro h1 q1); clear h1)
  go_ret
  obtain ⟨h1, q2⟩ := H1.out
  obtain ⟨a, b, c, d, hb⟩ := h1
  have hlow : BoxIs B w1 bb g wd vn vo vl [none, none, none, none] s0 := ⟨a, b, c, d, box_mono hb hB⟩
  refine ⟨_, _, rfl, rfl, house_new hlow (fun k hk => ⟨Nat.lt_of_lt_of_le (hX k hk) q2.size, fun e => by have := (hb.own k e).1; have := hX k hk; omega⟩) (Nat.le_trans hB q2.size), fun k e => ?_, q2.trans (Kp.alloc _ _)⟩
  rcases e with e | e | ⟨p, _, e⟩
  · exact (hb.own k e).1
  · simp only at e; have := q2.size; omega
  · simp [Value.ownBlock] at e
section
variable {M : Hx} {q : Hq} {h : Hs} {w : World} {X : Nat → Prop}
theorem HG.event {q0 : Hq} {x : Sx} {W w3 : World} {R : Evt × Hs} {e : Ending} (H : HG X M q0 q h x w W) (hr : HDoQ (XG w X) M q R W e w3) :
    ∃ ao cap, e = .returned (.agg #[.int .i64 R.1.code, .int .i64 R.1.fuel, .int .i64 R.1.v.kind, .int .i64 R.1.v.n, .slice ao R.1.v.l.length cap]) ∧ w3.heap[w.heap.size + 1]? = some (.cells #[.int .i64 0, .int .i64 0, .int .i64 0, .int .i64 0, .slice none 0 0] 40 (0, 0)) ∧
    ∀ w5, Kp (fun k => k = w.heap.size + 1) w3 w5 → HDoQ X M q0 R w e w5 := by
  obtain ⟨q3, ao, cap, he, h3, g3, s3⟩ := hr
  have b1 := (g3.block H.b1 (H.s.xo _ (.inr (.inl rfl))).2).1
  refine ⟨ao, cap, he, b1, fun w5 k5 => ?_⟩
  have h5 := h3.turn k5 (fun i e => .inr (.inl e)) (fun i cs t hi ht e => by
    rw [e, b1] at hi
    simp at hi
    rcases ht with ht | ht <;> rw [ht] at hi <;> exact absurd hi.2 (by decide))
  refine ⟨q3, ao, cap, he, h5.step (Kp.refl _ _) (fun i _ e => .inr (.inr e)) (fun i e => (h5.xo i (.inr (.inr e))).1), (H.g.trans g3).fresh (k5.mono fun i _ e => by omega), s3.step (k5.mono fun i _ e => .inr (.inr (.inl e))) fun k _ e => ?_⟩
  rcases e with e | e
  · exact .inl e
  · exact .inr (.inr (.inr e))
set_option maxRecDepth 8000 in
set_option maxHeartbeats 2000000 in
theorem hdo_call (H : HouseS X M q h w) (x : Sx) (hx : x.Fit) (hes : h.s.es.length ≤ 900000) (c : Int) (hk : x.kind = 4) : Calls Tryz.prog 25 #[.pointer (some ⟨M.hb, 0, none⟩), .agg x.vals] w fun e w' => HDoQ X M q (callH h (x.sp c)) w e w' := by
  have H2 := HG.start H x
  have HS := hid H2
  have HC := hid (hcall_any H2.s x hx hes c)
  generalize callH h (x.sp c) = R at *
  obtain ⟨⟨code, fuel, v⟩, h'⟩ := R
  clear H H2 hx hes
  obtain ⟨kind, p, qq, k, hh, r, g, n, fs, fa, fc⟩ := x
  simp only [Sx.vals] at *
  subst hk
  go_enter Tryz.func25, Tryz.ntmps25
  go_wp2_with (go_at_call 47; refine HC.out.mono ?_; rintro e w3 hq3; obtain ⟨ao, cap, he, b3, hd⟩ := HS.out.event hq3; subst he; obtain ⟨⟨y0, y1, y2, y3, y4⟩, x0, x1, x2, x3, x4⟩ := evt_cells b3; have hl3 := lt_of_block b3; have HB3 := hid b3; have HD := hid hd; clear hq3 b3 hd)
  have hb5 := evt_put HB3.out (.int .i64 code) (.int .i64 fuel) (.int .i64 v.kind) (.int .i64 v.n) (.slice ao v.l.length cap)
  have k5 := evt_set w3 (w.heap.size + 1) (.int .i64 code) (.int .i64 fuel) (.int .i64 v.kind) (.int .i64 v.n) (.slice ao v.l.length cap)
  generalize ((((w3.setCell ⟨w.heap.size + 1, 0, none⟩ (.int .i64 code)).setCell ⟨w.heap.size + 1, 1, none⟩ (.int .i64 fuel)).setCell ⟨w.heap.size + 1, 2, none⟩ (.int .i64 v.kind)).setCell ⟨w.heap.size + 1, 3, none⟩ (.int .i64 v.n)).setCell ⟨w.heap.size + 1, 4, none⟩ (.slice ao v.l.length cap) = W5 at *
  obtain ⟨⟨u0, u1, u2, u3, u4⟩, _⟩ := evt_cells hb5
  refine bodyPost_ret (v := .agg #[(.int .i64 code), (.int .i64 fuel), (.int .i64 v.kind), (.int .i64 v.n), (.slice ao v.l.length cap)]) (by simp [results, Tryz.results25, go_sem, u0, u1, u2, u3, u4]) rfl ?_
  exact HD.out _ k5
theorem hgive_any (H : HouseS X M q h w) (x : Sx) (hf : FewH h) : Calls Tryz.prog 46 #[.pointer (some ⟨M.hb, 0, none⟩), .agg x.vals] w fun e w' => HDoQ X M q (giveX h x) w e w' := by
  cases hp : plugB x.p with
  | false => exact hgive_far H x hp
  | true =>
    by_cases hc : (capR h x).code = 0
    · exact hgive_ok H x hp hc hf
    · exact hgive_bad H x hp hc
set_option maxRecDepth 8000 in
set_option maxHeartbeats 2000000 in
theorem hdo_grant (H : HouseS X M q h w) (x : Sx) (hf : FewH h) (hk : x.kind = 2) : Calls Tryz.prog 25 #[.pointer (some ⟨M.hb, 0, none⟩), .agg x.vals] w fun e w' => HDoQ X M q (giveX h x) w e w' := by
  have H2 := HG.start H x
  have HS := hid H2
  have HC := hid (hgive_any H2.s x hf)
  generalize giveX h x = R at *
  obtain ⟨⟨code, fuel, v⟩, h'⟩ := R
  clear H H2 hf
  obtain ⟨kind, p, qq, k, hh, r, g, n, fs, fa, fc⟩ := x
  simp only [Sx.vals] at *
  subst hk
  go_enter Tryz.func25, Tryz.ntmps25
  go_wp2_with (go_at_call 46; refine HC.out.mono ?_; rintro e w3 hq3; obtain ⟨ao, cap, he, b3, hd⟩ := HS.out.event hq3; subst he; obtain ⟨⟨y0, y1, y2, y3, y4⟩, x0, x1, x2, x3, x4⟩ := evt_cells b3; have hl3 := lt_of_block b3; have HB3 := hid b3; have HD := hid hd; clear hq3 b3 hd)
  have hb5 := evt_put HB3.out (.int .i64 code) (.int .i64 fuel) (.int .i64 v.kind) (.int .i64 v.n) (.slice ao v.l.length cap)
  have k5 := evt_set w3 (w.heap.size + 1) (.int .i64 code) (.int .i64 fuel) (.int .i64 v.kind) (.int .i64 v.n) (.slice ao v.l.length cap)
  generalize ((((w3.setCell ⟨w.heap.size + 1, 0, none⟩ (.int .i64 code)).setCell ⟨w.heap.size + 1, 1, none⟩ (.int .i64 fuel)).setCell ⟨w.heap.size + 1, 2, none⟩ (.int .i64 v.kind)).setCell ⟨w.heap.size + 1, 3, none⟩ (.int .i64 v.n)).setCell ⟨w.heap.size + 1, 4, none⟩ (.slice ao v.l.length cap) = W5 at *
  obtain ⟨⟨u0, u1, u2, u3, u4⟩, _⟩ := evt_cells hb5
  refine bodyPost_ret (v := .agg #[(.int .i64 code), (.int .i64 fuel), (.int .i64 v.kind), (.int .i64 v.n), (.slice ao v.l.length cap)]) (by simp [results, Tryz.results25, go_sem, u0, u1, u2, u3, u4]) rfl ?_
  exact HD.out _ k5
set_option maxRecDepth 8000 in
set_option maxHeartbeats 2000000 in
theorem hdo_link (H : HouseS X M q h w) (x : Sx) (hf : FewH h) (hk : x.kind = 3) : Calls Tryz.prog 25 #[.pointer (some ⟨M.hb, 0, none⟩), .agg x.vals] w fun e w' => HDoQ X M q (giveX h x) w e w' := by
  have H2 := HG.start H x
  have HS := hid H2
  have HC := hid (hgive_any H2.s x hf)
  generalize giveX h x = R at *
  obtain ⟨⟨code, fuel, v⟩, h'⟩ := R
  clear H H2 hf
  obtain ⟨kind, p, qq, k, hh, r, g, n, fs, fa, fc⟩ := x
  simp only [Sx.vals] at *
  subst hk
  go_enter Tryz.func25, Tryz.ntmps25
  go_wp2_with (go_at_call 46; refine HC.out.mono ?_; rintro e w3 hq3; obtain ⟨ao, cap, he, b3, hd⟩ := HS.out.event hq3; subst he; obtain ⟨⟨y0, y1, y2, y3, y4⟩, x0, x1, x2, x3, x4⟩ := evt_cells b3; have hl3 := lt_of_block b3; have HB3 := hid b3; have HD := hid hd; clear hq3 b3 hd)
  have hb5 := evt_put HB3.out (.int .i64 code) (.int .i64 fuel) (.int .i64 v.kind) (.int .i64 v.n) (.slice ao v.l.length cap)
  have k5 := evt_set w3 (w.heap.size + 1) (.int .i64 code) (.int .i64 fuel) (.int .i64 v.kind) (.int .i64 v.n) (.slice ao v.l.length cap)
  generalize ((((w3.setCell ⟨w.heap.size + 1, 0, none⟩ (.int .i64 code)).setCell ⟨w.heap.size + 1, 1, none⟩ (.int .i64 fuel)).setCell ⟨w.heap.size + 1, 2, none⟩ (.int .i64 v.kind)).setCell ⟨w.heap.size + 1, 3, none⟩ (.int .i64 v.n)).setCell ⟨w.heap.size + 1, 4, none⟩ (.slice ao v.l.length cap) = W5 at *
  obtain ⟨⟨u0, u1, u2, u3, u4⟩, _⟩ := evt_cells hb5
  refine bodyPost_ret (v := .agg #[(.int .i64 code), (.int .i64 fuel), (.int .i64 v.kind), (.int .i64 v.n), (.slice ao v.l.length cap)]) (by simp [results, Tryz.results25, go_sem, u0, u1, u2, u3, u4]) rfl ?_
  exact HD.out _ k5
set_option maxRecDepth 8000 in
set_option maxHeartbeats 2000000 in
theorem hdo_none (H : HouseS X M q h w) (x : Sx) (h1 : x.kind ≠ 1) (h2 : x.kind ≠ 2) (h3 : x.kind ≠ 3) (h4 : x.kind ≠ 4) (h5 : x.kind ≠ 5) (h6 : x.kind ≠ 6) : Calls Tryz.prog 25 #[.pointer (some ⟨M.hb, 0, none⟩), .agg x.vals] w fun e w' => HDoQ X M q (⟨2, 0, v0⟩, h) w e w' := by
  have HH := hid H
  clear H
  obtain ⟨kind, p, qq, k, hh, r, g, n, fs, fa, fc⟩ := x
  simp only [Sx.vals] at *
  go_enter Tryz.func25, Tryz.ntmps25
  go_wp2
  refine bodyPost_ret (v := .agg #[.int .i64 2, .int .i64 0, .int .i64 0, .int .i64 0, .slice none 0 0]) (by simp [results, Tryz.results25, go_sem]) rfl ?_
  have q9 : Quiet w ((w.alloc (.cells #[.int .i64 kind, .int .i64 p, .int .i64 qq, .int .i64 k, .int .i64 hh, .int .i64 r, .int .i64 g, .int .i64 n, .slice fa fs.length fc] 47)).alloc (.cells #[.int .i64 2, .int .i64 0, .int .i64 0, .int .i64 0, .slice none 0 0] 40)) := (Kp.alloc _ _).trans (Kp.alloc _ _)
  exact ⟨q, none, 0, rfl, HH.out.quiet q9, GoesH.quiet M q q9, safe_leaf v0 v0_fits rfl none⟩
theorem load_evt (h : Hs) (x : Sp) : (loadH h x).1 = ⟨(loadH h x).1.code, 0, v0⟩ := by
  unfold loadH
  repeat' split
  all_goals rfl
theorem HG.loaded {q0 : Hq} {x : Sx} {W w3 : World} {P : Int × Int → Prop} {e : Ending} (H : HG X M q0 q h x w W) (hr : LoadQ (XG w X) P M q h x W e w3) :
    ∃ c, (plugB x.p = true → ∃ f, P f ∧ f.1 = c) ∧ e = .returned (.int .i64 (loadH h (x.sp c)).1.code) ∧ w3.heap[w.heap.size + 1]? = some (.cells #[.int .i64 0, .int .i64 0, .int .i64 0, .int .i64 0, .slice none 0 0] 40 (0, 0)) ∧
    ∀ w5, Kp (fun k => k = w.heap.size + 1) w3 w5 → HDoQ X M q0 (loadH h (x.sp c)) w (.returned (.agg #[.int .i64 (loadH h (x.sp c)).1.code, .int .i64 0, .int .i64 0, .int .i64 0, .slice none 0 0])) w5 := by
  obtain ⟨c, hc, he, h3, g3⟩ := hr
  have h4 : HDoQ (XG w X) M q (loadH h (x.sp c)) W (.returned (.agg #[.int .i64 (loadH h (x.sp c)).1.code, .int .i64 0, .int .i64 0, .int .i64 0, .slice none 0 0])) w3 := by
    refine ⟨q, none, 0, ?_, h3, g3, ?_⟩
    · rw [load_evt h (x.sp c)]; rfl
    · rw [load_evt h (x.sp c)]; exact safe_leaf v0 v0_fits rfl none
  obtain ⟨_, _, _, b3, hd⟩ := H.event h4
  exact ⟨c, hc, he, b3, hd⟩
set_option maxRecDepth 8000 in
set_option maxHeartbeats 2000000 in
theorem hdo_load (H : HouseS X M q h w) (x : Sx) (hx : x.Fit) {P : Int × Int → Prop} (hM : MakeAt P x w) (hk : x.kind = 1) : Calls Tryz.prog 25 #[.pointer (some ⟨M.hb, 0, none⟩), .agg x.vals] w fun e w' => ∃ c, (plugB x.p = true → ∃ f, P f ∧ f.1 = c) ∧ HDoQ X M q (loadH h (x.sp c)) w e w' := by
  have H2 := HG.start H x
  have HS := hid H2
  have hq2 : Quiet w ((w.alloc (.cells x.vals 47)).alloc (.cells #[.int .i64 0, .int .i64 0, .int .i64 0, .int .i64 0, .slice none 0 0] 40)) := (Kp.alloc _ _).trans (Kp.alloc _ _)
  have HC := hid (xload_any H2.s x hx (P := P) ⟨hM.1, fun w1 k1 => hM.2 w1 (hq2.trans k1)⟩)
  have HX := hid (fun (w3 : World) (e : Ending) (hr : LoadQ (XG w X) P M q h x _ e w3) => HS.out.loaded hr)
  clear H H2 hM hx hq2
  obtain ⟨kind, p, qq, k, hh, r, g, n, fs, fa, fc⟩ := x
  simp only [Sx.vals] at *
  subst hk
  go_enter Tryz.func25, Tryz.ntmps25
  go_wp2_with (go_at_call 45; refine HC.out.mono ?_; rintro e w3 hq3; obtain ⟨c, hc, he, b3, hd⟩ := HX.out _ _ hq3; subst he; obtain ⟨⟨y0, y1, y2, y3, y4⟩, x0, x1, x2, x3, x4⟩ := evt_cells b3; have hl3 := lt_of_block b3; have HB3 := hid b3; have HD := hid (And.intro hc hd); clear hq3 b3 hd hc; generalize hcd : (loadH h _).1.code = cd at *)
  have hb5 := evt_put HB3.out (.int .i64 cd) (.int .i64 0) (.int .i64 0) (.int .i64 0) (.slice none 0 0)
  have k5 := evt_set w3 (w.heap.size + 1) (.int .i64 cd) (.int .i64 0) (.int .i64 0) (.int .i64 0) (.slice none 0 0)
  generalize ((((w3.setCell ⟨w.heap.size + 1, 0, none⟩ (.int .i64 cd)).setCell ⟨w.heap.size + 1, 1, none⟩ (.int .i64 0)).setCell ⟨w.heap.size + 1, 2, none⟩ (.int .i64 0)).setCell ⟨w.heap.size + 1, 3, none⟩ (.int .i64 0)).setCell ⟨w.heap.size + 1, 4, none⟩ (.slice none 0 0) = W5 at *
  obtain ⟨⟨u0, u1, u2, u3, u4⟩, _⟩ := evt_cells hb5
  refine bodyPost_ret (v := .agg #[(.int .i64 cd), (.int .i64 0), (.int .i64 0), (.int .i64 0), (.slice none 0 0)]) (by simp [results, Tryz.results25, go_sem, u0, u1, u2, u3, u4]) rfl ?_
  exact ⟨c, HD.out.1, by have h9 := HD.out.2 _ k5; exact h9⟩
theorem HG.graph {q0 : Hq} {x : Sx} {W w3 : World} {vn' vo' : Value} {ns' : List Nd} {os' : List Bool} (H : HG X M q0 q h x w W) (go : Gr.Goes M.g q.n q.o W vn' vo' w3) (hg : GS 101 M.B w3 M.g vn' vo' ns' os') (ok : HOk { h with s := { h.s with ns := ns', os := os' } }) :
    HG X M q0 ⟨vn', vo', q.l, q.r⟩ { h with s := { h.s with ns := ns', os := os' } } x w w3 := by
  obtain ⟨h2, g2⟩ := H.s.graph go hg ok.inv.wf ok
  exact ⟨h2, H.g.trans g2, (g2.block H.b0 (H.s.xo _ (.inl rfl)).2).1, (g2.block H.b1 (H.s.xo _ (.inr (.inl rfl))).2).1⟩
theorem cut_ns (ns : List Nd) (os : List Bool) (k : Int) : (cutOf ns os k).ns = ns := by
  unfold cutOf
  split <;> rfl
theorem gateH_ns (ns : List Nd) (os : List Bool) : (gateOf ns os).ns = ns := by
  unfold gateOf
  split <;> rfl
theorem HG.still {q0 : Hq} {x : Sx} {W w' : World} (H : HG X M q0 q h x w W) (k : Kp (fun i => Gr.Own M.g q.n q.o i ∨ i = w.heap.size + 1) W w') :
    w'.cell? ⟨M.hb, 0, none⟩ = some (.pointer (some ⟨M.bb, 0, none⟩)) ∧ w'.cell? ⟨M.bb, 0, none⟩ = some (.pointer (some ⟨M.g, 0, none⟩)) ∧ w'.cell? ⟨w.heap.size, 6, none⟩ = some (.int .i64 x.g) := by
  obtain ⟨d0, d1, _⟩ := H.s.cells
  obtain ⟨_, _, _, _, _, _, c6, _⟩ := nine_at H.b0
  have ne : ∀ i, OwnH M q i → i ≠ w.heap.size + 1 := fun i hi e => (H.s.xo (w.heap.size + 1) (.inr (.inl rfl))).2 (e ▸ hi)
  have hg : ∀ k, Gr.Own M.g q.n q.o k → OwnB M.bb M.g M.wd q.n q.o q.l k := fun k e => .inr (.inl e)
  have n1 : ¬ (Gr.Own M.g q.n q.o M.hb ∨ M.hb = w.heap.size + 1) := fun e => by
    rcases e with e | e
    · exact H.s.bfree.1 (hg _ e)
    · exact ne _ (.inr (.inl rfl)) e
  have n2 : ¬ (Gr.Own M.g q.n q.o M.bb ∨ M.bb = w.heap.size + 1) := fun e => by
    rcases e with e | e
    · obtain ⟨a, b, c, d, hb⟩ := H.s.box.is
      exact H.s.gs.free_type hb.obj (by decide) (by decide) (by decide) e
    · exact ne _ (.inl (.inl rfl)) e
  have n3 : ¬ (Gr.Own M.g q.n q.o w.heap.size ∨ w.heap.size = w.heap.size + 1) := fun e => by
    rcases e with e | e
    · exact (H.s.xo w.heap.size (.inl rfl)).2 (.inl (hg _ e))
    · omega
  exact ⟨k.cell d0 n1, k.cell d1 n2, k.cell c6 n3⟩
set_option maxRecDepth 8000 in
set_option maxHeartbeats 4000000 in
theorem hdo_cut (H : HouseS X M q h w) (x : Sx) (hk : x.kind = 5) : Calls Tryz.prog 25 #[.pointer (some ⟨M.hb, 0, none⟩), .agg x.vals] w fun e w' => HDoQ X M q (⟨(cutOf h.s.ns h.s.os x.g).code, 0, v0⟩, { h with s := { h.s with os := (cutOf h.s.ns h.s.os x.g).os } }) w e w' := by
  have H2 := HG.start H x
  have HS := hid H2
  obtain ⟨W, hW⟩ : ∃ W, W = ((w.alloc (.cells x.vals 47)).alloc (.cells #[.int .i64 0, .int .i64 0, .int .i64 0, .int .i64 0, .slice none 0 0] 40)) := ⟨_, rfl⟩
  have H3 : HG X M q q h x w W := by rw [hW]; exact H2
  have HG3 := hid (Gr.cut_any (H3.quiet (Kp.drew _)).s.gs x.g)
  have ok : HOk { h with s := { h.s with os := (cutOf h.s.ns h.s.os x.g).os } } := by
    have h1 := H.ok.step ⟨5, 0, 0, 0, 0, 0, x.g, 0, 0, []⟩
    exact h1
  rw [cut_ns] at HG3
  have HX := hid (fun (w3 : World) (hg : GS 101 M.B w3 M.g q.n q.o h.s.ns (cutOf h.s.ns h.s.os x.g).os) (go : Gr.Goes M.g q.n q.o W.drew q.n q.o w3) => (H3.quiet (Kp.drew _)).graph go hg ok)
  have sAll := hid (fun (w' : World) (z : Kp (fun i => Gr.Own M.g q.n q.o i ∨ i = w.heap.size + 1) W w') => H3.still z)
  clear H H2 HS H3 ok
  generalize cutOf h.s.ns h.s.os x.g = R at *
  obtain ⟨kind, p, qq, k, hh, r, g, n, fs, fa, fc⟩ := x
  simp only [Sx.vals] at *
  subst hk
  go_enter Tryz.func25, Tryz.ntmps25
  go_wp2_with fail
  rw [← hW]
  clear hW
  have z0 : Kp (fun i => Gr.Own M.g q.n q.o i ∨ i = w.heap.size + 1) W W.drew := Kp.drew _
  go_region_held3 (fun w' => w'.cell? ⟨M.hb, 0, none⟩ = some (.pointer (some ⟨M.bb, 0, none⟩)) ∧ w'.cell? ⟨M.bb, 0, none⟩ = some (.pointer (some ⟨M.g, 0, none⟩)) ∧ w'.cell? ⟨w.heap.size, 6, none⟩ = some (.int .i64 g)) ((refine sAll.out _ ?_; first | assumption | exact z3.trans ((evt_set _ _ _ _ _ _ _).mono fun i _ e => .inr e))) (first | (go_at_call 48; refine HG3.out.mono ?_; rintro e w3 ⟨rfl, g3, o3⟩; have z3 := z0.trans (o3.kp.mono fun i _ e => Or.inl e); have b3 := (HX.out _ g3 o3).b1; obtain ⟨⟨y0, y1, y2, y3, y4⟩, x0, x1, x2, x3, x4⟩ := evt_cells b3; have hl3 := lt_of_block b3; have HB3 := hid b3; have H3 := hid (HX.out _ g3 o3); clear g3 o3 b3 z0))
  go_wp2
  have hb5 := evt_put HB3.out (.int .i64 R.code) (.int .i64 0) (.int .i64 0) (.int .i64 0) (.slice none 0 0)
  have k5 := evt_set w3 (w.heap.size + 1) (.int .i64 R.code) (.int .i64 0) (.int .i64 0) (.int .i64 0) (.slice none 0 0)
  generalize ((((w3.setCell ⟨w.heap.size + 1, 0, none⟩ (.int .i64 R.code)).setCell ⟨w.heap.size + 1, 1, none⟩ (.int .i64 0)).setCell ⟨w.heap.size + 1, 2, none⟩ (.int .i64 0)).setCell ⟨w.heap.size + 1, 3, none⟩ (.int .i64 0)).setCell ⟨w.heap.size + 1, 4, none⟩ (.slice none 0 0) = W5 at *
  obtain ⟨⟨u0, u1, u2, u3, u4⟩, _⟩ := evt_cells hb5
  refine bodyPost_ret (v := .agg #[(.int .i64 R.code), (.int .i64 0), (.int .i64 0), (.int .i64 0), (.slice none 0 0)]) (by simp [results, Tryz.results25, go_sem, u0, u1, u2, u3, u4]) rfl ?_
  exact HG.done (R := (⟨R.code, 0, v0⟩, _)) H3.out k5 (safe_leaf v0 v0_fits rfl none)
set_option maxRecDepth 8000 in
set_option maxHeartbeats 4000000 in
theorem hdo_gate (H : HouseS X M q h w) (x : Sx) (hk : x.kind = 6) (hc : (gateOf h.s.ns h.s.os).code = 0) : Calls Tryz.prog 25 #[.pointer (some ⟨M.hb, 0, none⟩), .agg x.vals] w fun e w' => HDoQ X M q (⟨(gateOf h.s.ns h.s.os).code, 0, intV (gateOf h.s.ns h.s.os).num⟩, { h with s := { h.s with os := (gateOf h.s.ns h.s.os).os } }) w e w' := by
  have H2 := HG.start H x
  have HS := hid H2
  obtain ⟨d0, d1, _⟩ := H2.s.cells
  have HG3 := hid (Gr.gate_any H2.s.gs)
  have ok : HOk { h with s := { h.s with os := (gateOf h.s.ns h.s.os).os } } := by
    have h1 := H.ok.step ⟨6, 0, 0, 0, 0, 0, 0, 0, 0, []⟩
    exact h1
  have hnum : In64 (gateOf h.s.ns h.s.os).num := by
    have := H.ok.inv.lg
    unfold gateOf
    split
    · exact ⟨by simp only; omega, by simp only; omega⟩
    · exact ⟨by simp only; omega, by simp only; omega⟩
  rw [gateH_ns] at HG3
  have HX := hid (fun (w3 : World) (vo' : Value) (hg : GS 101 M.B w3 M.g q.n vo' h.s.ns (gateOf h.s.ns h.s.os).os) (go : Gr.Goes M.g q.n q.o _ q.n vo' w3) => HS.out.graph go hg ok)
  clear H H2 ok
  generalize gateOf h.s.ns h.s.os = R at *
  obtain ⟨kind, p, qq, k, hh, r, g, n, fs, fa, fc⟩ := x
  simp only [Sx.vals] at *
  subst hk
  go_enter Tryz.func25, Tryz.ntmps25
  go_wp2_with (first
    | (go_at_call 50; refine (made_yes 1 R.num _).mono ?_; rintro e w4 ⟨rfl, q4⟩; have H4 := hid (H3.out.quiet q4); have b3 := H4.out.b1; obtain ⟨⟨y0, y1, y2, y3, y4⟩, x0, x1, x2, x3, x4⟩ := evt_cells b3; have hl3 := lt_of_block b3; have HB3 := hid b3; clear b3 q4)
    | (go_at_call 49; refine HG3.out.mono ?_; rintro e w3 ⟨rfl, vo', g3, o3⟩; rw [hc]; have H3 := hid (HX.out _ _ g3 o3); clear g3 o3))
  have hb5 := evt_put HB3.out (.int .i64 0) (.int .i64 0) (.int .i64 1) (.int .i64 R.num) (.slice none 0 0)
  have k5 := evt_set w4 (w.heap.size + 1) (.int .i64 0) (.int .i64 0) (.int .i64 1) (.int .i64 R.num) (.slice none 0 0)
  generalize ((((w4.setCell ⟨w.heap.size + 1, 0, none⟩ (.int .i64 0)).setCell ⟨w.heap.size + 1, 1, none⟩ (.int .i64 0)).setCell ⟨w.heap.size + 1, 2, none⟩ (.int .i64 1)).setCell ⟨w.heap.size + 1, 3, none⟩ (.int .i64 R.num)).setCell ⟨w.heap.size + 1, 4, none⟩ (.slice none 0 0) = W5 at *
  obtain ⟨⟨u0, u1, u2, u3, u4⟩, _⟩ := evt_cells hb5
  refine bodyPost_ret (v := .agg #[(.int .i64 0), (.int .i64 0), (.int .i64 1), (.int .i64 R.num), (.slice none 0 0)]) (by simp [results, Tryz.results25, go_sem, u0, u1, u2, u3, u4]) rfl ?_
  rw [hc]
  exact HG.done (R := (⟨0, 0, intV R.num⟩, _)) H4.out k5 (safe_leaf _ ⟨small_in 1 (by decide), hnum⟩ rfl none)
set_option maxRecDepth 8000 in
set_option maxHeartbeats 4000000 in
theorem hdo_full (H : HouseS X M q h w) (x : Sx) (hk : x.kind = 6) (hc : (gateOf h.s.ns h.s.os).code ≠ 0) : Calls Tryz.prog 25 #[.pointer (some ⟨M.hb, 0, none⟩), .agg x.vals] w fun e w' => HDoQ X M q (⟨(gateOf h.s.ns h.s.os).code, 0, v0⟩, { h with s := { h.s with os := (gateOf h.s.ns h.s.os).os } }) w e w' := by
  have H2 := HG.start H x
  have HS := hid H2
  obtain ⟨d0, d1, _⟩ := H2.s.cells
  have HG3 := hid (Gr.gate_any H2.s.gs)
  have ok : HOk { h with s := { h.s with os := (gateOf h.s.ns h.s.os).os } } := by
    have h1 := H.ok.step ⟨6, 0, 0, 0, 0, 0, 0, 0, 0, []⟩
    exact h1
  rw [gateH_ns] at HG3
  have HX := hid (fun (w3 : World) (vo' : Value) (hg : GS 101 M.B w3 M.g q.n vo' h.s.ns (gateOf h.s.ns h.s.os).os) (go : Gr.Goes M.g q.n q.o _ q.n vo' w3) => HS.out.graph go hg ok)
  clear H H2 ok
  generalize gateOf h.s.ns h.s.os = R at *
  obtain ⟨kind, p, qq, k, hh, r, g, n, fs, fa, fc⟩ := x
  simp only [Sx.vals] at *
  subst hk
  go_enter Tryz.func25, Tryz.ntmps25
  go_wp2_with (first
    | (go_at_call 50; refine (made_no 1 R.num R.code hc _).mono ?_; rintro e w4 ⟨rfl, q4⟩; have H4 := hid (H3.out.quiet q4); have b3 := H4.out.b1; obtain ⟨⟨y0, y1, y2, y3, y4⟩, x0, x1, x2, x3, x4⟩ := evt_cells b3; have hl3 := lt_of_block b3; have HB3 := hid b3; clear b3 q4)
    | (go_at_call 49; refine HG3.out.mono ?_; rintro e w3 ⟨rfl, vo', g3, o3⟩; have H3 := hid (HX.out _ _ g3 o3); clear g3 o3))
  have hb5 := evt_put HB3.out (.int .i64 R.code) (.int .i64 0) (.int .i64 0) (.int .i64 0) (.slice none 0 0)
  have k5 := evt_set w4 (w.heap.size + 1) (.int .i64 R.code) (.int .i64 0) (.int .i64 0) (.int .i64 0) (.slice none 0 0)
  generalize ((((w4.setCell ⟨w.heap.size + 1, 0, none⟩ (.int .i64 R.code)).setCell ⟨w.heap.size + 1, 1, none⟩ (.int .i64 0)).setCell ⟨w.heap.size + 1, 2, none⟩ (.int .i64 0)).setCell ⟨w.heap.size + 1, 3, none⟩ (.int .i64 0)).setCell ⟨w.heap.size + 1, 4, none⟩ (.slice none 0 0) = W5 at *
  obtain ⟨⟨u0, u1, u2, u3, u4⟩, _⟩ := evt_cells hb5
  refine bodyPost_ret (v := .agg #[(.int .i64 R.code), (.int .i64 0), (.int .i64 0), (.int .i64 0), (.slice none 0 0)]) (by simp [results, Tryz.results25, go_sem, u0, u1, u2, u3, u4]) rfl ?_
  exact HG.done (R := (⟨R.code, 0, v0⟩, _)) H4.out k5 (safe_leaf _ v0_fits rfl none)
end
theorem hdo_c : HDoC := by
  intro X M q h w x P H hx hes hf hM
  have wrap : ∀ {R : Int → Evt × Hs}, (∀ c, stepH h (x.sp c) = R c) → x.kind ≠ 1 → (Calls Tryz.prog 25 #[.pointer (some ⟨M.hb, 0, none⟩), .agg x.vals] w fun e w' => HDoQ X M q (R 0) w e w') → Calls Tryz.prog 25 #[.pointer (some ⟨M.hb, 0, none⟩), .agg x.vals] w fun e w' => ∃ c, (x.kind = 1 → plugB x.p = true → ∃ f, P f ∧ f.1 = c) ∧ HDoQ X M q (stepH h (x.sp c)) w e w' := fun hR hk hC => hC.mono fun e w' hq => ⟨0, fun e1 => absurd e1 hk, by rw [hR]; exact hq⟩
  have hs : ∀ c, stepH h (x.sp c) = if x.kind = 1 then loadH h (x.sp c)
      else if x.kind = 2 then (if plugB x.p then giveH h x.p (cellOf h.s.ns h.s.os x.k x.r x.g) else (⟨1, 0, v0⟩, h))
      else if x.kind = 3 then (if plugB x.p then giveH h x.p (funcOf h.s.ns h.s.os x.q x.k x.r x.g) else (⟨1, 0, v0⟩, h))
      else if x.kind = 4 then callH h (x.sp c)
      else if x.kind = 5 then (⟨(cutOf h.s.ns h.s.os x.g).code, 0, v0⟩, { h with s := { h.s with os := (cutOf h.s.ns h.s.os x.g).os } })
      else if x.kind = 6 then (⟨(gateOf h.s.ns h.s.os).code, 0, if (gateOf h.s.ns h.s.os).code = 0 then intV (gateOf h.s.ns h.s.os).num else v0⟩, { h with s := { h.s with os := (gateOf h.s.ns h.s.os).os } })
      else (⟨2, 0, v0⟩, h) := fun _ => rfl
  by_cases k1 : x.kind = 1
  · refine (hdo_load H x hx hM k1).mono fun e w' hq => ?_
    obtain ⟨c, hc, hq⟩ := hq
    exact ⟨c, fun _ => hc, by rw [hs, if_pos k1]; exact hq⟩
  by_cases k2 : x.kind = 2
  · refine wrap (R := fun _ => giveX h x) (fun c => ?_) k1 (hdo_grant H x hf k2)
    rw [hs, if_neg k1, if_pos k2]
    unfold giveX capR
    rw [if_neg (by omega : ¬ x.kind = 3)]
  by_cases k3 : x.kind = 3
  · refine wrap (R := fun _ => giveX h x) (fun c => ?_) k1 (hdo_link H x hf k3)
    rw [hs, if_neg k1, if_neg k2, if_pos k3]
    unfold giveX capR
    rw [if_pos k3]
  by_cases k4 : x.kind = 4
  · exact wrap (R := fun c => callH h (x.sp c)) (fun c => by rw [hs, if_neg k1, if_neg k2, if_neg k3, if_pos k4]) k1 (hdo_call H x hx hes 0 k4)
  by_cases k5 : x.kind = 5
  · exact wrap (R := fun _ => (⟨(cutOf h.s.ns h.s.os x.g).code, 0, v0⟩, { h with s := { h.s with os := (cutOf h.s.ns h.s.os x.g).os } })) (fun c => by rw [hs, if_neg k1, if_neg k2, if_neg k3, if_neg k4, if_pos k5]) k1 (hdo_cut H x k5)
  by_cases k6 : x.kind = 6
  · by_cases hc : (gateOf h.s.ns h.s.os).code = 0
    · exact wrap (R := fun _ => (⟨(gateOf h.s.ns h.s.os).code, 0, intV (gateOf h.s.ns h.s.os).num⟩, { h with s := { h.s with os := (gateOf h.s.ns h.s.os).os } })) (fun c => by rw [hs, if_neg k1, if_neg k2, if_neg k3, if_neg k4, if_neg k5, if_pos k6, if_pos hc]) k1 (hdo_gate H x k6 hc)
    · exact wrap (R := fun _ => (⟨(gateOf h.s.ns h.s.os).code, 0, v0⟩, { h with s := { h.s with os := (gateOf h.s.ns h.s.os).os } })) (fun c => by rw [hs, if_neg k1, if_neg k2, if_neg k3, if_neg k4, if_neg k5, if_pos k6, if_neg hc]) k1 (hdo_full H x k6 hc)
  · exact wrap (R := fun _ => (⟨2, 0, v0⟩, h)) (fun c => by rw [hs, if_neg k1, if_neg k2, if_neg k3, if_neg k4, if_neg k5, if_neg k6]) k1 (hdo_none H x k1 k2 k3 k4 k5 k6)
set_option maxRecDepth 8000 in
set_option maxHeartbeats 1000000 in
theorem ynew_c : WNewC yT := by
  intro X B w hX hB
  have HN := hid (hnew_c X B w hX hB)
  go_enter Tryz.func12, Tryz.ntmps12
  go_wp2_with (go_at_call 24; refine HN.out.mono ?_; rintro e w1 ⟨M, q, rfl, rfl, s1, o1, q1⟩; have H1 := hid (And.intro s1 (And.intro o1 q1)); clear s1 o1 q1)
  go_ret
  obtain ⟨s1, o1, q1⟩ := H1.out
  have k2 : Quiet w1 (w1.alloc (.cells (yC ⟨M, w1.heap.size⟩ 0) 55)) := Kp.alloc _ _
  refine ⟨⟨M, w1.heap.size⟩, q, rfl, rfl, ⟨s1.step k2 (fun i hi e => ?_) (fun i e => ?_), heap_alloc_new w1 _, ?_, fun e => ?_, handt0⟩, fun k e => ?_, q1.trans k2⟩
  · rcases e with e | e
    · simp only at e; omega
    · exact e
  · rcases e with e | e
    · simp only at e; rw [e]; simp
    · exact Nat.lt_of_lt_of_le (s1.xo i e).1 k2.size
  · have := s1.lo; have := lt_of_block s1.obj; simp only; omega
  · have := (s1.xo _ e).1; simp only at this; omega
  · rcases e with e | e
    · exact o1 k e
    · have := q1.size; simp only at e; omega
set_option maxRecDepth 8000 in
set_option maxHeartbeats 1000000 in
theorem ymay_c : WMayC yT := by
  intro X p q h tr w a c bit H0 ht hl hp hb
  have H : YN X p q h tr tr.length w := H0
  have HG := hid (ygiven_any H (by omega))
  have HT := hid ht
  have HM := hid (fun (B : Nat) (a1 : Nat → Option Addr × Nat) (w' : World) (g : GfS B a1 (fun p => giftsOf tr p) w') => ygmayB_any g ht.ok ht.rights a c bit hp hb)
  clear H H0 ht
  show Calls Tryz.prog 15 #[.pointer (some ⟨p.wb, 0, none⟩), .int .i64 a, .int .i64 c, .int .i64 (rbit bit)] w fun e w' => e = .returned (.bool (mayB tr a c bit)) ∧ Quiet w w'
  generalize rbit bit = rt at *
  generalize mayB tr a c bit = r at *
  go_enter Tryz.func15, Tryz.ntmps15
  go_wp2_with (first
    | (go_at_call 29; refine (HM.out _ _ _ H2.out.1).mono ?_; rintro e w3 ⟨rfl, q3⟩; have H3 := hid q3; clear q3)
    | (go_at_call 28; refine HG.out.mono ?_; rintro e w2 ⟨a2, rfl, g2, q2⟩; have H2 := hid (And.intro g2 q2); clear g2 q2))
  go_ret
  exact ⟨rfl, H2.out.2.trans H3.out⟩
def XD (w : World) (X : Nat → Prop) (k : Nat) : Prop := (w.heap.size ≤ k ∧ k < w.heap.size + 3) ∨ X k
def ev0 : Array Value := #[.int .i64 0, .int .i64 0, .int .i64 0, .int .i64 0, .slice none 0 0]
structure YB (X : Nat → Prop) (P : Yx) (q q' : Hq) (h : Hs) (n : Nat) (w W : World) : Prop where
  s : HouseS (fun k => k = P.wb ∨ XD w X k) P.h q' h W
  g : GoesH P.h q w q' W
  obj : W.heap[P.wb]? = some (.cells (yC P n) 55 (0, 0))
  b1 : W.heap[w.heap.size + 1]? = some (.cells ev0 40 (0, 0))
  b2 : W.heap[w.heap.size + 1 + 1]? = some (.cells #[.int .i64 0, .int .i64 0] 27 (0, 0))
section
variable {X X2 : Nat → Prop} {P : Yx} {q q' : Hq} {h h' : Hs} {tr : List (Sp × Int)} {n : Nat} {w W W' w3 : World}
theorem YB.quiet (H : YB X P q q' h n w W) (k : Quiet W W') : YB X P q q' h n w W' :=
  ⟨H.s.quiet k, H.g.trans (GoesH.quiet _ _ k), (k.block _ (lt_of_block H.obj) fun e => e).trans H.obj, (k.block _ (lt_of_block H.b1) fun e => e).trans H.b1, (k.block _ (lt_of_block H.b2) fun e => e).trans H.b2⟩
theorem YN.begin (H : YN X P q h tr n w) (x : Sx) : YB X P q q h n w (((w.alloc (.cells x.vals 47)).alloc (.cells ev0 40)).alloc (.cells #[.int .i64 0, .int .i64 0] 27)) := by
  have k : Quiet w (((w.alloc (.cells x.vals 47)).alloc (.cells ev0 40)).alloc (.cells #[.int .i64 0, .int .i64 0] 27)) := ((Kp.alloc _ _).trans (Kp.alloc _ _)).trans (Kp.alloc _ _)
  obtain ⟨_, b1, b2⟩ := three_new w (.cells x.vals 47) (.cells ev0 40) (.cells #[.int .i64 0, .int .i64 0] 27)
  have hz := lt_of_block b2
  have hl := lt_of_block H.obj
  refine ⟨H.s.step k (fun i hi e => ?_) (fun i e => ?_), GoesH.quiet _ _ k, (k.block _ hl fun e => e).trans H.obj, b1, b2⟩
  · rcases e with e | e | e
    · exact .inl e
    · omega
    · exact .inr e
  · rcases e with e | e | e
    · rw [e]; exact Nat.lt_of_lt_of_le hl k.size
    · omega
    · exact Nat.lt_of_lt_of_le (H.xo e).1 k.size
theorem YB.did {e : Ending} {r : Evt × Hs} (A : YB X P q q h n w W) (S : HouseS X2 P.h q h W) (hX : ∀ k, k = P.wb ∨ XD w X k → X2 k) (hq : HDoQ X2 P.h q r W e w3) :
    ∃ q' ao cap, e = .returned (.agg #[.int .i64 r.1.code, .int .i64 r.1.fuel, .int .i64 r.1.v.kind, .int .i64 r.1.v.n, .slice ao r.1.v.l.length cap]) ∧ YB X P q q' r.2 n w w3 ∧ HouseS X2 P.h q' r.2 w3 ∧ SafeF (fun k => OwnH P.h q' k ∨ X2 k) (fun w => Is w r.1.v ao) w3 ∧ GoesH P.h q W q' w3 := by
  obtain ⟨q', ao, cap, rfl, s3, g3, f3⟩ := hq
  have nb : ∀ k, k = P.wb ∨ XD w X k → ¬ OwnH P.h q k := fun k e => (S.xo k (hX k e)).2
  refine ⟨q', ao, cap, rfl, ⟨?_, A.g.trans g3, (g3.block A.obj (nb _ (.inl rfl))).1, (g3.block A.b1 (nb _ (.inr (.inl (by omega))))).1, (g3.block A.b2 (nb _ (.inr (.inl (by omega))))).1⟩, s3, f3, g3⟩
  exact s3.step (Kp.refl _ _) (fun i _ e => hX i e) fun i e => (s3.xo i (hX i e)).1
structure YE (X : Nat → Prop) (P : Yx) (q q' : Hq) (r : Evt × Hs) (n : Nat) (ao : Option Addr) (cap tb : Nat) (w W : World) : Prop where
  s : YB X P q q' r.2 n w W
  bt : W.heap[tb]? = some (.cells #[.int .i64 r.1.code, .int .i64 r.1.fuel, .int .i64 r.1.v.kind, .int .i64 r.1.v.n, .slice ao r.1.v.l.length cap] 40 (0, 0))
  n0 : tb ≠ P.wb
  n1 : tb ≠ w.heap.size + 1
  n2 : tb ≠ w.heap.size + 1 + 1
  f : SafeF (fun k => OwnH P.h q' k ∨ k = P.wb ∨ XD w X k) (fun w => Is w r.1.v ao) W
theorem YE.quiet {r : Evt × Hs} {ao : Option Addr} {cap tb : Nat} (H : YE X P q q' r n ao cap tb w W) (k : Quiet W W') : YE X P q q' r n ao cap tb w W' :=
  ⟨H.s.quiet k, (k.block _ (lt_of_block H.bt) fun e => e).trans H.bt, H.n0, H.n1, H.n2, H.f.step (k.mono fun _ _ e => e.elim) fun _ _ e => e⟩
theorem YE.first {e : Ending} {r : Evt × Hs} (A : YB X P q q h n w W) (hq : HDoQ (fun k => k = P.wb ∨ XD w X k) P.h q r W.drew e w3) :
    ∃ q' ao cap, e = .returned (.agg #[.int .i64 r.1.code, .int .i64 r.1.fuel, .int .i64 r.1.v.kind, .int .i64 r.1.v.n, .slice ao r.1.v.l.length cap]) ∧ YE X P q q' r n ao cap w3.heap.size w (w3.alloc (.cells #[.int .i64 r.1.code, .int .i64 r.1.fuel, .int .i64 r.1.v.kind, .int .i64 r.1.v.n, .slice ao r.1.v.l.length cap] 40)) ∧ Kp (fun k => OwnH P.h q k ∨ W.heap.size ≤ k) W w3 := by
  have A2 := A.quiet (Kp.drew W)
  obtain ⟨q', ao, cap, he, B3, S3, F3, G3⟩ := A2.did A2.s (fun _ e => e) hq
  have k : Quiet w3 (w3.alloc (.cells #[.int .i64 r.1.code, .int .i64 r.1.fuel, .int .i64 r.1.v.kind, .int .i64 r.1.v.n, .slice ao r.1.v.l.length cap] 40)) := Kp.alloc _ _
  refine ⟨q', ao, cap, he, ⟨B3.quiet k, heap_alloc_new w3 _, ?_, ?_, ?_, F3.step (k.mono fun _ _ e => e.elim) fun _ _ e => e⟩, ?_⟩
  · have := lt_of_block B3.obj; omega
  · have := lt_of_block B3.b1; omega
  · have := lt_of_block B3.b2; omega
  · exact ((Kp.drew W).trans G3.kp).mono fun i _ e => .inl e
theorem YB.more (A : YB X P q q h n w W) : HouseS (fun k => (k = P.wb ∨ XD w X k) ∨ k = W.heap.size) P.h q h (W.alloc (.cells ev0 40)).drew := by
  have k1 : Quiet W (W.alloc (.cells ev0 40)).drew := (Kp.alloc _ _).trans (Kp.drew _)
  have hz : W.heap.size < (W.alloc (.cells ev0 40)).drew.heap.size := by show W.heap.size < (W.alloc (.cells ev0 40)).heap.size; simp
  exact A.s.step k1 (fun i hi e => by
    rcases e with e | e
    · exact e
    · omega) fun i e => by
    rcases e with e | e
    · exact Nat.lt_of_lt_of_le (A.s.xo i e).1 k1.size
    · rw [e]; exact hz
theorem YE.second {e : Ending} {r : Evt × Hs} (A : YB X P q q h n w W) (hq : HDoQ (fun k => (k = P.wb ∨ XD w X k) ∨ k = W.heap.size) P.h q r (W.alloc (.cells ev0 40)).drew e w3) :
    ∃ q' ao cap, e = .returned (.agg #[.int .i64 r.1.code, .int .i64 r.1.fuel, .int .i64 r.1.v.kind, .int .i64 r.1.v.n, .slice ao r.1.v.l.length cap]) ∧ w3.heap[W.heap.size]? = some (.cells ev0 40 (0, 0)) ∧ (∀ W4, Kp (fun k => k = W.heap.size) w3 W4 → W4.heap[W.heap.size]? = some (.cells #[.int .i64 r.1.code, .int .i64 r.1.fuel, .int .i64 r.1.v.kind, .int .i64 r.1.v.n, .slice ao r.1.v.l.length cap] 40 (0, 0)) → YE X P q q' r n ao cap W.heap.size w W4) ∧ Kp (fun k => OwnH P.h q k ∨ W.heap.size ≤ k) W w3 := by
  have k1 : Quiet W (W.alloc (.cells ev0 40)).drew := (Kp.alloc _ _).trans (Kp.drew _)
  have A2 := A.quiet k1
  have S2 := A.more
  obtain ⟨q', ao, cap, he, B3, S3, F3, G3⟩ := A2.did S2 (fun _ e => .inl e) hq
  have bn : w3.heap[W.heap.size]? = some (.cells ev0 40 (0, 0)) := (G3.block (show (W.alloc (.cells ev0 40)).drew.heap[W.heap.size]? = _ from heap_alloc_new W _) (S2.xo _ (.inr rfl)).2).1
  have z0 := lt_of_block A.obj
  have z1 := lt_of_block A.b1
  have z2 := lt_of_block A.b2
  have hw : w.heap.size ≤ W.heap.size := A.g.kp.size
  refine ⟨q', ao, cap, he, bn, fun W4 k5 b5 => ⟨⟨?_, ?_, (k5.block _ (lt_of_block B3.obj) (by omega)).trans B3.obj, (k5.block _ (lt_of_block B3.b1) (by omega)).trans B3.b1, (k5.block _ (lt_of_block B3.b2) (by omega)).trans B3.b2⟩, b5, by omega, by omega, by omega, F3.step (k5.mono fun i _ e => .inr (.inr e)) fun i _ e => ?_⟩, ?_⟩
  · refine S3.turn2 k5 (fun i e => .inr e) (fun i cs t hi ht e => ?_) (fun i _ e => .inl e) fun i e => ⟨Nat.lt_of_lt_of_le (S3.xo i (.inl e)).1 k5.size, (S3.xo i (.inl e)).2⟩
    rw [e, bn] at hi
    simp at hi
    rcases ht with ht | ht <;> rw [ht] at hi <;> exact absurd hi.2 (by decide)
  · exact B3.g.fresh (k5.mono fun i _ e => by omega)
  · rcases e with e | e
    · exact .inl e
    · exact .inr (.inl e)
  · exact (k1.mono fun _ _ e => e.elim).trans (G3.kp.mono fun i _ e => .inl e)
theorem YB.watch (H : YB X P q q' h' n w W) (H0 : YN X P q h tr n w) {tr' : List (Sp × Int)} (hd : HandT tr' h') : YN (XD w X) P q' h' tr' n W :=
  ⟨H.s, H.obj, H0.lo, fun e => by
    have hl := lt_of_block H0.obj
    rcases e with e | e
    · omega
    · exact H0.xw e, hd⟩
theorem count_block {n : Nat} (h : W.heap[P.wb]? = some (.cells (yC P n) 55 (0, 0))) (m : Nat) : (W.setCell ⟨P.wb, 1, none⟩ (.int .i64 (m : Nat))).heap[P.wb]? = some (.cells (yC P m) 55 (0, 0)) := by
  unfold yC at h ⊢
  simp [World.setCell, Array.getElem?_modify, h]
theorem YE.done {r : Evt × Hs} {y : Sp} {ao : Option Addr} {cap tb : Nat} {W9 : World} (H : YE X P q q' r n ao cap tb w W) (H0 : YN X P q h tr n w) (hn : n = tr.length) (hd : HandT (tr ++ [(y, r.1.code)]) r.2)
    (k9 : Kp (fun k => k = P.wb ∨ k = w.heap.size + 1 ∨ k = w.heap.size + 1 + 1) W W9) (b9 : W9.heap[P.wb]? = some (.cells (yC P (n + 1)) 55 (0, 0))) :
    WDoQ yT X P q tr y r w (.returned (.tuple #[.agg #[.int .i64 r.1.code, .int .i64 r.1.fuel, .int .i64 r.1.v.kind, .int .i64 r.1.v.n, .slice ao r.1.v.l.length cap], .agg #[.int .i64 0, .int .i64 0]])) W9 := by
  have hl := lt_of_block H0.obj
  have fx : ∀ i, i = P.wb ∨ i = w.heap.size + 1 ∨ i = w.heap.size + 1 + 1 → i = P.wb ∨ XD w X i := fun i e => by
    rcases e with e | e | e
    · exact .inl e
    · exact .inr (.inl (by omega))
    · exact .inr (.inl (by omega))
  have s9 : HouseS (fun k => k = P.wb ∨ X k) P.h q' r.2 W9 := H.s.s.turn2 k9 fx (fun i cs t hi ht e => by
      rcases e with e | e | e
      · rw [e, H.s.obj] at hi; simp at hi; rcases ht with ht | ht <;> rw [ht] at hi <;> exact absurd hi.2 (by decide)
      · rw [e, H.s.b1] at hi; simp at hi; rcases ht with ht | ht <;> rw [ht] at hi <;> exact absurd hi.2 (by decide)
      · rw [e, H.s.b2] at hi; simp at hi; rcases ht with ht | ht <;> rw [ht] at hi <;> exact absurd hi.2 (by decide)) (fun i _ e => by
      rcases e with e | e
      · exact .inl e
      · exact .inr (.inr e)) (fun i e => by
      have e2 : i = P.wb ∨ XD w X i := by
        rcases e with e | e
        · exact .inl e
        · exact .inr (.inr e)
      exact ⟨Nat.lt_of_lt_of_le (H.s.s.xo i e2).1 k9.size, (H.s.s.xo i e2).2⟩)
  refine ⟨q', ao, cap, rfl, ?_, ⟨?_, ?_⟩, ?_⟩
  · show YN X P q' r.2 (tr ++ [(y, r.1.code)]) (tr ++ [(y, r.1.code)]).length W9
    rw [show (tr ++ [(y, r.1.code)]).length = n + 1 by simp [hn]]
    exact ⟨s9, b9, H0.lo, H0.xw, hd⟩
  · show Kp (OwnY P q) w W9
    have k1 : Kp (OwnY P q) w W := H.s.g.kp.mono fun i _ e => .inl e
    refine ⟨k9.os.trans k1.os, k9.tape.trans k1.tape, k9.output.trans k1.output, Nat.le_trans k1.size k9.size, fun i hi hF => ?_⟩
    refine (k9.block i (Nat.lt_of_lt_of_le hi k1.size) fun e => ?_).trans (k1.block i hi hF)
    rcases e with e | e | e
    · exact hF (.inr e)
    · omega
    · omega
  · intro i e
    rcases (show OwnY P q' i from e) with e | e
    · rcases H.s.g.own i e with e | e
      · exact .inl (.inl e)
      · exact .inr e
    · exact .inl (.inr e)
  · show SafeF (fun k => OwnY P q' k ∨ X k) (fun w => Is w r.1.v ao) W9
    refine H.f.step (k9.mono fun i _ e => .inr (fx i e)) fun i _ e => ?_
    rcases e with (e | e) | e
    · exact .inl e
    · exact .inr (.inl e)
    · exact .inr (.inr (.inr e))
theorem y_cells {n : Nat} (h : W.heap[P.wb]? = some (.cells (yC P n) 55 (0, 0))) : (W.cell? ⟨P.wb, 0, none⟩ = some (.pointer (some ⟨P.h.hb, 0, none⟩)) ∧ W.cell? ⟨P.wb, 1, none⟩ = some (.int .i64 (n : Nat)) ∧ W.cell? ⟨P.wb, 2, none⟩ = some (.int .i64 0) ∧ W.cell? ⟨P.wb, 3, none⟩ = some (.int .i64 0)) ∧ W.frozen? ⟨P.wb, 1, none⟩ = false := by
  refine ⟨⟨?_, ?_, ?_, ?_⟩, frozen_of_row W P.wb 1 _ 55 h⟩ <;> simp [World.cell?, h, yC]
theorem two_put {g : Nat} {x0 x1 : Value} {t : TypeId} (h : W.heap[g]? = some (.cells #[x0, x1] t (0, 0))) (t0 t1 : Value) : ((W.setCell ⟨g, 0, none⟩ t0).setCell ⟨g, 1, none⟩ t1).heap[g]? = some (.cells #[t0, t1] t (0, 0)) := by
  simp [World.setCell, Array.getElem?_modify, h]
end
set_option maxRecDepth 8000 in
set_option maxHeartbeats 4000000 in
theorem ydo_c : WDoC yT := by
  intro X (P : Yx) (q : Hq) h tr w x Pm H0 ht hx hes hf hl hm
  have H : YN X P q h tr tr.length w := H0
  have HX := hid hx
  have HS := hid H
  have HT := hid ht
  have HM := hid hm
  have HA := hid (H.begin x)
  obtain ⟨W, hW⟩ : ∃ W, W = ((w.alloc (.cells x.vals 47)).alloc (.cells ev0 40)).alloc (.cells #[.int .i64 0, .int .i64 0] 27) := ⟨_, rfl⟩
  rw [← hW] at HA
  have hb0 : W.heap[w.heap.size]? = some (.cells x.vals 47 (0, 0)) := by rw [hW]; exact (three_new w _ _ _).1
  have HB0 := hid (And.intro hb0 (show Quiet w W by rw [hW]; exact ((Kp.alloc _ _).trans (Kp.alloc _ _)).trans (Kp.alloc _ _)))
  have c0 : W.cell? ⟨P.wb, 0, none⟩ = some (.pointer (some ⟨P.h.hb, 0, none⟩)) := by simp [World.cell?, HA.out.obj, yC]
  obtain ⟨c1, c2, c3⟩ := HA.out.s.cells
  have HFW := hid hf
  clear H H0 ht hm hx hb0 hf
  show Calls Tryz.prog 13 #[.pointer (some ⟨P.wb, 0, none⟩), .agg x.vals] w fun e w' => ∃ c, (x.kind = 1 → plugB x.p = true → ∃ f, Pm f ∧ f.1 = c) ∧ WDoQ yT X P q tr (x.sp c) (stepH h (x.sp c)) w e w'
  unfold ev0 at hW
  have HVV := hid (show x.vals = #[.int .i64 x.kind, .int .i64 x.p, .int .i64 x.q, .int .i64 x.k, .int .i64 x.h, .int .i64 x.r, .int .i64 x.g, .int .i64 x.n, .slice x.fa x.fs.length x.fc] from rfl)
  rw [HVV.out] at hW ⊢
  go_enter Tryz.func13, Tryz.ntmps13
  go_upto_region 1 with fail
  rw [← hW]
  clear hW
  go_upto_region 2 with (go_at_call 17; refine (Wo.log_any _ W _ _ _ _ HA.out.s.ws (by omega)).mono ?_; rintro e w1 ⟨v1, rfl, r1, k1⟩; obtain ⟨la, lc, rfl⟩ := Gr.owns_shape r1; have H1 := hid (HA.out.quiet k1); have K1 := hid k1; clear r1 k1)
  have q01 := HB0.out.2.trans K1.out
  have HCC := hid (fun (w' : World) (k : Quiet w1 w') (X2 : Nat → Prop) (S : HouseS X2 P.h q h w') => hdo_c X2 P.h q h w' x Pm S HX.out (by omega) HFW.out ⟨HM.out.1, fun w2 k2 => HM.out.2 w2 ((q01.trans k).trans k2)⟩)
  have hb0 := (K1.out.block _ (lt_of_block HB0.out.1) fun e => e).trans HB0.out.1
  have sAll := hid (fun (w' : World) (z : Quiet w1 w') => show w'.cell? ⟨P.wb, 0, none⟩ = some (.pointer (some ⟨P.h.hb, 0, none⟩)) ∧ w'.heap[w.heap.size]? = some (.cells x.vals 47 (0, 0)) from ⟨z.cell (K1.out.cell c0 fun e => e) fun e => e, (z.block _ (lt_of_block hb0) fun e => e).trans hb0⟩)
  have HQ1 := hid q01
  clear c0 c1 c2 c3 q01 hb0
  obtain ⟨s1, sb⟩ := sAll.out w1 (Kp.refl _ _)
  obtain ⟨s1a, sba⟩ := sAll.out (w1.alloc (.cells #[.int .i64 0, .int .i64 0, .int .i64 0, .int .i64 0, .slice none 0 0] 40)) (Kp.alloc _ _)
  rw [HVV.out] at sb sba HCC
  obtain ⟨n0, n1, n2, n3, n4, n5, n6, n7, n8⟩ := nine9 sb
  obtain ⟨m0, m1, m2, m3, m4, m5, m6, m7, m8⟩ := nine9 sba
  clear sb sba
  go_cut [7] from 20 to 25 (fun pt wx => ∃ tb, pt = .pointer (some ⟨tb, 0, none⟩) ∧ Hid (∃ c q' ao cap, (x.kind = 1 → plugB x.p = true → ∃ f, Pm f ∧ f.1 = c) ∧ YE X P q q' (stepH h (x.sp c)) tr.length ao cap tb w wx))
  case first =>
    have HC2 := hid (HCC.out _ ((Kp.alloc _ _).trans (Kp.drew _)) _ H1.out.more)
    have H12 := hid (fun e w3 r => YE.second (e := e) (w3 := w3) (r := r) H1.out)
    unfold ev0 at HC2 H12
    go_region_law ((go_simp; go_at_call 25; first
      | (refine (HCC.out _ (Kp.drew _) _ (H1.out.quiet (Kp.drew _)).s).mono ?_; rintro e w3 ⟨c, hc, hq⟩; obtain ⟨q', ao, cap, rfl, hE, kq⟩ := YE.first H1.out hq; clear hq kq; generalize hr : stepH h (x.sp c) = r at *; have HE := hid (And.intro hc (And.intro hr hE)); clear hE hc hr; obtain ⟨⟨cd, fu, v⟩, h3⟩ := r; simp only at HE ⊢)
      | (refine HC2.out.mono ?_; rintro e w3 ⟨c, hc, hq⟩; obtain ⟨q', ao, cap, rfl, bn, hE, kq⟩ := H12.out _ _ _ hq; clear hq kq; generalize hr : stepH h (x.sp c) = r at *; have HE := hid (And.intro hc (And.intro hr hE)); clear hE hc hr; obtain ⟨⟨cd, fu, v⟩, h3⟩ := r; simp only at HE ⊢; have BN := hid bn; obtain ⟨⟨y0, y1, y2, y3, y4⟩, x0, x1, x2, x3, x4⟩ := evt_cells bn; have hl1 := lt_of_block bn; clear bn)))
    all_goals
      go_wp2_with fail
      go_meet
      first
        | exact ⟨_, rfl, hid ⟨c, q', ao, cap, HE.out.1, by rw [HE.out.2.1]; exact HE.out.2.2⟩⟩
        | exact ⟨_, rfl, hid ⟨c, q', ao, cap, HE.out.1, by rw [HE.out.2.1]; exact HE.out.2.2 _ (evt_set _ _ _ _ _ _ _) (evt_put BN.out _ _ _ _ _)⟩⟩
  case rest =>
    clear m0 m1 m2 m3 m4 m5 m6 m7 m8 n0 n1 n2 n3 n4 n5 n6 n7 n8 s1 s1a sAll HCC H1 K1 HA HB0 HQ1
    obtain ⟨tb, rfl, K⟩ := hcut
    obtain ⟨c, q', ao, cap, hc, hE⟩ := K.out
    have HAD := hid (step_adds HS.out.s.ok (x.sp c))
    have HMA := step_may2 HT.out.ok HT.out.inv (x.sp c)
    have HTR := hid (HT.out.step (x.sp c))
    have HHD := hid (HS.out.hand.step HT.out.inv (x.sp c))
    obtain ⟨new, hes2, hnew⟩ := HMA
    have HNW := hid (show ∀ e ∈ new, MayE (tr ++ [(x.sp c, (stepH h (x.sp c)).1.code)]) e from fun e he => by
      obtain ⟨a1, bit, a2, a3, a4, _⟩ := hnew e he
      exact ⟨a1, bit, a2, a3, mayB_more HT.out.ok HTR.out.ok a1 a4⟩)
    have HCC := hid hc
    clear hnew K hc
    generalize hr : stepH h (x.sp c) = r at *
    have HR := hid hr
    clear hr
    obtain ⟨⟨cd, fu, v⟩, h3⟩ := r
    simp only at *
    have hen : h3.s.es.length = h.s.es.length + new.length := by rw [hes2]; simp
    have hel : h3.s.es.length ≤ 802000 := by have := HAD.out.1; omega
    have HES := hid hes2
    have d0 : wc.cell? ⟨P.wb, 0, none⟩ = some (.pointer (some ⟨P.h.hb, 0, none⟩)) := by simp [World.cell?, hE.s.obj, yC]
    obtain ⟨d1, d2, d3⟩ := hE.s.s.cells
    have HL := hid (Wo.log_any _ wc _ _ _ _ hE.s.s.ws (show h3.s.es.length ≤ 1000000 by omega))
    have HE := hid hE
    rw [hen] at HL
    clear hes2 hE HAD
    generalize hna : h.s.es.length = na at *
    generalize hnb : new.length = nb at *
    have HNA := hid (And.intro hna (And.intro hnb hen))
    clear hna hen
    go_wp2_with (go_at_call 17; refine HL.out.mono ?_)
    intro e w5 v5 he r5 k5
    have HE5 := hid (HE.out.quiet k5)
    have HWD := hid (HE5.out.s.watch HS.out HHD.out)
    have HFIN : ∀ w6, Quiet w5 w6 → YE X P q q' (⟨cd, fu, v⟩, h3) tr.length ao cap tb w w6 := fun w6 k6 => HE5.out.quiet k6
    have HFN := hid HFIN
    clear HFIN
    rcases r5.2 with ⟨hv, h0⟩ | ⟨g5, cap5, cur5, hv, hrest⟩
    · subst hv
      subst he
      obtain ⟨rfl, rfl⟩ : na = 0 ∧ nb = 0 := by omega
      obtain rfl : new = [] := List.length_eq_zero_iff.1 HNA.out.2.1
      have HLK := hid (ylook_any HWD.out (by simp; omega) HTR.out.ok HTR.out.rights [] HNW.out none 0 (fun k hk => by simp at hk) (by simp))
      simp only [List.length_nil] at HLK
      clear r5 k5
      go_upto_region 4 with (go_at_call 26; refine HLK.out.mono ?_; rintro e w6 ⟨rfl, k6⟩; have H6 := hid (HFN.out w6 k6); clear k6)
      obtain ⟨⟨y0, y1, y2, y3⟩, fz⟩ := y_cells H6.out.s.obj
      have hlw := lt_of_block H6.out.s.obj
      obtain ⟨W7, hW7⟩ : ∃ W7, W7 = w6.setCell ⟨P.wb, 1, none⟩ (.int .i64 ((tr.length : Int) + 1)) := ⟨_, rfl⟩
      have k7 : Kp (fun k => k = P.wb) w6 W7 := by rw [hW7]; exact kp_set w6 P.wb 1 _
      have b7 : W7.heap[P.wb]? = some (.cells (yC P (tr.length + 1)) 55 (0, 0)) := by rw [hW7]; have := count_block H6.out.s.obj (tr.length + 1); simpa using this
      go_upto_region 5 with fail
      rw [← hW7]
      clear hW7 y0 y1 y2 y3 fz hlw
      obtain ⟨⟨y0, y1, y2, y3⟩, fz⟩ := y_cells b7
      have bt := (k7.block _ (lt_of_block H6.out.bt) H6.out.n0).trans H6.out.bt
      have hwl := lt_of_block HS.out.obj
      have bb1 := (k7.block _ (lt_of_block H6.out.s.b1) (by omega)).trans H6.out.s.b1
      have bb2 := (k7.block _ (lt_of_block H6.out.s.b2) (by omega)).trans H6.out.s.b2
      obtain ⟨⟨t0, t1, t2, t3, t4⟩, _⟩ := evt_cells bt
      unfold ev0 at bb1
      obtain ⟨⟨p0, p1, p2, p3, p4⟩, x0, x1, x2, x3, x4⟩ := evt_cells bb1
      have hl1 := lt_of_block bb1
      have hl2 := lt_of_block bb2
      have r0 := frozen_of_row W7 (w.heap.size + 1 + 1) 0 _ _ bb2
      have r1 := frozen_of_row W7 (w.heap.size + 1 + 1) 1 _ _ bb2
      obtain ⟨g0, g1⟩ := ytwo bb2
      have H7 := hid (And.intro k7 (And.intro b7 (And.intro bb1 bb2)))
      have k8 := evt_set W7 (w.heap.size + 1) (.int .i64 cd) (.int .i64 fu) (.int .i64 v.kind) (.int .i64 v.n) (.slice ao v.l.length cap)
      have b8 := evt_put bb1 (.int .i64 cd) (.int .i64 fu) (.int .i64 v.kind) (.int .i64 v.n) (.slice ao v.l.length cap)
      have H8 := hid (And.intro k8 b8)
      clear bt k7 b7 bb1 bb2 k8 b8
      go_wp2_with fail
      obtain ⟨k8, b8⟩ := H8.out
      generalize (((((W7.setCell ⟨w.heap.size + 1, 0, none⟩ (.int .i64 cd)).setCell ⟨w.heap.size + 1, 1, none⟩ (.int .i64 fu)).setCell ⟨w.heap.size + 1, 2, none⟩ (.int .i64 v.kind)).setCell ⟨w.heap.size + 1, 3, none⟩ (.int .i64 v.n)).setCell ⟨w.heap.size + 1, 4, none⟩ (.slice ao v.l.length cap)) = W8 at *
      obtain ⟨k7, b7, bb1, bb2⟩ := H7.out
      have c2 := (k8.block _ (lt_of_block bb2) (by omega)).trans bb2
      have k9 := (kp_set W8 (w.heap.size + 1 + 1) 0 (.int .i64 0)).trans (kp_set _ (w.heap.size + 1 + 1) 1 (.int .i64 0))
      have b9 := two_put c2 (.int .i64 0) (.int .i64 0)
      generalize (W8.setCell ⟨w.heap.size + 1 + 1, 0, none⟩ (.int .i64 0)).setCell ⟨w.heap.size + 1 + 1, 1, none⟩ (.int .i64 0) = W9 at *
      have b8' := (k9.block _ (lt_of_block b8) (by omega)).trans b8
      have b7' := (k9.block _ (Nat.lt_of_lt_of_le (lt_of_block b7) k8.size) (by omega)).trans ((k8.block _ (lt_of_block b7) (by omega)).trans b7)
      obtain ⟨⟨z0, z1, z2, z3, z4⟩, _⟩ := evt_cells b8'
      obtain ⟨z5, z6⟩ := ytwo b9
      refine bodyPost_ret (v := .tuple #[.agg #[.int .i64 cd, .int .i64 fu, .int .i64 v.kind, .int .i64 v.n, .slice ao v.l.length cap], .agg #[.int .i64 0, .int .i64 0]]) (by simp [results, Tryz.results13, go_sem, z0, z1, z2, z3, z4, z5, z6]) rfl ⟨c, ?_, ?_⟩
      · first
          | exact HCC.out
          | exact fun a b => by
              obtain ⟨f, h1, h2⟩ := HCC.out a b
              exact ⟨f.2, by rw [← h2]; exact h1⟩
      · rw [HR.out]
        exact H6.out.done HS.out rfl HHD.out (((k7.mono fun i _ e => .inl e).trans (k8.mono fun i _ e => .inr (.inl e))).trans (k9.mono fun i _ e => .inr (.inr e))) b7'
    · have h5 := hrest.2.2.1
      subst hv
      subst he
      have i1 : (na : Int) ≤ ((na + nb : Nat) : Int) := by omega
      have i2 : ((na + nb : Nat) : Int) ≤ (cap5 : Int) := by omega
      have HEA : EntsAt w5 new (if cap5 = na then some ⟨g5, 0, none⟩ else some ⟨g5, na * 4, none⟩) := fun k hk => by
        have e5 : h3.s.es.length = na + nb := HNA.out.2.2
        have hk2 : k < nb := by rw [← HNA.out.2.1]; exact hk
        have hb5 : na + nb ≤ cap5 := h5
        rw [if_neg (by omega)]
        have r6 : w5.ownsRow wc.heap.size 70 4 (.slice (some ⟨g5, 0, none⟩) h3.s.es.length cap5) h3.s.es.length (Wo.entCells h3.s.es) := by rw [e5]; exact r5
        obtain ⟨g', cap', el, l0, l1, l2, l3⟩ := ents_at r6 (na + k) (by omega)
        cases el
        have e6 : h3.s.es[na + k]'(by omega) = new[k] := by
          have h1 : ∀ (l : List Wo.Ent) (hl : l = h.s.es ++ new) (hi : na + k < l.length), l[na + k] = new[k] := fun l hl hi => by
            subst hl
            rw [List.getElem_append_right (by rw [HNA.out.1]; omega)]
            congr 1
            rw [HNA.out.1]; omega
          exact h1 _ HES.out _
        rw [e6] at l0 l1 l2 l3
        refine ⟨g5, na * 4, rfl, ?_, ?_, ?_, ?_⟩
        · rw [show na * 4 + k * 4 = (na + k) * 4 by omega]; exact l0
        · rw [show na * 4 + k * 4 + 1 = (na + k) * 4 + 1 by omega]; exact l1
        · rw [show na * 4 + k * 4 + 2 = (na + k) * 4 + 2 by omega]; exact l2
        · rw [show na * 4 + k * 4 + 3 = (na + k) * 4 + 3 by omega]; exact l3
      have HLK := hid (ylook_any HWD.out (by simp; omega) HTR.out.ok HTR.out.rights new HNW.out _ (cap5 - na) HEA (by rw [hnb]; have := HNA.out.2.2; omega))
      rw [hnb] at HLK
      clear hrest r5 k5 HEA
      by_cases hcn : cap5 = na
      · rw [if_pos hcn] at HLK
        subst hcn
        obtain rfl : nb = 0 := by omega
        rw [Nat.sub_self] at HLK
        go_upto_region 4 with (go_at_call 26; refine HLK.out.mono ?_; rintro e w6 ⟨rfl, k6⟩; have H6 := hid (HFN.out w6 k6); clear k6)
        obtain ⟨⟨y0, y1, y2, y3⟩, fz⟩ := y_cells H6.out.s.obj
        have hlw := lt_of_block H6.out.s.obj
        obtain ⟨W7, hW7⟩ : ∃ W7, W7 = w6.setCell ⟨P.wb, 1, none⟩ (.int .i64 ((tr.length : Int) + 1)) := ⟨_, rfl⟩
        have k7 : Kp (fun k => k = P.wb) w6 W7 := by rw [hW7]; exact kp_set w6 P.wb 1 _
        have b7 : W7.heap[P.wb]? = some (.cells (yC P (tr.length + 1)) 55 (0, 0)) := by rw [hW7]; have := count_block H6.out.s.obj (tr.length + 1); simpa using this
        go_upto_region 5 with fail
        rw [← hW7]
        clear hW7 y0 y1 y2 y3 fz hlw
        obtain ⟨⟨y0, y1, y2, y3⟩, fz⟩ := y_cells b7
        have bt := (k7.block _ (lt_of_block H6.out.bt) H6.out.n0).trans H6.out.bt
        have hwl := lt_of_block HS.out.obj
        have bb1 := (k7.block _ (lt_of_block H6.out.s.b1) (by omega)).trans H6.out.s.b1
        have bb2 := (k7.block _ (lt_of_block H6.out.s.b2) (by omega)).trans H6.out.s.b2
        obtain ⟨⟨t0, t1, t2, t3, t4⟩, _⟩ := evt_cells bt
        unfold ev0 at bb1
        obtain ⟨⟨p0, p1, p2, p3, p4⟩, x0, x1, x2, x3, x4⟩ := evt_cells bb1
        have hl1 := lt_of_block bb1
        have hl2 := lt_of_block bb2
        have r0 := frozen_of_row W7 (w.heap.size + 1 + 1) 0 _ _ bb2
        have r1 := frozen_of_row W7 (w.heap.size + 1 + 1) 1 _ _ bb2
        obtain ⟨g0, g1⟩ := ytwo bb2
        have H7 := hid (And.intro k7 (And.intro b7 (And.intro bb1 bb2)))
        have k8 := evt_set W7 (w.heap.size + 1) (.int .i64 cd) (.int .i64 fu) (.int .i64 v.kind) (.int .i64 v.n) (.slice ao v.l.length cap)
        have b8 := evt_put bb1 (.int .i64 cd) (.int .i64 fu) (.int .i64 v.kind) (.int .i64 v.n) (.slice ao v.l.length cap)
        have H8 := hid (And.intro k8 b8)
        clear bt k7 b7 bb1 bb2 k8 b8
        go_wp2_with fail
        obtain ⟨k8, b8⟩ := H8.out
        generalize (((((W7.setCell ⟨w.heap.size + 1, 0, none⟩ (.int .i64 cd)).setCell ⟨w.heap.size + 1, 1, none⟩ (.int .i64 fu)).setCell ⟨w.heap.size + 1, 2, none⟩ (.int .i64 v.kind)).setCell ⟨w.heap.size + 1, 3, none⟩ (.int .i64 v.n)).setCell ⟨w.heap.size + 1, 4, none⟩ (.slice ao v.l.length cap)) = W8 at *
        obtain ⟨k7, b7, bb1, bb2⟩ := H7.out
        have c2 := (k8.block _ (lt_of_block bb2) (by omega)).trans bb2
        have k9 := (kp_set W8 (w.heap.size + 1 + 1) 0 (.int .i64 0)).trans (kp_set _ (w.heap.size + 1 + 1) 1 (.int .i64 0))
        have b9 := two_put c2 (.int .i64 0) (.int .i64 0)
        generalize (W8.setCell ⟨w.heap.size + 1 + 1, 0, none⟩ (.int .i64 0)).setCell ⟨w.heap.size + 1 + 1, 1, none⟩ (.int .i64 0) = W9 at *
        have b8' := (k9.block _ (lt_of_block b8) (by omega)).trans b8
        have b7' := (k9.block _ (Nat.lt_of_lt_of_le (lt_of_block b7) k8.size) (by omega)).trans ((k8.block _ (lt_of_block b7) (by omega)).trans b7)
        obtain ⟨⟨z0, z1, z2, z3, z4⟩, _⟩ := evt_cells b8'
        obtain ⟨z5, z6⟩ := ytwo b9
        refine bodyPost_ret (v := .tuple #[.agg #[.int .i64 cd, .int .i64 fu, .int .i64 v.kind, .int .i64 v.n, .slice ao v.l.length cap], .agg #[.int .i64 0, .int .i64 0]]) (by simp [results, Tryz.results13, go_sem, z0, z1, z2, z3, z4, z5, z6]) rfl ⟨c, ?_, ?_⟩
        · first
            | exact HCC.out
            | exact fun a b => by
                obtain ⟨f, h1, h2⟩ := HCC.out a b
                exact ⟨f.2, by rw [← h2]; exact h1⟩
        · rw [HR.out]
          exact H6.out.done HS.out rfl HHD.out (((k7.mono fun i _ e => .inl e).trans (k8.mono fun i _ e => .inr (.inl e))).trans (k9.mono fun i _ e => .inr (.inr e))) b7'
      · rw [if_neg hcn] at HLK
        go_upto_region 4 with (go_at_call 26; refine HLK.out.mono ?_; rintro e w6 ⟨rfl, k6⟩; have H6 := hid (HFN.out w6 k6); clear k6)
        obtain ⟨⟨y0, y1, y2, y3⟩, fz⟩ := y_cells H6.out.s.obj
        have hlw := lt_of_block H6.out.s.obj
        obtain ⟨W7, hW7⟩ : ∃ W7, W7 = w6.setCell ⟨P.wb, 1, none⟩ (.int .i64 ((tr.length : Int) + 1)) := ⟨_, rfl⟩
        have k7 : Kp (fun k => k = P.wb) w6 W7 := by rw [hW7]; exact kp_set w6 P.wb 1 _
        have b7 : W7.heap[P.wb]? = some (.cells (yC P (tr.length + 1)) 55 (0, 0)) := by rw [hW7]; have := count_block H6.out.s.obj (tr.length + 1); simpa using this
        go_upto_region 5 with fail
        rw [← hW7]
        clear hW7 y0 y1 y2 y3 fz hlw
        obtain ⟨⟨y0, y1, y2, y3⟩, fz⟩ := y_cells b7
        have bt := (k7.block _ (lt_of_block H6.out.bt) H6.out.n0).trans H6.out.bt
        have hwl := lt_of_block HS.out.obj
        have bb1 := (k7.block _ (lt_of_block H6.out.s.b1) (by omega)).trans H6.out.s.b1
        have bb2 := (k7.block _ (lt_of_block H6.out.s.b2) (by omega)).trans H6.out.s.b2
        obtain ⟨⟨t0, t1, t2, t3, t4⟩, _⟩ := evt_cells bt
        unfold ev0 at bb1
        obtain ⟨⟨p0, p1, p2, p3, p4⟩, x0, x1, x2, x3, x4⟩ := evt_cells bb1
        have hl1 := lt_of_block bb1
        have hl2 := lt_of_block bb2
        have r0 := frozen_of_row W7 (w.heap.size + 1 + 1) 0 _ _ bb2
        have r1 := frozen_of_row W7 (w.heap.size + 1 + 1) 1 _ _ bb2
        obtain ⟨g0, g1⟩ := ytwo bb2
        have H7 := hid (And.intro k7 (And.intro b7 (And.intro bb1 bb2)))
        have k8 := evt_set W7 (w.heap.size + 1) (.int .i64 cd) (.int .i64 fu) (.int .i64 v.kind) (.int .i64 v.n) (.slice ao v.l.length cap)
        have b8 := evt_put bb1 (.int .i64 cd) (.int .i64 fu) (.int .i64 v.kind) (.int .i64 v.n) (.slice ao v.l.length cap)
        have H8 := hid (And.intro k8 b8)
        clear bt k7 b7 bb1 bb2 k8 b8
        go_wp2_with fail
        obtain ⟨k8, b8⟩ := H8.out
        generalize (((((W7.setCell ⟨w.heap.size + 1, 0, none⟩ (.int .i64 cd)).setCell ⟨w.heap.size + 1, 1, none⟩ (.int .i64 fu)).setCell ⟨w.heap.size + 1, 2, none⟩ (.int .i64 v.kind)).setCell ⟨w.heap.size + 1, 3, none⟩ (.int .i64 v.n)).setCell ⟨w.heap.size + 1, 4, none⟩ (.slice ao v.l.length cap)) = W8 at *
        obtain ⟨k7, b7, bb1, bb2⟩ := H7.out
        have c2 := (k8.block _ (lt_of_block bb2) (by omega)).trans bb2
        have k9 := (kp_set W8 (w.heap.size + 1 + 1) 0 (.int .i64 0)).trans (kp_set _ (w.heap.size + 1 + 1) 1 (.int .i64 0))
        have b9 := two_put c2 (.int .i64 0) (.int .i64 0)
        generalize (W8.setCell ⟨w.heap.size + 1 + 1, 0, none⟩ (.int .i64 0)).setCell ⟨w.heap.size + 1 + 1, 1, none⟩ (.int .i64 0) = W9 at *
        have b8' := (k9.block _ (lt_of_block b8) (by omega)).trans b8
        have b7' := (k9.block _ (Nat.lt_of_lt_of_le (lt_of_block b7) k8.size) (by omega)).trans ((k8.block _ (lt_of_block b7) (by omega)).trans b7)
        obtain ⟨⟨z0, z1, z2, z3, z4⟩, _⟩ := evt_cells b8'
        obtain ⟨z5, z6⟩ := ytwo b9
        refine bodyPost_ret (v := .tuple #[.agg #[.int .i64 cd, .int .i64 fu, .int .i64 v.kind, .int .i64 v.n, .slice ao v.l.length cap], .agg #[.int .i64 0, .int .i64 0]]) (by simp [results, Tryz.results13, go_sem, z0, z1, z2, z3, z4, z5, z6]) rfl ⟨c, ?_, ?_⟩
        · first
            | exact HCC.out
            | exact fun a b => by
                obtain ⟨f, h1, h2⟩ := HCC.out a b
                exact ⟨f.2, by rw [← h2]; exact h1⟩
        · rw [HR.out]
          exact H6.out.done HS.out rfl HHD.out (((k7.mono fun i _ e => .inl e).trans (k8.mono fun i _ e => .inr (.inl e))).trans (k9.mono fun i _ e => .inr (.inr e))) b7'
end Go.Proofs.YtkpckmcaeljocaaGreat
