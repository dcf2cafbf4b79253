/- The contracts of the program's own house. -/
import Derived.Test.YtgojcohcimmfjaaGreatUV7
import Derived.Test.YtgojcohcimmfjaaGreatUHProgD
import Derived.Test.YtgojcohcimmfjaaGreatUHProgF
namespace Go.Proofs.YtgojcohcimmfjaaGreat
open Go.ChangeShapes Go.WideShapes Go.ChangeAt Go.RowKit
open Gr (Nd Res nd0 thereB openB deriveOf addOf gateOf cutOf cellB cellOf funcB funcOf rightsN wayOf gatesOf gatesW targetOf Wf NdOk GS IntsAt)
set_option maxRecDepth 8000 in
set_option maxHeartbeats 1000000 in
theorem hnew_c : HNewC := by
  intro X B w hX hB
  go_enter Tryz.func9, Tryz.ntmps9
  go_wp2_with (go_at_call 26; refine (new_c w.heap.size w (Nat.le_refl _)).mono ?_; rintro e w1 ⟨bb, g, wd, vn, vo, vl, rfl, h1, hb1, q1⟩; have H1 := hid (And.intro h1 q1); clear h1)
  go_ret
  obtain ⟨h1, q2⟩ := H1.out
  obtain ⟨a, b, c, d, hb⟩ := h1
  have hlow : BoxIs B w1 bb g wd vn vo vl [none, none, none, none] s0 := ⟨a, b, c, d, box_mono hb hB⟩
  refine ⟨_, _, rfl, rfl, house_new hlow (fun k hk => ⟨Nat.lt_of_lt_of_le (hX k hk) q2.size, fun e => by have := (hb.own k e).1; have := hX k hk; omega⟩) (Nat.le_trans hB q2.size), fun k e => ?_, q2.trans (Kp.alloc _ _)⟩
  rcases e with e | e | ⟨p, _, e⟩
  · exact (hb.own k e).1
  · simp only at e; have := q2.size; omega
  · simp [Value.ownBlock] at e
section
variable {M : Hx} {q : Hq} {h : Hs} {w : World} {X : Nat → Prop}
theorem HG.event {q0 : Hq} {x : Sx} {W w3 : World} {R : Evt × Hs} {e : Ending} (H : HG X M q0 q h x w W) (hr : HDoQ (XG w X) M q R W e w3) :
    ∃ ao cap, e = .returned (.agg #[.int .i64 R.1.code, .int .i64 R.1.fuel, .int .i64 R.1.v.kind, .int .i64 R.1.v.n, .slice ao R.1.v.l.length cap]) ∧ w3.heap[w.heap.size + 1]? = some (.cells #[.int .i64 0, .int .i64 0, .int .i64 0, .int .i64 0, .slice none 0 0] 33 (0, 0)) ∧
    ∀ w5, Kp (fun k => k = w.heap.size + 1) w3 w5 → HDoQ X M q0 R w e w5 := by
  obtain ⟨q3, ao, cap, he, h3, g3, s3⟩ := hr
  have b1 := (g3.block H.b1 (H.s.xo _ (.inr (.inl rfl))).2).1
  refine ⟨ao, cap, he, b1, fun w5 k5 => ?_⟩
  have h5 := h3.turn k5 (fun i e => .inr (.inl e)) (fun i cs t hi ht e => by
    rw [e, b1] at hi
    simp at hi
    rcases ht with ht | ht <;> rw [ht] at hi <;> exact absurd hi.2 (by decide))
  refine ⟨q3, ao, cap, he, h5.step (Kp.refl _ _) (fun i _ e => .inr (.inr e)) (fun i e => (h5.xo i (.inr (.inr e))).1), (H.g.trans g3).fresh (k5.mono fun i _ e => by omega), s3.step (k5.mono fun i _ e => .inr (.inr (.inl e))) fun k _ e => ?_⟩
  rcases e with e | e
  · exact .inl e
  · exact .inr (.inr (.inr e))
set_option maxRecDepth 8000 in
set_option maxHeartbeats 2000000 in
theorem hdo_call (H : HouseS X M q h w) (x : Sx) (hx : x.Fit) (hes : h.s.es.length ≤ 900000) (c : Int) (hk : x.kind = 4) : Calls Tryz.prog 11 #[.pointer (some ⟨M.hb, 0, none⟩), .agg x.vals] w fun e w' => HDoQ X M q (callH h (x.sp c)) w e w' := by
  have H2 := HG.start H x
  have HS := hid H2
  have HC := hid (hcall_any H2.s x hx hes c)
  generalize callH h (x.sp c) = R at *
  obtain ⟨⟨code, fuel, v⟩, h'⟩ := R
  clear H H2 hx hes
  obtain ⟨kind, p, qq, k, hh, r, g, n, fs, fa, fc⟩ := x
  simp only [Sx.vals] at *
  subst hk
  go_enter Tryz.func11, Tryz.ntmps11
  go_wp2_with (go_at_call 29; refine HC.out.mono ?_; rintro e w3 hq3; obtain ⟨ao, cap, he, b3, hd⟩ := HS.out.event hq3; subst he; obtain ⟨⟨y0, y1, y2, y3, y4⟩, x0, x1, x2, x3, x4⟩ := evt_cells b3; have hl3 := lt_of_block b3; have HB3 := hid b3; have HD := hid hd; clear hq3 b3 hd)
  have hb5 := evt_put HB3.out (.int .i64 code) (.int .i64 fuel) (.int .i64 v.kind) (.int .i64 v.n) (.slice ao v.l.length cap)
  have k5 := evt_set w3 (w.heap.size + 1) (.int .i64 code) (.int .i64 fuel) (.int .i64 v.kind) (.int .i64 v.n) (.slice ao v.l.length cap)
  generalize ((((w3.setCell ⟨w.heap.size + 1, 0, none⟩ (.int .i64 code)).setCell ⟨w.heap.size + 1, 1, none⟩ (.int .i64 fuel)).setCell ⟨w.heap.size + 1, 2, none⟩ (.int .i64 v.kind)).setCell ⟨w.heap.size + 1, 3, none⟩ (.int .i64 v.n)).setCell ⟨w.heap.size + 1, 4, none⟩ (.slice ao v.l.length cap) = W5 at *
  obtain ⟨⟨u0, u1, u2, u3, u4⟩, _⟩ := evt_cells hb5
  refine bodyPost_ret (v := .agg #[(.int .i64 code), (.int .i64 fuel), (.int .i64 v.kind), (.int .i64 v.n), (.slice ao v.l.length cap)]) (by simp [results, Tryz.results11, go_sem, u0, u1, u2, u3, u4]) rfl ?_
  exact HD.out _ k5
theorem hgive_any (H : HouseS X M q h w) (x : Sx) (hf : FewH h) : Calls Tryz.prog 28 #[.pointer (some ⟨M.hb, 0, none⟩), .agg x.vals] w fun e w' => HDoQ X M q (giveX h x) w e w' := by
  cases hp : plugB x.p with
  | false => exact hgive_far H x hp
  | true =>
    by_cases hc : (capR h x).code = 0
    · exact hgive_ok H x hp hc hf
    · exact hgive_bad H x hp hc
set_option maxRecDepth 8000 in
set_option maxHeartbeats 2000000 in
theorem hdo_grant (H : HouseS X M q h w) (x : Sx) (hf : FewH h) (hk : x.kind = 2) : Calls Tryz.prog 11 #[.pointer (some ⟨M.hb, 0, none⟩), .agg x.vals] w fun e w' => HDoQ X M q (giveX h x) w e w' := by
  have H2 := HG.start H x
  have HS := hid H2
  have HC := hid (hgive_any H2.s x hf)
  generalize giveX h x = R at *
  obtain ⟨⟨code, fuel, v⟩, h'⟩ := R
  clear H H2 hf
  obtain ⟨kind, p, qq, k, hh, r, g, n, fs, fa, fc⟩ := x
  simp only [Sx.vals] at *
  subst hk
  go_enter Tryz.func11, Tryz.ntmps11
  go_wp2_with (go_at_call 28; refine HC.out.mono ?_; rintro e w3 hq3; obtain ⟨ao, cap, he, b3, hd⟩ := HS.out.event hq3; subst he; obtain ⟨⟨y0, y1, y2, y3, y4⟩, x0, x1, x2, x3, x4⟩ := evt_cells b3; have hl3 := lt_of_block b3; have HB3 := hid b3; have HD := hid hd; clear hq3 b3 hd)
  have hb5 := evt_put HB3.out (.int .i64 code) (.int .i64 fuel) (.int .i64 v.kind) (.int .i64 v.n) (.slice ao v.l.length cap)
  have k5 := evt_set w3 (w.heap.size + 1) (.int .i64 code) (.int .i64 fuel) (.int .i64 v.kind) (.int .i64 v.n) (.slice ao v.l.length cap)
  generalize ((((w3.setCell ⟨w.heap.size + 1, 0, none⟩ (.int .i64 code)).setCell ⟨w.heap.size + 1, 1, none⟩ (.int .i64 fuel)).setCell ⟨w.heap.size + 1, 2, none⟩ (.int .i64 v.kind)).setCell ⟨w.heap.size + 1, 3, none⟩ (.int .i64 v.n)).setCell ⟨w.heap.size + 1, 4, none⟩ (.slice ao v.l.length cap) = W5 at *
  obtain ⟨⟨u0, u1, u2, u3, u4⟩, _⟩ := evt_cells hb5
  refine bodyPost_ret (v := .agg #[(.int .i64 code), (.int .i64 fuel), (.int .i64 v.kind), (.int .i64 v.n), (.slice ao v.l.length cap)]) (by simp [results, Tryz.results11, go_sem, u0, u1, u2, u3, u4]) rfl ?_
  exact HD.out _ k5
set_option maxRecDepth 8000 in
set_option maxHeartbeats 2000000 in
theorem hdo_link (H : HouseS X M q h w) (x : Sx) (hf : FewH h) (hk : x.kind = 3) : Calls Tryz.prog 11 #[.pointer (some ⟨M.hb, 0, none⟩), .agg x.vals] w fun e w' => HDoQ X M q (giveX h x) w e w' := by
  have H2 := HG.start H x
  have HS := hid H2
  have HC := hid (hgive_any H2.s x hf)
  generalize giveX h x = R at *
  obtain ⟨⟨code, fuel, v⟩, h'⟩ := R
  clear H H2 hf
  obtain ⟨kind, p, qq, k, hh, r, g, n, fs, fa, fc⟩ := x
  simp only [Sx.vals] at *
  subst hk
  go_enter Tryz.func11, Tryz.ntmps11
  go_wp2_with (go_at_call 28; refine HC.out.mono ?_; rintro e w3 hq3; obtain ⟨ao, cap, he, b3, hd⟩ := HS.out.event hq3; subst he; obtain ⟨⟨y0, y1, y2, y3, y4⟩, x0, x1, x2, x3, x4⟩ := evt_cells b3; have hl3 := lt_of_block b3; have HB3 := hid b3; have HD := hid hd; clear hq3 b3 hd)
  have hb5 := evt_put HB3.out (.int .i64 code) (.int .i64 fuel) (.int .i64 v.kind) (.int .i64 v.n) (.slice ao v.l.length cap)
  have k5 := evt_set w3 (w.heap.size + 1) (.int .i64 code) (.int .i64 fuel) (.int .i64 v.kind) (.int .i64 v.n) (.slice ao v.l.length cap)
  generalize ((((w3.setCell ⟨w.heap.size + 1, 0, none⟩ (.int .i64 code)).setCell ⟨w.heap.size + 1, 1, none⟩ (.int .i64 fuel)).setCell ⟨w.heap.size + 1, 2, none⟩ (.int .i64 v.kind)).setCell ⟨w.heap.size + 1, 3, none⟩ (.int .i64 v.n)).setCell ⟨w.heap.size + 1, 4, none⟩ (.slice ao v.l.length cap) = W5 at *
  obtain ⟨⟨u0, u1, u2, u3, u4⟩, _⟩ := evt_cells hb5
  refine bodyPost_ret (v := .agg #[(.int .i64 code), (.int .i64 fuel), (.int .i64 v.kind), (.int .i64 v.n), (.slice ao v.l.length cap)]) (by simp [results, Tryz.results11, go_sem, u0, u1, u2, u3, u4]) rfl ?_
  exact HD.out _ k5
set_option maxRecDepth 8000 in
set_option maxHeartbeats 2000000 in
theorem hdo_none (H : HouseS X M q h w) (x : Sx) (h1 : x.kind ≠ 1) (h2 : x.kind ≠ 2) (h3 : x.kind ≠ 3) (h4 : x.kind ≠ 4) (h5 : x.kind ≠ 5) (h6 : x.kind ≠ 6) : Calls Tryz.prog 11 #[.pointer (some ⟨M.hb, 0, none⟩), .agg x.vals] w fun e w' => HDoQ X M q (⟨2, 0, v0⟩, h) w e w' := by
  have HH := hid H
  clear H
  obtain ⟨kind, p, qq, k, hh, r, g, n, fs, fa, fc⟩ := x
  simp only [Sx.vals] at *
  go_enter Tryz.func11, Tryz.ntmps11
  go_wp2
  refine bodyPost_ret (v := .agg #[.int .i64 2, .int .i64 0, .int .i64 0, .int .i64 0, .slice none 0 0]) (by simp [results, Tryz.results11, go_sem]) rfl ?_
  have q9 : Quiet w ((w.alloc (.cells #[.int .i64 kind, .int .i64 p, .int .i64 qq, .int .i64 k, .int .i64 hh, .int .i64 r, .int .i64 g, .int .i64 n, .slice fa fs.length fc] 39)).alloc (.cells #[.int .i64 2, .int .i64 0, .int .i64 0, .int .i64 0, .slice none 0 0] 33)) := (Kp.alloc _ _).trans (Kp.alloc _ _)
  exact ⟨q, none, 0, rfl, HH.out.quiet q9, GoesH.quiet M q q9, safe_leaf v0 v0_fits rfl none⟩
theorem load_evt (h : Hs) (x : Sp) : (loadH h x).1 = ⟨(loadH h x).1.code, 0, v0⟩ := by
  unfold loadH
  repeat' split
  all_goals rfl
theorem HG.loaded {q0 : Hq} {x : Sx} {W w3 : World} {P : Int × Int → Prop} {e : Ending} (H : HG X M q0 q h x w W) (hr : LoadQ (XG w X) P M q h x W e w3) :
    ∃ c, (plugB x.p = true → ∃ f, P f ∧ f.1 = c) ∧ e = .returned (.int .i64 (loadH h (x.sp c)).1.code) ∧ w3.heap[w.heap.size + 1]? = some (.cells #[.int .i64 0, .int .i64 0, .int .i64 0, .int .i64 0, .slice none 0 0] 33 (0, 0)) ∧
    ∀ w5, Kp (fun k => k = w.heap.size + 1) w3 w5 → HDoQ X M q0 (loadH h (x.sp c)) w (.returned (.agg #[.int .i64 (loadH h (x.sp c)).1.code, .int .i64 0, .int .i64 0, .int .i64 0, .slice none 0 0])) w5 := by
  obtain ⟨c, hc, he, h3, g3⟩ := hr
  have h4 : HDoQ (XG w X) M q (loadH h (x.sp c)) W (.returned (.agg #[.int .i64 (loadH h (x.sp c)).1.code, .int .i64 0, .int .i64 0, .int .i64 0, .slice none 0 0])) w3 := by
    refine ⟨q, none, 0, ?_, h3, g3, ?_⟩
    · rw [load_evt h (x.sp c)]; rfl
    · rw [load_evt h (x.sp c)]; exact safe_leaf v0 v0_fits rfl none
  obtain ⟨_, _, _, b3, hd⟩ := H.event h4
  exact ⟨c, hc, he, b3, hd⟩
set_option maxRecDepth 8000 in
set_option maxHeartbeats 2000000 in
theorem hdo_load (H : HouseS X M q h w) (x : Sx) (hx : x.Fit) {P : Int × Int → Prop} (hM : MakeAt P x w) (hk : x.kind = 1) : Calls Tryz.prog 11 #[.pointer (some ⟨M.hb, 0, none⟩), .agg x.vals] w fun e w' => ∃ c, (plugB x.p = true → ∃ f, P f ∧ f.1 = c) ∧ HDoQ X M q (loadH h (x.sp c)) w e w' := by
  have H2 := HG.start H x
  have HS := hid H2
  have hq2 : Quiet w ((w.alloc (.cells x.vals 39)).alloc (.cells #[.int .i64 0, .int .i64 0, .int .i64 0, .int .i64 0, .slice none 0 0] 33)) := (Kp.alloc _ _).trans (Kp.alloc _ _)
  have HC := hid (xload_any H2.s x hx (P := P) ⟨hM.1, fun w1 k1 => hM.2 w1 (hq2.trans k1)⟩)
  have HX := hid (fun (w3 : World) (e : Ending) (hr : LoadQ (XG w X) P M q h x _ e w3) => HS.out.loaded hr)
  clear H H2 hM hx hq2
  obtain ⟨kind, p, qq, k, hh, r, g, n, fs, fa, fc⟩ := x
  simp only [Sx.vals] at *
  subst hk
  go_enter Tryz.func11, Tryz.ntmps11
  go_wp2_with (go_at_call 27; refine HC.out.mono ?_; rintro e w3 hq3; obtain ⟨c, hc, he, b3, hd⟩ := HX.out _ _ hq3; subst he; obtain ⟨⟨y0, y1, y2, y3, y4⟩, x0, x1, x2, x3, x4⟩ := evt_cells b3; have hl3 := lt_of_block b3; have HB3 := hid b3; have HD := hid (And.intro hc hd); clear hq3 b3 hd hc; generalize hcd : (loadH h _).1.code = cd at *)
  have hb5 := evt_put HB3.out (.int .i64 cd) (.int .i64 0) (.int .i64 0) (.int .i64 0) (.slice none 0 0)
  have k5 := evt_set w3 (w.heap.size + 1) (.int .i64 cd) (.int .i64 0) (.int .i64 0) (.int .i64 0) (.slice none 0 0)
  generalize ((((w3.setCell ⟨w.heap.size + 1, 0, none⟩ (.int .i64 cd)).setCell ⟨w.heap.size + 1, 1, none⟩ (.int .i64 0)).setCell ⟨w.heap.size + 1, 2, none⟩ (.int .i64 0)).setCell ⟨w.heap.size + 1, 3, none⟩ (.int .i64 0)).setCell ⟨w.heap.size + 1, 4, none⟩ (.slice none 0 0) = W5 at *
  obtain ⟨⟨u0, u1, u2, u3, u4⟩, _⟩ := evt_cells hb5
  refine bodyPost_ret (v := .agg #[(.int .i64 cd), (.int .i64 0), (.int .i64 0), (.int .i64 0), (.slice none 0 0)]) (by simp [results, Tryz.results11, go_sem, u0, u1, u2, u3, u4]) rfl ?_
  exact ⟨c, HD.out.1, by have h9 := HD.out.2 _ k5; exact h9⟩
theorem HG.graph {q0 : Hq} {x : Sx} {W w3 : World} {vn' vo' : Value} {ns' : List Nd} {os' : List Bool} (H : HG X M q0 q h x w W) (go : Gr.Goes M.g q.n q.o W vn' vo' w3) (hg : GS 104 M.B w3 M.g vn' vo' ns' os') (ok : HOk { h with s := { h.s with ns := ns', os := os' } }) :
    HG X M q0 ⟨vn', vo', q.l, q.r⟩ { h with s := { h.s with ns := ns', os := os' } } x w w3 := by
  obtain ⟨h2, g2⟩ := H.s.graph go hg ok.inv.wf ok
  exact ⟨h2, H.g.trans g2, (g2.block H.b0 (H.s.xo _ (.inl rfl)).2).1, (g2.block H.b1 (H.s.xo _ (.inr (.inl rfl))).2).1⟩
theorem cut_ns (ns : List Nd) (os : List Bool) (k : Int) : (cutOf ns os k).ns = ns := by
  unfold cutOf
  split <;> rfl
theorem gateH_ns (ns : List Nd) (os : List Bool) : (gateOf ns os).ns = ns := by
  unfold gateOf
  split <;> rfl
/-- Where its graph goes on, and the event is written, all the rest lies as it lay. -/
theorem HG.still {q0 : Hq} {x : Sx} {W w' : World} (H : HG X M q0 q h x w W) (k : Kp (fun i => Gr.Own M.g q.n q.o i ∨ i = w.heap.size + 1) W w') :
    w'.cell? ⟨M.hb, 0, none⟩ = some (.pointer (some ⟨M.bb, 0, none⟩)) ∧ w'.cell? ⟨M.bb, 0, none⟩ = some (.pointer (some ⟨M.g, 0, none⟩)) ∧ w'.cell? ⟨w.heap.size, 6, none⟩ = some (.int .i64 x.g) := by
  obtain ⟨d0, d1, _⟩ := H.s.cells
  obtain ⟨_, _, _, _, _, _, c6, _⟩ := nine_at H.b0
  have ne : ∀ i, OwnH M q i → i ≠ w.heap.size + 1 := fun i hi e => (H.s.xo (w.heap.size + 1) (.inr (.inl rfl))).2 (e ▸ hi)
  have hg : ∀ k, Gr.Own M.g q.n q.o k → OwnB M.bb M.g M.wd q.n q.o q.l k := fun k e => .inr (.inl e)
  have n1 : ¬ (Gr.Own M.g q.n q.o M.hb ∨ M.hb = w.heap.size + 1) := fun e => by
    rcases e with e | e
    · exact H.s.bfree.1 (hg _ e)
    · exact ne _ (.inr (.inl rfl)) e
  have n2 : ¬ (Gr.Own M.g q.n q.o M.bb ∨ M.bb = w.heap.size + 1) := fun e => by
    rcases e with e | e
    · obtain ⟨a, b, c, d, hb⟩ := H.s.box.is
      exact H.s.gs.free_type hb.obj (by decide) (by decide) (by decide) e
    · exact ne _ (.inl (.inl rfl)) e
  have n3 : ¬ (Gr.Own M.g q.n q.o w.heap.size ∨ w.heap.size = w.heap.size + 1) := fun e => by
    rcases e with e | e
    · exact (H.s.xo w.heap.size (.inl rfl)).2 (.inl (hg _ e))
    · omega
  exact ⟨k.cell d0 n1, k.cell d1 n2, k.cell c6 n3⟩
set_option maxRecDepth 8000 in
set_option maxHeartbeats 4000000 in
theorem hdo_cut (H : HouseS X M q h w) (x : Sx) (hk : x.kind = 5) : Calls Tryz.prog 11 #[.pointer (some ⟨M.hb, 0, none⟩), .agg x.vals] w fun e w' => HDoQ X M q (⟨(cutOf h.s.ns h.s.os x.g).code, 0, v0⟩, { h with s := { h.s with os := (cutOf h.s.ns h.s.os x.g).os } }) w e w' := by
  have H2 := HG.start H x
  have HS := hid H2
  obtain ⟨W, hW⟩ : ∃ W, W = ((w.alloc (.cells x.vals 39)).alloc (.cells #[.int .i64 0, .int .i64 0, .int .i64 0, .int .i64 0, .slice none 0 0] 33)) := ⟨_, rfl⟩
  have H3 : HG X M q q h x w W := by rw [hW]; exact H2
  have HG3 := hid (Gr.cut_any (H3.quiet (Kp.drew _)).s.gs x.g)
  have ok : HOk { h with s := { h.s with os := (cutOf h.s.ns h.s.os x.g).os } } := by
    have h1 := H.ok.step ⟨5, 0, 0, 0, 0, 0, x.g, 0, 0, []⟩
    exact h1
  rw [cut_ns] at HG3
  have HX := hid (fun (w3 : World) (hg : GS 104 M.B w3 M.g q.n q.o h.s.ns (cutOf h.s.ns h.s.os x.g).os) (go : Gr.Goes M.g q.n q.o W.drew q.n q.o w3) => (H3.quiet (Kp.drew _)).graph go hg ok)
  have sAll := hid (fun (w' : World) (z : Kp (fun i => Gr.Own M.g q.n q.o i ∨ i = w.heap.size + 1) W w') => H3.still z)
  clear H H2 HS H3 ok
  generalize cutOf h.s.ns h.s.os x.g = R at *
  obtain ⟨kind, p, qq, k, hh, r, g, n, fs, fa, fc⟩ := x
  simp only [Sx.vals] at *
  subst hk
  go_enter Tryz.func11, Tryz.ntmps11
  go_wp2_with fail
  rw [← hW]
  clear hW
  have z0 : Kp (fun i => Gr.Own M.g q.n q.o i ∨ i = w.heap.size + 1) W W.drew := Kp.drew _
  go_region_held3 (fun w' => w'.cell? ⟨M.hb, 0, none⟩ = some (.pointer (some ⟨M.bb, 0, none⟩)) ∧ w'.cell? ⟨M.bb, 0, none⟩ = some (.pointer (some ⟨M.g, 0, none⟩)) ∧ w'.cell? ⟨w.heap.size, 6, none⟩ = some (.int .i64 g)) ((refine sAll.out _ ?_; first | assumption | exact z3.trans ((evt_set _ _ _ _ _ _ _).mono fun i _ e => .inr e))) (first | (go_at_call 30; refine HG3.out.mono ?_; rintro e w3 ⟨rfl, g3, o3⟩; have z3 := z0.trans (o3.kp.mono fun i _ e => Or.inl e); have b3 := (HX.out _ g3 o3).b1; obtain ⟨⟨y0, y1, y2, y3, y4⟩, x0, x1, x2, x3, x4⟩ := evt_cells b3; have hl3 := lt_of_block b3; have HB3 := hid b3; have H3 := hid (HX.out _ g3 o3); clear g3 o3 b3 z0))
  go_wp2
  have hb5 := evt_put HB3.out (.int .i64 R.code) (.int .i64 0) (.int .i64 0) (.int .i64 0) (.slice none 0 0)
  have k5 := evt_set w3 (w.heap.size + 1) (.int .i64 R.code) (.int .i64 0) (.int .i64 0) (.int .i64 0) (.slice none 0 0)
  generalize ((((w3.setCell ⟨w.heap.size + 1, 0, none⟩ (.int .i64 R.code)).setCell ⟨w.heap.size + 1, 1, none⟩ (.int .i64 0)).setCell ⟨w.heap.size + 1, 2, none⟩ (.int .i64 0)).setCell ⟨w.heap.size + 1, 3, none⟩ (.int .i64 0)).setCell ⟨w.heap.size + 1, 4, none⟩ (.slice none 0 0) = W5 at *
  obtain ⟨⟨u0, u1, u2, u3, u4⟩, _⟩ := evt_cells hb5
  refine bodyPost_ret (v := .agg #[(.int .i64 R.code), (.int .i64 0), (.int .i64 0), (.int .i64 0), (.slice none 0 0)]) (by simp [results, Tryz.results11, go_sem, u0, u1, u2, u3, u4]) rfl ?_
  exact HG.done (R := (⟨R.code, 0, v0⟩, _)) H3.out k5 (safe_leaf v0 v0_fits rfl none)
set_option maxRecDepth 8000 in
set_option maxHeartbeats 4000000 in
theorem hdo_gate (H : HouseS X M q h w) (x : Sx) (hk : x.kind = 6) (hc : (gateOf h.s.ns h.s.os).code = 0) : Calls Tryz.prog 11 #[.pointer (some ⟨M.hb, 0, none⟩), .agg x.vals] w fun e w' => HDoQ X M q (⟨(gateOf h.s.ns h.s.os).code, 0, intV (gateOf h.s.ns h.s.os).num⟩, { h with s := { h.s with os := (gateOf h.s.ns h.s.os).os } }) w e w' := by
  have H2 := HG.start H x
  have HS := hid H2
  obtain ⟨d0, d1, _⟩ := H2.s.cells
  have HG3 := hid (Gr.gate_any H2.s.gs)
  have ok : HOk { h with s := { h.s with os := (gateOf h.s.ns h.s.os).os } } := by
    have h1 := H.ok.step ⟨6, 0, 0, 0, 0, 0, 0, 0, 0, []⟩
    exact h1
  have hnum : In64 (gateOf h.s.ns h.s.os).num := by
    have := H.ok.inv.lg
    unfold gateOf
    split
    · exact ⟨by simp only; omega, by simp only; omega⟩
    · exact ⟨by simp only; omega, by simp only; omega⟩
  rw [gateH_ns] at HG3
  have HX := hid (fun (w3 : World) (vo' : Value) (hg : GS 104 M.B w3 M.g q.n vo' h.s.ns (gateOf h.s.ns h.s.os).os) (go : Gr.Goes M.g q.n q.o _ q.n vo' w3) => HS.out.graph go hg ok)
  clear H H2 ok
  generalize gateOf h.s.ns h.s.os = R at *
  obtain ⟨kind, p, qq, k, hh, r, g, n, fs, fa, fc⟩ := x
  simp only [Sx.vals] at *
  subst hk
  go_enter Tryz.func11, Tryz.ntmps11
  go_wp2_with (first
    | (go_at_call 32; refine (made_yes 1 R.num _).mono ?_; rintro e w4 ⟨rfl, q4⟩; have H4 := hid (H3.out.quiet q4); have b3 := H4.out.b1; obtain ⟨⟨y0, y1, y2, y3, y4⟩, x0, x1, x2, x3, x4⟩ := evt_cells b3; have hl3 := lt_of_block b3; have HB3 := hid b3; clear b3 q4)
    | (go_at_call 31; refine HG3.out.mono ?_; rintro e w3 ⟨rfl, vo', g3, o3⟩; rw [hc]; have H3 := hid (HX.out _ _ g3 o3); clear g3 o3))
  have hb5 := evt_put HB3.out (.int .i64 0) (.int .i64 0) (.int .i64 1) (.int .i64 R.num) (.slice none 0 0)
  have k5 := evt_set w4 (w.heap.size + 1) (.int .i64 0) (.int .i64 0) (.int .i64 1) (.int .i64 R.num) (.slice none 0 0)
  generalize ((((w4.setCell ⟨w.heap.size + 1, 0, none⟩ (.int .i64 0)).setCell ⟨w.heap.size + 1, 1, none⟩ (.int .i64 0)).setCell ⟨w.heap.size + 1, 2, none⟩ (.int .i64 1)).setCell ⟨w.heap.size + 1, 3, none⟩ (.int .i64 R.num)).setCell ⟨w.heap.size + 1, 4, none⟩ (.slice none 0 0) = W5 at *
  obtain ⟨⟨u0, u1, u2, u3, u4⟩, _⟩ := evt_cells hb5
  refine bodyPost_ret (v := .agg #[(.int .i64 0), (.int .i64 0), (.int .i64 1), (.int .i64 R.num), (.slice none 0 0)]) (by simp [results, Tryz.results11, go_sem, u0, u1, u2, u3, u4]) rfl ?_
  rw [hc]
  exact HG.done (R := (⟨0, 0, intV R.num⟩, _)) H4.out k5 (safe_leaf _ ⟨small_in 1 (by decide), hnum⟩ rfl none)
set_option maxRecDepth 8000 in
set_option maxHeartbeats 4000000 in
theorem hdo_full (H : HouseS X M q h w) (x : Sx) (hk : x.kind = 6) (hc : (gateOf h.s.ns h.s.os).code ≠ 0) : Calls Tryz.prog 11 #[.pointer (some ⟨M.hb, 0, none⟩), .agg x.vals] w fun e w' => HDoQ X M q (⟨(gateOf h.s.ns h.s.os).code, 0, v0⟩, { h with s := { h.s with os := (gateOf h.s.ns h.s.os).os } }) w e w' := by
  have H2 := HG.start H x
  have HS := hid H2
  obtain ⟨d0, d1, _⟩ := H2.s.cells
  have HG3 := hid (Gr.gate_any H2.s.gs)
  have ok : HOk { h with s := { h.s with os := (gateOf h.s.ns h.s.os).os } } := by
    have h1 := H.ok.step ⟨6, 0, 0, 0, 0, 0, 0, 0, 0, []⟩
    exact h1
  rw [gateH_ns] at HG3
  have HX := hid (fun (w3 : World) (vo' : Value) (hg : GS 104 M.B w3 M.g q.n vo' h.s.ns (gateOf h.s.ns h.s.os).os) (go : Gr.Goes M.g q.n q.o _ q.n vo' w3) => HS.out.graph go hg ok)
  clear H H2 ok
  generalize gateOf h.s.ns h.s.os = R at *
  obtain ⟨kind, p, qq, k, hh, r, g, n, fs, fa, fc⟩ := x
  simp only [Sx.vals] at *
  subst hk
  go_enter Tryz.func11, Tryz.ntmps11
  go_wp2_with (first
    | (go_at_call 32; refine (made_no 1 R.num R.code hc _).mono ?_; rintro e w4 ⟨rfl, q4⟩; have H4 := hid (H3.out.quiet q4); have b3 := H4.out.b1; obtain ⟨⟨y0, y1, y2, y3, y4⟩, x0, x1, x2, x3, x4⟩ := evt_cells b3; have hl3 := lt_of_block b3; have HB3 := hid b3; clear b3 q4)
    | (go_at_call 31; refine HG3.out.mono ?_; rintro e w3 ⟨rfl, vo', g3, o3⟩; have H3 := hid (HX.out _ _ g3 o3); clear g3 o3))
  have hb5 := evt_put HB3.out (.int .i64 R.code) (.int .i64 0) (.int .i64 0) (.int .i64 0) (.slice none 0 0)
  have k5 := evt_set w4 (w.heap.size + 1) (.int .i64 R.code) (.int .i64 0) (.int .i64 0) (.int .i64 0) (.slice none 0 0)
  generalize ((((w4.setCell ⟨w.heap.size + 1, 0, none⟩ (.int .i64 R.code)).setCell ⟨w.heap.size + 1, 1, none⟩ (.int .i64 0)).setCell ⟨w.heap.size + 1, 2, none⟩ (.int .i64 0)).setCell ⟨w.heap.size + 1, 3, none⟩ (.int .i64 0)).setCell ⟨w.heap.size + 1, 4, none⟩ (.slice none 0 0) = W5 at *
  obtain ⟨⟨u0, u1, u2, u3, u4⟩, _⟩ := evt_cells hb5
  refine bodyPost_ret (v := .agg #[(.int .i64 R.code), (.int .i64 0), (.int .i64 0), (.int .i64 0), (.slice none 0 0)]) (by simp [results, Tryz.results11, go_sem, u0, u1, u2, u3, u4]) rfl ?_
  exact HG.done (R := (⟨R.code, 0, v0⟩, _)) H4.out k5 (safe_leaf _ v0_fits rfl none)
end
theorem hdo_c : HDoC := by
  intro X M q h w x P H hx hes hf hM
  have wrap : ∀ {R : Int → Evt × Hs}, (∀ c, stepH h (x.sp c) = R c) → x.kind ≠ 1 → (Calls Tryz.prog 11 #[.pointer (some ⟨M.hb, 0, none⟩), .agg x.vals] w fun e w' => HDoQ X M q (R 0) w e w') → Calls Tryz.prog 11 #[.pointer (some ⟨M.hb, 0, none⟩), .agg x.vals] w fun e w' => ∃ c, (x.kind = 1 → plugB x.p = true → ∃ f, P f ∧ f.1 = c) ∧ HDoQ X M q (stepH h (x.sp c)) w e w' := fun hR hk hC => hC.mono fun e w' hq => ⟨0, fun e1 => absurd e1 hk, by rw [hR]; exact hq⟩
  have hs : ∀ c, stepH h (x.sp c) = if x.kind = 1 then loadH h (x.sp c)
      else if x.kind = 2 then (if plugB x.p then giveH h x.p (cellOf h.s.ns h.s.os x.k x.r x.g) else (⟨1, 0, v0⟩, h))
      else if x.kind = 3 then (if plugB x.p then giveH h x.p (funcOf h.s.ns h.s.os x.q x.k x.r x.g) else (⟨1, 0, v0⟩, h))
      else if x.kind = 4 then callH h (x.sp c)
      else if x.kind = 5 then (⟨(cutOf h.s.ns h.s.os x.g).code, 0, v0⟩, { h with s := { h.s with os := (cutOf h.s.ns h.s.os x.g).os } })
      else if x.kind = 6 then (⟨(gateOf h.s.ns h.s.os).code, 0, if (gateOf h.s.ns h.s.os).code = 0 then intV (gateOf h.s.ns h.s.os).num else v0⟩, { h with s := { h.s with os := (gateOf h.s.ns h.s.os).os } })
      else (⟨2, 0, v0⟩, h) := fun _ => rfl
  by_cases k1 : x.kind = 1
  · refine (hdo_load H x hx hM k1).mono fun e w' hq => ?_
    obtain ⟨c, hc, hq⟩ := hq
    exact ⟨c, fun _ => hc, by rw [hs, if_pos k1]; exact hq⟩
  by_cases k2 : x.kind = 2
  · refine wrap (R := fun _ => giveX h x) (fun c => ?_) k1 (hdo_grant H x hf k2)
    rw [hs, if_neg k1, if_pos k2]
    unfold giveX capR
    rw [if_neg (by omega : ¬ x.kind = 3)]
  by_cases k3 : x.kind = 3
  · refine wrap (R := fun _ => giveX h x) (fun c => ?_) k1 (hdo_link H x hf k3)
    rw [hs, if_neg k1, if_neg k2, if_pos k3]
    unfold giveX capR
    rw [if_pos k3]
  by_cases k4 : x.kind = 4
  · exact wrap (R := fun c => callH h (x.sp c)) (fun c => by rw [hs, if_neg k1, if_neg k2, if_neg k3, if_pos k4]) k1 (hdo_call H x hx hes 0 k4)
  by_cases k5 : x.kind = 5
  · exact wrap (R := fun _ => (⟨(cutOf h.s.ns h.s.os x.g).code, 0, v0⟩, { h with s := { h.s with os := (cutOf h.s.ns h.s.os x.g).os } })) (fun c => by rw [hs, if_neg k1, if_neg k2, if_neg k3, if_neg k4, if_pos k5]) k1 (hdo_cut H x k5)
  by_cases k6 : x.kind = 6
  · by_cases hc : (gateOf h.s.ns h.s.os).code = 0
    · exact wrap (R := fun _ => (⟨(gateOf h.s.ns h.s.os).code, 0, intV (gateOf h.s.ns h.s.os).num⟩, { h with s := { h.s with os := (gateOf h.s.ns h.s.os).os } })) (fun c => by rw [hs, if_neg k1, if_neg k2, if_neg k3, if_neg k4, if_neg k5, if_pos k6, if_pos hc]) k1 (hdo_gate H x k6 hc)
    · exact wrap (R := fun _ => (⟨(gateOf h.s.ns h.s.os).code, 0, v0⟩, { h with s := { h.s with os := (gateOf h.s.ns h.s.os).os } })) (fun c => by rw [hs, if_neg k1, if_neg k2, if_neg k3, if_neg k4, if_neg k5, if_pos k6, if_neg hc]) k1 (hdo_full H x k6 hc)
  · exact wrap (R := fun _ => (⟨2, 0, v0⟩, h)) (fun c => by rw [hs, if_neg k1, if_neg k2, if_neg k3, if_neg k4, if_neg k5, if_neg k6]) k1 (hdo_none H x k1 k2 k3 k4 k5 k6)
end Go.Proofs.YtgojcohcimmfjaaGreat
