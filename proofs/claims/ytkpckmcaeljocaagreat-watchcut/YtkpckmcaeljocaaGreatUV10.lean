/- Parts. -/
import Derived.Test.YtkpckmcaeljocaaGreatUYGiven
import Derived.Test.YtkpckmcaeljocaaGreatUM5
namespace Go.Proofs.YtkpckmcaeljocaaGreat
open Go.ChangeShapes Go.WideShapes Go.ChangeAt Go.RowKit
open Gr (Nd Res nd0 thereB openB deriveOf addOf gateOf cutOf cellB cellOf funcB funcOf rightsN wayOf gatesOf gatesW targetOf Wf NdOk GS IntsAt)
theorem rbit_is {bit : Nat} (h : bit ≤ 1) : RBit bit (rbit bit) := by
  obtain rfl | rfl : bit = 0 ∨ bit = 1 := by omega
  · exact .inl ⟨rfl, rfl⟩
  · exact .inr (.inl ⟨rfl, rfl⟩)
def MayE (tr : List (Sp × Int)) (e : Wo.Ent) : Prop := plugB e.plugin = true ∧ ∃ bit : Nat, bit ≤ 1 ∧ e.right = rbit bit ∧ mayB tr e.plugin e.cell bit = true
theorem ri_ok {tr : List (Sp × Int)} (ht : TrOk tr) (hr : ∀ y ∈ tr, y.1.kind = 2 → y.2 = 0 → 0 ≤ y.1.r ∧ y.1.r ≤ 15) : RiOk (fun p => giftsOf tr p) := by
  intro p _ n hn hp
  obtain ⟨y, h1, h2, h3, _, rfl⟩ := gifts_mem.1 hn
  have k : y.1.kind = 2 := by
    rcases h3 with k | k
    · exact k
    · exact absurd ((gift_plug ht h1 h2 (.inr k)).1.2 k) (by omega)
  have := hr y h1 k h2
  unfold giftOf
  rw [if_pos k]
  exact this
theorem ygmayB_any {B : Nat} {a : Nat → Option Addr × Nat} {tr : List (Sp × Int)} {w : World} (H : GfS B a (fun p => giftsOf tr p) w) (ht : TrOk tr) (hr : ∀ y ∈ tr, y.1.kind = 2 → y.2 = 0 → 0 ≤ y.1.r ∧ y.1.r ≤ 15) (p cell : Int) (bit : Nat) (hp : plugB p = true) (hb : bit ≤ 1) : Calls Tryz.prog 29 #[.agg (gfC a (fun p => giftsOf tr p)), .int .i64 p, .int .i64 cell, .int .i64 (rbit bit)] w fun e w' => e = .returned (.bool (mayB tr p cell bit)) ∧ Quiet w w' := by
  have hpp : 0 ≤ p ∧ p < 4 := by simpa [plugB] using hp
  obtain ⟨j, rfl⟩ : ∃ j : Nat, p = j := ⟨p.toNat, by omega⟩
  refine (ygmay_any H (rbit_is hb) (ri_ok ht hr) j (by omega)).mono ?_
  rintro e w' ⟨c, hc, rfl, q⟩
  exact ⟨by rw [mayG_mayB ht (by omega) hc], q⟩
def EntsAt (w : World) (es : List Wo.Ent) (ao : Option Addr) : Prop := ∀ k (h : k < es.length), ∃ g off, ao = some ⟨g, off, none⟩ ∧ w.cell? ⟨g, off + k * 4, none⟩ = some (.int .i64 es[k].plugin) ∧ w.cell? ⟨g, off + k * 4 + 1, none⟩ = some (.int .i64 es[k].cell) ∧ w.cell? ⟨g, off + k * 4 + 2, none⟩ = some (.int .i64 es[k].right) ∧ w.cell? ⟨g, off + k * 4 + 3, none⟩ = some (.int .i64 es[k].node)
theorem EntsAt.quiet {w w' : World} {es : List Wo.Ent} {ao : Option Addr} (h : EntsAt w es ao) (k : Quiet w w') : EntsAt w' es ao := fun i hi => by
  obtain ⟨g, off, e, c0, c1, c2, c3⟩ := h i hi
  exact ⟨g, off, e, k.cell c0 fun e => e, k.cell c1 fun e => e, k.cell c2 fun e => e, k.cell c3 fun e => e⟩
section
variable {B : Nat} {a : Nat → Option Addr × Nat} {tr : List (Sp × Int)} {w : World} {bg : Nat}
set_option maxRecDepth 8000 in
set_option maxHeartbeats 1000000 in
theorem ylookF_any (H : GfS B a (fun p => giftsOf tr p) w) (hb : w.heap[bg]? = some (.cells (gfC a (fun p => giftsOf tr p)) 89 (0, 0))) (ht : TrOk tr) (hr : ∀ y ∈ tr, y.1.kind = 2 → y.2 = 0 → 0 ≤ y.1.r ∧ y.1.r ≤ 15) (e : Wo.Ent) (he : MayE tr e) : Calls Tryz.prog 52 #[.agg #[.int .i64 e.plugin, .int .i64 e.cell, .int .i64 e.right, .int .i64 e.node], .pointer (some ⟨bg, 0, none⟩)] w fun r w' => r = .returned (.bool false) ∧ Quiet w w' := by
  obtain ⟨hp, bit, hbit, hri, hm⟩ := he
  obtain ⟨ep, ec, er, en⟩ := e
  simp only at hp hri hm ⊢
  subst hri
  have q1 : Quiet w (w.alloc (.cells #[.int .i64 ep, .int .i64 ec, .int .i64 (rbit bit), .int .i64 en] 70)) := Kp.alloc _ _
  obtain ⟨m0, m1, m2, m3⟩ := gf_all ((q1.block _ (lt_of_block hb) fun e => e).trans hb)
  have HC := hid (ygmayB_any (H.quiet q1) ht hr ep ec bit hp hbit)
  rw [hm] at HC
  have HQ := hid q1
  clear H hb q1 hm hr
  unfold gfC at HC
  generalize rbit bit = rt at *
  go_enter Tryz.func52, Tryz.ntmps52
  go_wp2_with (go_at_call 29; refine HC.out.mono ?_; rintro e w2 ⟨rfl, q2⟩; have H2 := hid (HQ.out.trans q2); clear q2)
  go_ret
  exact ⟨rfl, H2.out⟩
set_option maxRecDepth 8000 in
set_option maxHeartbeats 1000000 in
theorem ifEnt_any (H : GfS B a (fun p => giftsOf tr p) w) (hb : w.heap[bg]? = some (.cells (gfC a (fun p => giftsOf tr p)) 89 (0, 0))) (ht : TrOk tr) (hr : ∀ y ∈ tr, y.1.kind = 2 → y.2 = 0 → 0 ≤ y.1.r ∧ y.1.r ≤ 15) (es : List Wo.Ent) (he : ∀ e ∈ es, MayE tr e) (ao : Option Addr) (cap : Nat) (ha : EntsAt w es ao) (hl : es.length ≤ 900000) :
    Calls Tryz.prog 75 #[.slice ao es.length cap, .func (.func 52) #[] #[.pointer (some ⟨bg, 0, none⟩)]] w fun e w' => e = .returned (.int .i64 (-1)) ∧ Quiet w w' := by
  have HH := hid (And.intro H (And.intro hb (And.intro ht (And.intro hr (And.intro he ha)))))
  clear H hb ht hr he ha
  go_enter Tryz.func75, Tryz.ntmps75
  go_wp2
  go_loopw [8] (fun i wr => ∃ k : Nat, i = .int .i64 k ∧ k ≤ es.length ∧ Hid (Quiet w wr)) (fun i _ => es.length - (intOf i).toNat)
  case atStart => exact ⟨0, rfl, Nat.zero_le _, hid (Kp.refl _ _)⟩
  case round =>
    rename World => wr
    obtain ⟨k, rfl, hk, D⟩ := hrel
    by_cases hlt : k < es.length
    · obtain ⟨H, hb, ht, hr, he, ha⟩ := HH.out
      obtain ⟨g, off, hao, c0, c1, c2, c3⟩ := (ha.quiet D.out) k hlt
      subst hao
      have HK := hid (ylookF_any (H.quiet D.out) ((D.out.block _ (lt_of_block hb) fun e => e).trans hb) ht hr es[k] (he _ (List.getElem_mem hlt)))
      clear H hb ht hr he ha
      generalize es[k] = en at *
      obtain ⟨ep, ec, er, en⟩ := en
      simp only at c0 c1 c2 c3 HK
      go_wp2_with (go_at_call 52; refine HK.out.mono ?_; rintro e w2 ⟨rfl, q2⟩; have Q2 := hid (D.out.trans q2); clear q2)
      refine ⟨⟨k + 1, by go_num, by omega, hid Q2.out⟩, by simp [intOf]; omega⟩
    · obtain rfl : k = es.length := by omega
      have hnl : ¬ ((es.length : Int) < (es.length : Int)) := by omega
      go_wp2
      go_ret
      exact ⟨rfl, D.out⟩
theorem cfEnt_any (H : GfS B a (fun p => giftsOf tr p) w) (hb : w.heap[bg]? = some (.cells (gfC a (fun p => giftsOf tr p)) 89 (0, 0))) (ht : TrOk tr) (hr : ∀ y ∈ tr, y.1.kind = 2 → y.2 = 0 → 0 ≤ y.1.r ∧ y.1.r ≤ 15) (es : List Wo.Ent) (he : ∀ e ∈ es, MayE tr e) (ao : Option Addr) (cap : Nat) (ha : EntsAt w es ao) (hl : es.length ≤ 900000) :
    Calls Tryz.prog 51 #[.slice ao es.length cap, .func (.func 52) #[] #[.pointer (some ⟨bg, 0, none⟩)]] w fun e w' => e = .returned (.bool false) ∧ Quiet w w' := by
  have HI := hid (ifEnt_any H hb ht hr es he ao cap ha hl)
  clear H hb ht hr he ha
  go_enter Tryz.func51, Tryz.ntmps51
  go_wp2_with (go_at_call 75; refine HI.out.mono ?_; rintro e w2 ⟨rfl, q2⟩; have H2 := hid q2; clear q2)
  go_ret
  exact ⟨rfl, H2.out⟩
end
set_option maxRecDepth 8000 in
set_option maxHeartbeats 2000000 in
theorem ylook_any {X : Nat → Prop} {P : Yx} {q : Hq} {h : Hs} {tr : List (Sp × Int)} {n : Nat} {w : World} (H : YN X P q h tr n w) (hl : tr.length ≤ 1000) (ht : TrOk tr) (hr : ∀ y ∈ tr, y.1.kind = 2 → y.2 = 0 → 0 ≤ y.1.r ∧ y.1.r ≤ 15) (es : List Wo.Ent) (he : ∀ e ∈ es, MayE tr e) (ao : Option Addr) (cap : Nat) (ha : EntsAt w es ao) (hle : es.length ≤ 900000) :
    Calls Tryz.prog 26 #[.pointer (some ⟨P.wb, 0, none⟩), .slice ao es.length cap] w fun e w' => e = .returned (.tuple #[]) ∧ Quiet w w' := by
  have HG := hid (ygiven_any H hl)
  have HH := hid (And.intro ht (And.intro hr (And.intro he ha)))
  clear H ht hr he ha
  go_enter Tryz.func26, Tryz.ntmps26
  go_wp2_with (first
    | (go_at_call 51; refine HD.out.2.mono ?_; rintro e w4 ⟨rfl, q4⟩; have H4 := hid q4; clear q4)
    | (go_at_call 28; refine HG.out.mono ?_; rintro e w2 ⟨a, rfl, g2, q2⟩; have q3 : Quiet w2 (w2.alloc (.cells (gfC a (fun p => giftsOf tr p)) 89)) := Kp.alloc _ _; have HD := hid (And.intro (q2.trans q3) (cfEnt_any (g2.quiet q3) (heap_alloc_new w2 _) HH.out.1 HH.out.2.1 es HH.out.2.2.1 ao cap (HH.out.2.2.2.quiet (q2.trans q3)) hle)); clear g2 q2 q3; unfold gfC gfV at HD ⊢))
  go_end0
  exact ⟨rfl, HD.out.1.trans H4.out⟩
section
variable {M : Hx} {q : Hq} {h : Hs} {w : World} {X : Nat → Prop}
def LoadQ (X : Nat → Prop) (P : Int × Int → Prop) (M : Hx) (q : Hq) (h : Hs) (x : Sx) (w : World) (e : Ending) (w' : World) : Prop :=
  ∃ c, (plugB x.p = true → ∃ f, P f ∧ f.1 = c) ∧ e = .returned (.int .i64 (loadH h (x.sp c)).1.code) ∧ HouseS X M q (loadH h (x.sp c)).2 w' ∧ GoesH M q w q w'
theorem load_far (h : Hs) (x : Sx) (hp : plugB x.p = false) : loadH h (x.sp 0) = (⟨1, 0, v0⟩, h) := by
  unfold loadH Sx.sp; simp only; rw [hp]; rfl
theorem load_bad (h : Hs) (x : Sx) {c : Int} (hp : plugB x.p = true) (hc : c ≠ 0) : loadH h (x.sp c) = (⟨c, 0, v0⟩, h) := by
  unfold loadH Sx.sp; simp only; rw [hp, if_pos rfl, if_neg hc]
theorem load_ok (h : Hs) (x : Sx) (hp : plugB x.p = true) : loadH h (x.sp 0) = (⟨0, 0, v0⟩, { h with ms := h.ms.set x.p.toNat (some x.fs), s := { h.s with ks := h.s.ks.set x.p.toNat v0 } }) := by
  unfold loadH Sx.sp; simp only; rw [hp]; simp
theorem HOk.load {h : Hs} (ok : HOk h) {j : Nat} (hj : j < 4) (fs : List Ex.V) : HOk ⟨{ h.s with ks := h.s.ks.set j v0 }, h.ms.set j (some fs), h.hs⟩ := by
  have hp : plugB (j : Int) = true := by simp [plugB]; omega
  have h1 := ok.step ⟨1, j, 0, 0, 0, 0, 0, 0, 0, fs⟩
  have h2 := load_ok h ⟨1, j, 0, 0, 0, 0, 0, 0, fs, none, 0⟩ hp
  unfold Sx.sp at h2
  unfold stepH at h1
  rw [if_pos rfl, h2] at h1
  exact h1
theorem HouseS.plugc (H : HouseS X M q h w) (j : Nat) (hj : j < 4) : (∃ t0 t1 t2 t3 t4, w.cell? ⟨M.bb, 2 + j * 5, none⟩ = some t0 ∧ w.cell? ⟨M.bb, 2 + j * 5 + 1, none⟩ = some t1 ∧ w.cell? ⟨M.bb, 2 + j * 5 + 2, none⟩ = some t2 ∧ w.cell? ⟨M.bb, 2 + j * 5 + 3, none⟩ = some t3 ∧ w.cell? ⟨M.bb, 2 + j * 5 + 4, none⟩ = some t4) ∧ (∀ k, w.frozen? ⟨M.bb, k, none⟩ = false) ∧ M.bb < w.heap.size := by
  obtain ⟨a, b, c, d, hb, _⟩ := H.box
  have key : ∀ k x, (boxC M.g M.wd a b c d)[k]? = some x → w.cell? ⟨M.bb, k, none⟩ = some x := fun k x hx => by
    rw [← hx]; simp [World.cell?, hb.obj]
  refine ⟨?_, fun k => frozen_of_row w _ k _ _ hb.obj, lt_of_block hb.obj⟩
  obtain rfl | rfl | rfl | rfl : j = 0 ∨ j = 1 ∨ j = 2 ∨ j = 3 := by omega
  all_goals exact ⟨_, _, _, _, _, key _ _ rfl, key _ _ rfl, key _ _ rfl, key _ _ rfl, key _ _ rfl⟩
set_option maxRecDepth 8000 in
set_option maxHeartbeats 2000000 in
theorem xload_any (H : HouseS X M q h w) (x : Sx) (hx : x.Fit) {P : Int × Int → Prop} (hM : MakeAt P x w) : Calls Tryz.prog 45 #[.pointer (some ⟨M.hb, 0, none⟩), .int .i64 x.p, .agg #[.slice x.fa x.fs.length x.fc]] w fun e w' => LoadQ X P M q h x w e w' := by
  have q1 : Quiet w (w.alloc (.cells #[.slice x.fa x.fs.length x.fc] 45)) := Kp.alloc _ _
  cases hp : plugB x.p with
  | false =>
    have HE := hid (load_far h x hp)
    have HH := hid (And.intro (H.quiet q1) q1)
    clear H hM q1
    obtain ⟨kind, p, qq, k, hh, r, g, n, fs, fa, fc⟩ := x
    simp only at *
    go_enter Tryz.func45, Tryz.ntmps45
    go_wp2_with (go_at_call 62; refine (plug_any p _).mono ?_; rintro e w' ⟨rfl, h2⟩; replace h2 := h2.symm; subst h2; rw [hp])
    go_ret
    refine ⟨0, fun e => (by simp only [hp] at e; cases e), ?_⟩
    rw [HE.out]
    exact ⟨rfl, HH.out.1, GoesH.quiet M q HH.out.2⟩
  | true =>
    have HE := hid (And.intro (fun c => load_bad h x (c := c) hp) (load_ok h x hp))
    have HM := hid (hM.2 _ q1)
    have HP := hid hM.1
    have HF := hid hx.ins
    have HH := hid (And.intro (H.quiet q1) q1)
    have hpp : 0 ≤ x.p ∧ x.p < 4 := by simpa [plugB] using hp
    clear H hM q1 hx
    obtain ⟨kind, p, qq, k, hh, r, g, n, fs, fa, fc⟩ := x
    simp only at *
    obtain ⟨j, rfl⟩ : ∃ j : Nat, p = j := ⟨p.toNat, by omega⟩
    have hj4 : (j : Int) < 4 := hpp.2
    have hj : j < 4 := by omega
    clear hpp
    go_enter Tryz.func45, Tryz.ntmps45
    go_wp2_with (first
      | (go_at_call 71; refine HM.out.mono ?_)
      | (go_at_call 62; refine (plug_any j _).mono ?_; rintro e w' ⟨rfl, h2⟩; replace h2 := h2.symm; subst h2; rw [hp]))
    rintro e w2 ⟨f, hf, q2, ⟨h0, rfl⟩ | ⟨h0, ao, cap, ps, rfl, md, hps⟩⟩
    · have HQ := hid (And.intro hf q2)
      clear hf q2
      go_wp2
      go_ret
      refine ⟨f.1, fun _ => ⟨f, HQ.out.1, rfl⟩, ?_⟩
      rw [HE.out.1 _ h0]
      have q3 := HQ.out.2.trans (Kp.alloc w2 (.cells #[.int .i64 f.1, .int .i64 f.2] 27))
      exact ⟨rfl, HH.out.1.quiet q3, GoesH.quiet M q (HH.out.2.trans q3)⟩
    · have q3 := q2.trans (Kp.alloc w2 (.cells #[.int .i64 0, .int .i64 0] 27))
      have H3 := HH.out.1.quiet q3
      have hca := (made_at md hps).kept (Kp.alloc (F := fun _ => False) w2 (.cells #[.int .i64 0, .int .i64 0] 27)) (fun _ _ _ _ _ e => e)
      have hl := H3.load hj hca (HP.out f hf h0) HF.out (HH.out.1.ok.load hj fs)
      obtain ⟨⟨t0, t1, t2, t3, t4, c0, c1, c2, c3, c4⟩, hfz, hlt⟩ := H3.plugc j hj
      have z0 := hfz (2 + j * 5)
      have z1 := hfz (2 + j * 5 + 1)
      have z2 := hfz (2 + j * 5 + 2)
      have z3 := hfz (2 + j * 5 + 3)
      have z4 := hfz (2 + j * 5 + 4)
      have d0 := H3.cells.1
      have HL := hid (And.intro hl (And.intro hf (And.intro h0 (HH.out.2.trans q3))))
      clear hfz hl q3 H3 hca hf q2 md hps
      go_wp2
      go_ret
      refine ⟨0, fun _ => ⟨f, HL.out.2.1, HL.out.2.2.1⟩, ?_⟩
      rw [HE.out.2]
      exact ⟨rfl, HL.out.1.1, (GoesH.quiet M q HL.out.2.2.2).trans HL.out.1.2⟩
end
end Go.Proofs.YtkpckmcaeljocaaGreat
namespace Go.Proofs.YtkpckmcaeljocaaGreat
open Go.ChangeShapes Go.WideShapes Go.ChangeAt Go.RowKit
open Gr (Nd Res nd0 thereB openB deriveOf addOf gateOf cutOf cellB cellOf funcB funcOf rightsN wayOf gatesOf gatesW targetOf Wf NdOk GS IntsAt StepP)
section
variable {M : Hx} {q : Hq} {h : Hs} {w : World} {X : Nat → Prop}
theorem nine_at {w : World} {g : Nat} {a b c d e f k l m : Value} {t : TypeId} (h : w.heap[g]? = some (.cells #[a, b, c, d, e, f, k, l, m] t (0, 0))) : w.cell? ⟨g, 0, none⟩ = some a ∧ w.cell? ⟨g, 1, none⟩ = some b ∧ w.cell? ⟨g, 2, none⟩ = some c ∧ w.cell? ⟨g, 3, none⟩ = some d ∧ w.cell? ⟨g, 4, none⟩ = some e ∧ w.cell? ⟨g, 5, none⟩ = some f ∧ w.cell? ⟨g, 6, none⟩ = some k ∧ w.cell? ⟨g, 7, none⟩ = some l ∧ w.cell? ⟨g, 8, none⟩ = some m := by
  refine ⟨?_, ?_, ?_, ?_, ?_, ?_, ?_, ?_, ?_⟩ <;> simp [World.cell?, h]
theorem evt_set (w : World) (x : Nat) (a b c d e : Value) : Kp (fun k => k = x) w (((((w.setCell ⟨x, 0, none⟩ a).setCell ⟨x, 1, none⟩ b).setCell ⟨x, 2, none⟩ c).setCell ⟨x, 3, none⟩ d).setCell ⟨x, 4, none⟩ e) := ((((kp_set w x 0 a).trans (kp_set _ x 1 b)).trans (kp_set _ x 2 c)).trans (kp_set _ x 3 d)).trans (kp_set _ x 4 e)
theorem evt_put {w : World} {g : Nat} {x0 x1 x2 x3 x4 : Value} {t : TypeId} (h : w.heap[g]? = some (.cells #[x0, x1, x2, x3, x4] t (0, 0))) (t0 t1 t2 t3 t4 : Value) : (((((w.setCell ⟨g, 0, none⟩ t0).setCell ⟨g, 1, none⟩ t1).setCell ⟨g, 2, none⟩ t2).setCell ⟨g, 3, none⟩ t3).setCell ⟨g, 4, none⟩ t4).heap[g]? = some (.cells #[t0, t1, t2, t3, t4] t (0, 0)) := by
  simp [World.setCell, Array.getElem?_modify, h]
theorem evt_cells {w : World} {g : Nat} {a b c d e : Value} {t : TypeId} (h : w.heap[g]? = some (.cells #[a, b, c, d, e] t (0, 0))) : (w.cell? ⟨g, 0, none⟩ = some a ∧ w.cell? ⟨g, 1, none⟩ = some b ∧ w.cell? ⟨g, 2, none⟩ = some c ∧ w.cell? ⟨g, 3, none⟩ = some d ∧ w.cell? ⟨g, 4, none⟩ = some e) ∧ w.frozen? ⟨g, 0, none⟩ = false ∧ w.frozen? ⟨g, 1, none⟩ = false ∧ w.frozen? ⟨g, 2, none⟩ = false ∧ w.frozen? ⟨g, 3, none⟩ = false ∧ w.frozen? ⟨g, 4, none⟩ = false := by
  refine ⟨⟨?_, ?_, ?_, ?_, ?_⟩, frozen_of_row w g 0 _ t h, frozen_of_row w g 1 _ t h, frozen_of_row w g 2 _ t h, frozen_of_row w g 3 _ t h, frozen_of_row w g 4 _ t h⟩ <;> simp [World.cell?, h]
def capR (h : Hs) (x : Sx) : Res := if x.kind = 3 then funcOf h.s.ns h.s.os x.q x.k x.r x.g else cellOf h.s.ns h.s.os x.k x.r x.g
def CapQ (M : Hx) (q : Hq) (R : Res) (w : World) (e : Ending) (w' : World) : Prop := e = .returned (.tuple #[.int .i64 R.num, .int .i64 R.code]) ∧ ∃ vn' vo', GS 101 M.B w' M.g vn' vo' R.ns R.os ∧ Gr.Goes M.g q.n q.o w vn' vo' w'
structure HX (X : Nat → Prop) (M : Hx) (q : Hq) (h : Hs) (x : Sx) (b : Nat) (W : World) : Prop where
  s : HouseS X M q h W
  b : W.heap[b]? = some (.cells x.vals 47 (0, 0))
theorem HX.free {x : Sx} {b : Nat} {W : World} (H : HX X M q h x b W) : ¬ OwnH M q b := H.s.free H.b (by decide) (by decide) (by decide) (by decide) (by decide) (by decide) (by decide) (by decide)
theorem HX.cells {x : Sx} {b : Nat} {W w' : World} (H : HX X M q h x b W) (k : Kp (Gr.Own M.g q.n q.o) W w') :
    (w'.cell? ⟨M.hb, 0, none⟩ = some (.pointer (some ⟨M.bb, 0, none⟩)) ∧ w'.cell? ⟨M.bb, 0, none⟩ = some (.pointer (some ⟨M.g, 0, none⟩))) ∧ w'.cell? ⟨b, 0, none⟩ = some (.int .i64 x.kind) ∧ w'.cell? ⟨b, 1, none⟩ = some (.int .i64 x.p) ∧ w'.cell? ⟨b, 2, none⟩ = some (.int .i64 x.q) ∧ w'.cell? ⟨b, 3, none⟩ = some (.int .i64 x.k) ∧ w'.cell? ⟨b, 5, none⟩ = some (.int .i64 x.r) ∧ w'.cell? ⟨b, 6, none⟩ = some (.int .i64 x.g) := by
  have hf := H.free
  have hg : ∀ k, Gr.Own M.g q.n q.o k → OwnB M.bb M.g M.wd q.n q.o q.l k := fun k e => .inr (.inl e)
  obtain ⟨d0, d1, _⟩ := H.s.cells
  obtain ⟨c0, c1, c2, c3, _, c5, c6, _, _⟩ := nine_at H.b
  have n1 : ¬ Gr.Own M.g q.n q.o M.hb := fun e => H.s.bfree.1 (hg _ e)
  have n2 : ¬ Gr.Own M.g q.n q.o M.bb := by
    obtain ⟨a, b, c, d, hb⟩ := H.s.box.is
    exact H.s.gs.free_type hb.obj (by decide) (by decide) (by decide)
  have n3 : ¬ Gr.Own M.g q.n q.o b := fun e => hf (.inl (hg _ e))
  exact ⟨⟨k.cell d0 n1, k.cell d1 n2⟩, k.cell c0 n3, k.cell c1 n3, k.cell c2 n3, k.cell c3 n3, k.cell c5 n3, k.cell c6 n3⟩
set_option maxRecDepth 8000 in
set_option maxHeartbeats 2000000 in
theorem xcap_any (H : HouseS X M q h w) (x : Sx) : Calls Tryz.prog 72 #[.pointer (some ⟨M.hb, 0, none⟩), .agg x.vals] w fun e w' => CapQ M q (capR h x) w e w' := by
  obtain ⟨W, hW⟩ : ∃ W, W = w.alloc (.cells x.vals 47) := ⟨_, rfl⟩
  have qW : Quiet w W := by rw [hW]; exact Kp.alloc _ _
  have HH : HX X M q h x w.heap.size W := ⟨H.quiet qW, by rw [hW]; exact heap_alloc_new w _⟩
  obtain ⟨⟨d0, d1⟩, c0, c1, c2, c3, c5, c6⟩ := HH.cells (Kp.refl _ _)
  rw [hW] at d0 d1 c0 c1 c2 c3 c5 c6
  by_cases hk : x.kind = 3
  · have hE := hid (show capR h x = funcOf h.s.ns h.s.os x.q x.k x.r x.g by unfold capR; rw [if_pos hk])
    have HG := hid (Gr.func_any (HH.s.quiet (Kp.drew _)).gs x.q x.k x.r x.g)
    have sAll := hid (fun (w' : World) (z : Kp (Gr.Own M.g q.n q.o) W w') => HH.cells z)
    obtain ⟨kind, p, qq, k, hh, r, g, n, fs, fa, fc⟩ := x
    simp only [Sx.vals] at *
    subst hk
    have HQ := hid qW
    clear H HH qW
    go_enter Tryz.func72, Tryz.ntmps72
    go_wp2_with fail
    rw [← hW]
    clear hW
    have z0 : Kp (Gr.Own M.g q.n q.o) W W.drew := Kp.drew _
    go_region_held3 (fun w' => (w'.cell? ⟨M.hb, 0, none⟩ = some (.pointer (some ⟨M.bb, 0, none⟩)) ∧ w'.cell? ⟨M.bb, 0, none⟩ = some (.pointer (some ⟨M.g, 0, none⟩))) ∧ w'.cell? ⟨w.heap.size, 0, none⟩ = some (.int .i64 3) ∧ w'.cell? ⟨w.heap.size, 1, none⟩ = some (.int .i64 p) ∧ w'.cell? ⟨w.heap.size, 2, none⟩ = some (.int .i64 qq) ∧ w'.cell? ⟨w.heap.size, 3, none⟩ = some (.int .i64 k) ∧ w'.cell? ⟨w.heap.size, 5, none⟩ = some (.int .i64 r) ∧ w'.cell? ⟨w.heap.size, 6, none⟩ = some (.int .i64 g)) ((refine sAll.out _ ?_; assumption)) (first | (go_at_call 90; refine HG.out.mono ?_; rintro e w3 ⟨rfl, vn', vo', g3, o3⟩; have z3 : Kp (Gr.Own M.g q.n q.o) W w3 := z0.trans o3.kp; have H3 := hid (And.intro g3 (o3.after (HQ.out.trans (Kp.drew _)))); clear g3 o3 z0))
    go_wp2
    go_ret2
    rw [hE.out]
    exact ⟨rfl, _, _, H3.out.1, H3.out.2⟩
  · have hE := hid (show capR h x = cellOf h.s.ns h.s.os x.k x.r x.g by unfold capR; rw [if_neg hk])
    have HG := hid (Gr.cell_any (HH.s.quiet (Kp.drew _)).gs x.k x.r x.g)
    have sAll := hid (fun (w' : World) (z : Kp (Gr.Own M.g q.n q.o) W w') => HH.cells z)
    obtain ⟨kind, p, qq, k, hh, r, g, n, fs, fa, fc⟩ := x
    simp only [Sx.vals] at *
    have HQ := hid qW
    clear H HH qW
    go_enter Tryz.func72, Tryz.ntmps72
    go_wp2_with fail
    rw [← hW]
    clear hW
    have z0 : Kp (Gr.Own M.g q.n q.o) W W.drew := Kp.drew _
    go_region_held3 (fun w' => (w'.cell? ⟨M.hb, 0, none⟩ = some (.pointer (some ⟨M.bb, 0, none⟩)) ∧ w'.cell? ⟨M.bb, 0, none⟩ = some (.pointer (some ⟨M.g, 0, none⟩))) ∧ w'.cell? ⟨w.heap.size, 0, none⟩ = some (.int .i64 kind) ∧ w'.cell? ⟨w.heap.size, 1, none⟩ = some (.int .i64 p) ∧ w'.cell? ⟨w.heap.size, 2, none⟩ = some (.int .i64 qq) ∧ w'.cell? ⟨w.heap.size, 3, none⟩ = some (.int .i64 k) ∧ w'.cell? ⟨w.heap.size, 5, none⟩ = some (.int .i64 r) ∧ w'.cell? ⟨w.heap.size, 6, none⟩ = some (.int .i64 g)) ((refine sAll.out _ ?_; assumption)) (first | (go_at_call 91; refine HG.out.mono ?_; rintro e w3 ⟨rfl, vn', vo', g3, o3⟩; have z3 : Kp (Gr.Own M.g q.n q.o) W w3 := z0.trans o3.kp; have H3 := hid (And.intro g3 (o3.after (HQ.out.trans (Kp.drew _)))); clear g3 o3 z0))
    go_wp2
    go_ret2
    rw [hE.out]
    exact ⟨rfl, _, _, H3.out.1, H3.out.2⟩
end
end Go.Proofs.YtkpckmcaeljocaaGreat
namespace Go.Proofs.YtkpckmcaeljocaaGreat
open Go.ChangeShapes Go.WideShapes Go.ChangeAt Go.RowKit
open Gr (Nd Res nd0 thereB openB deriveOf addOf gateOf cutOf cellB cellOf funcB funcOf rightsN wayOf gatesOf gatesW targetOf Wf NdOk GS IntsAt)
section
variable {M : Hx} {q : Hq} {h : Hs} {w : World} {X : Nat → Prop}
theorem add_bad {ns : List Nd} {os : List Bool} {n : Nd} (h : (addOf ns os n).code ≠ 0) : (addOf ns os n).ns = ns ∧ (addOf ns os n).os = os := by
  unfold addOf at h ⊢
  repeat' split
  all_goals first
    | exact ⟨rfl, rfl⟩
    | (exfalso; apply h; repeat' split
       all_goals first | rfl | contradiction)
theorem cap_bad {x : Sx} (hc : (capR h x).code ≠ 0) : (capR h x).ns = h.s.ns ∧ (capR h x).os = h.s.os := by
  unfold capR cellOf funcOf at hc ⊢
  by_cases h1 : x.kind = 3
  · rw [if_pos h1] at hc ⊢
    by_cases h2 : funcB x.q x.k = true
    · rw [if_pos h2] at hc ⊢; exact add_bad hc
    · rw [if_neg h2]; exact ⟨rfl, rfl⟩
  · rw [if_neg h1] at hc ⊢
    by_cases h2 : cellB x.k = true
    · rw [if_pos h2] at hc ⊢; exact add_bad hc
    · rw [if_neg h2]; exact ⟨rfl, rfl⟩
theorem cap_ok (hi : HOk h) {x : Sx} (hc : (capR h x).code = 0) : Nx h.s.os h.s.ns (capR h x).ns ∧ (capR h x).os = h.s.os ∧ 0 ≤ (capR h x).num ∧ (capR h x).num < 100 := by
  unfold capR at hc ⊢
  by_cases h1 : x.kind = 3
  · rw [if_pos h1] at hc ⊢
    obtain ⟨_, a, b, c, _⟩ := func_root hi.inv.wf hi.inv.ln hc
    have := a.len
    have : 0 ≤ (funcOf h.s.ns h.s.os x.q x.k x.r x.g).num ∧ (funcOf h.s.ns h.s.os x.q x.k x.r x.g).num < (funcOf h.s.ns h.s.os x.q x.k x.r x.g).ns.length := by simpa [thereB] using c
    exact ⟨a, b, by omega, by omega⟩
  · rw [if_neg h1] at hc ⊢
    obtain ⟨a, b, c, _⟩ := cell_root hi.inv.wf hi.inv.ln hc
    have := a.len
    have : 0 ≤ (cellOf h.s.ns h.s.os x.k x.r x.g).num ∧ (cellOf h.s.ns h.s.os x.k x.r x.g).num < (cellOf h.s.ns h.s.os x.k x.r x.g).ns.length := by simpa [thereB] using c
    exact ⟨a, b, by omega, by omega⟩
theorem HouseS.capped {w' : World} {x : Sx} {e : Ending} (H : HouseS X M q h w) (hq : CapQ M q (capR h x) w e w') :
    e = .returned (.tuple #[.int .i64 (capR h x).num, .int .i64 (capR h x).code]) ∧ ∃ vn' vo', HouseS X M ⟨vn', vo', q.l, q.r⟩ { h with s := { h.s with ns := (capR h x).ns, os := (capR h x).os } } w' ∧ GoesH M q w ⟨vn', vo', q.l, q.r⟩ w' := by
  obtain ⟨he, vn', vo', hg, go⟩ := hq
  refine ⟨he, vn', vo', ?_⟩
  by_cases hc : (capR h x).code = 0
  · obtain ⟨a, b, _⟩ := cap_ok H.ok hc
    refine H.graph go hg (by rw [b]; exact a.wf) ⟨⟨?_, a.len, ?_, H.ok.inv.cs, H.ok.inv.ks, H.ok.inv.good⟩, H.ok.ms, H.ok.len, H.ok.hand⟩
    · simp only; rw [b]; exact a.wf
    · simp only; rw [b]; exact H.ok.inv.lg
  · obtain ⟨a, b⟩ := cap_bad hc
    rw [a, b] at hg ⊢
    exact H.graph go hg H.ok.inv.wf H.ok
def giveX (h : Hs) (x : Sx) : Evt × Hs := if plugB x.p then giveH h x.p (capR h x) else (⟨1, 0, v0⟩, h)
set_option maxRecDepth 8000 in
set_option maxHeartbeats 2000000 in
theorem hgive_far (H : HouseS X M q h w) (x : Sx) (hp : plugB x.p = false) : Calls Tryz.prog 46 #[.pointer (some ⟨M.hb, 0, none⟩), .agg x.vals] w fun e w' => HDoQ X M q (giveX h x) w e w' := by
  have hE := hid (show giveX h x = (⟨1, 0, v0⟩, h) by unfold giveX; rw [hp]; rfl)
  have HH := hid H
  clear H
  obtain ⟨kind, p, qq, k, hh, r, g, n, fs, fa, fc⟩ := x
  simp only [Sx.vals] at *
  go_enter Tryz.func46, Tryz.ntmps46
  go_wp2_with (go_at_call 62; refine (plug_any p _).mono ?_; rintro e w' ⟨rfl, h2⟩; replace h2 := h2.symm; subst h2; rw [hp])
  refine bodyPost_ret (v := .agg #[.int .i64 1, .int .i64 0, .int .i64 0, .int .i64 0, .slice none 0 0]) (by simp [results, Tryz.results46, go_sem]) rfl ?_
  have q9 : Quiet w ((w.alloc (.cells #[.int .i64 kind, .int .i64 p, .int .i64 qq, .int .i64 k, .int .i64 hh, .int .i64 r, .int .i64 g, .int .i64 n, .slice fa fs.length fc] 47)).alloc (.cells #[.int .i64 1, .int .i64 0, .int .i64 0, .int .i64 0, .slice none 0 0] 40)) := (Kp.alloc _ _).trans (Kp.alloc _ _)
  rw [hE.out]
  exact ⟨q, none, 0, rfl, HH.out.quiet q9, GoesH.quiet M q q9, safe_leaf v0 v0_fits rfl none⟩
def XG (w : World) (X : Nat → Prop) (k : Nat) : Prop := k = w.heap.size ∨ k = w.heap.size + 1 ∨ X k
structure HG (X : Nat → Prop) (M : Hx) (q0 : Hq) (q : Hq) (h : Hs) (x : Sx) (w : World) (W : World) : Prop where
  s : HouseS (XG w X) M q h W
  g : GoesH M q0 w q W
  b0 : W.heap[w.heap.size]? = some (.cells x.vals 47 (0, 0))
  b1 : W.heap[w.heap.size + 1]? = some (.cells #[.int .i64 0, .int .i64 0, .int .i64 0, .int .i64 0, .slice none 0 0] 40 (0, 0))
theorem HG.start (H : HouseS X M q h w) (x : Sx) : HG X M q q h x w ((w.alloc (.cells x.vals 47)).alloc (.cells #[.int .i64 0, .int .i64 0, .int .i64 0, .int .i64 0, .slice none 0 0] 40)) := by
  have q2 : Quiet w ((w.alloc (.cells x.vals 47)).alloc (.cells #[.int .i64 0, .int .i64 0, .int .i64 0, .int .i64 0, .slice none 0 0] 40)) := (Kp.alloc _ _).trans (Kp.alloc _ _)
  refine ⟨H.step q2 (fun i hi e => ?_) (fun i e => ?_), GoesH.quiet M q q2, by rw [Below.heap_alloc _ _ _ (by simp)]; exact heap_alloc_new w _, heap_two w _ _⟩
  · rcases e with e | e | e
    · omega
    · omega
    · exact e
  · rcases e with e | e | e
    · simp; omega
    · simp; omega
    · exact Nat.lt_of_lt_of_le (H.xo i e).1 q2.size
theorem HG.quiet {q0 : Hq} {x : Sx} {W w' : World} (H : HG X M q0 q h x w W) (k : Quiet W w') : HG X M q0 q h x w w' :=
  ⟨H.s.quiet k, H.g.trans (GoesH.quiet M q k), (k.block _ (lt_of_block H.b0) fun e => e).trans H.b0, (k.block _ (lt_of_block H.b1) fun e => e).trans H.b1⟩
theorem HG.capped {q0 : Hq} {x : Sx} {W w' : World} {e : Ending} (H : HG X M q0 q h x w W) (hq : CapQ M q (capR h x) W e w') :
    e = .returned (.tuple #[.int .i64 (capR h x).num, .int .i64 (capR h x).code]) ∧ ∃ q2, q2.r = q.r ∧ HG X M q0 q2 { h with s := { h.s with ns := (capR h x).ns, os := (capR h x).os } } x w w' := by
  obtain ⟨he, vn', vo', h2, g2⟩ := H.s.capped hq
  exact ⟨he, ⟨vn', vo', q.l, q.r⟩, rfl, h2, H.g.trans g2, (g2.block H.b0 (H.s.xo _ (.inl rfl)).2).1, (g2.block H.b1 (H.s.xo _ (.inr (.inl rfl))).2).1⟩
theorem HG.done {q0 : Hq} {x : Sx} {W w5 : World} {R : Evt × Hs} {ao : Option Addr} {cap : Nat} (H : HG X M q0 q R.2 x w W) (k5 : Kp (fun k => k = w.heap.size + 1) W w5) (hs : SafeF (fun k => OwnH M q k ∨ X k) (fun w => Is w R.1.v ao) w5) : HDoQ X M q0 R w (.returned (.agg #[.int .i64 R.1.code, .int .i64 R.1.fuel, .int .i64 R.1.v.kind, .int .i64 R.1.v.n, .slice ao R.1.v.l.length cap])) w5 := by
  have h5 := H.s.turn k5 (fun i e => .inr (.inl e)) (fun i cs t hi ht e => by
    rw [e, H.b1] at hi
    simp at hi
    rcases ht with ht | ht <;> rw [ht] at hi <;> exact absurd hi.2 (by decide))
  exact ⟨q, ao, cap, rfl, h5.step (Kp.refl _ _) (fun i _ e => .inr (.inr e)) (fun i e => (h5.xo i (.inr (.inr e))).1), H.g.fresh (k5.mono fun i _ e => by omega), hs⟩
set_option maxRecDepth 8000 in
set_option maxHeartbeats 2000000 in
theorem hgive_bad (H : HouseS X M q h w) (x : Sx) (hp : plugB x.p = true) (hc : (capR h x).code ≠ 0) : Calls Tryz.prog 46 #[.pointer (some ⟨M.hb, 0, none⟩), .agg x.vals] w fun e w' => HDoQ X M q (giveX h x) w e w' := by
  have hE := hid (show giveX h x = (⟨(capR h x).code, 0, v0⟩, h) by unfold giveX giveH; rw [hp, if_pos rfl, if_neg hc])
  have H2 := HG.start H x
  have HS := hid H2
  have HC := hid (xcap_any H2.s x)
  have HB := hid (cap_bad hc)
  have HD := hid (fun (w2 : World) (q2 : Hq) (k : HG X M q q2 { h with s := { h.s with ns := (capR h x).ns, os := (capR h x).os } } x w w2) => show HG X M q q2 h x w w2 from by rw [HB.out.1, HB.out.2] at k; exact k)
  have hK := hid (fun (w2 : World) (e : Ending) (k : CapQ M q (capR h x) _ e w2) => HS.out.capped k)
  clear H H2
  generalize (capR h x).code = cd at *
  generalize (capR h x).num = nm at *
  obtain ⟨kind, p, qq, k, hh, r, g, n, fs, fa, fc⟩ := x
  simp only [Sx.vals] at *
  go_enter Tryz.func46, Tryz.ntmps46
  go_wp2_with (first
    | (go_at_call 50; refine (made_no 4 nm cd hc _).mono ?_; rintro e w4 ⟨rfl, q4⟩; have H4 := hid (HH.out.quiet (q4.trans (Kp.alloc w4 (.cells #[.int .i64 cd, .int .i64 0, .int .i64 0, .int .i64 0, .slice none 0 0] 40)))); have hb4 := H4.out.b1; obtain ⟨⟨y0, y1, y2, y3, y4⟩, x0, x1, x2, x3, x4⟩ := evt_cells hb4; have hl4 := lt_of_block hb4; clear q4 hb4)
    | (go_at_call 72; refine HC.out.mono ?_; rintro e w3 hq3; obtain ⟨he, q2, _, h3⟩ := hK.out _ _ hq3; subst he; have HH := hid (HD.out _ _ h3); clear hq3 h3)
    | (go_at_call 62; refine (plug_any p _).mono ?_; rintro e w' ⟨rfl, h2⟩; replace h2 := h2.symm; subst h2; rw [hp]))
  generalize w4.alloc (.cells #[.int .i64 cd, .int .i64 0, .int .i64 0, .int .i64 0, .slice none 0 0] 40) = W4 at *
  have hb5 := evt_put H4.out.b1 (.int .i64 cd) (.int .i64 0) (.int .i64 0) (.int .i64 0) (.slice none 0 0)
  have k5 := evt_set W4 (w.heap.size + 1) (.int .i64 cd) (.int .i64 0) (.int .i64 0) (.int .i64 0) (.slice none 0 0)
  generalize ((((W4.setCell ⟨w.heap.size + 1, 0, none⟩ (.int .i64 cd)).setCell ⟨w.heap.size + 1, 1, none⟩ (.int .i64 0)).setCell ⟨w.heap.size + 1, 2, none⟩ (.int .i64 0)).setCell ⟨w.heap.size + 1, 3, none⟩ (.int .i64 0)).setCell ⟨w.heap.size + 1, 4, none⟩ (.slice none 0 0) = W5 at *
  obtain ⟨⟨u0, u1, u2, u3, u4⟩, _⟩ := evt_cells hb5
  refine bodyPost_ret (v := .agg #[.int .i64 cd, .int .i64 0, .int .i64 0, .int .i64 0, .slice none 0 0]) (by simp [results, Tryz.results46, go_sem, u0, u1, u2, u3, u4]) rfl ?_
  rw [hE.out]
  exact HG.done (R := (⟨cd, 0, v0⟩, h)) H4.out k5 (safe_leaf v0 v0_fits rfl none)
theorem HouseS.pushed {W w1 : World} {Y : Nat → Prop} {j gg cap n : Nat} {z : Kd} {v : V} (H : HouseS Y M q h w) (kW : Quiet w W) (hj : j < 4) (hv : v.l = [] ∧ v.fits) (ok : HOk { h with hs := h.hs.set j (h.hs.getD j [] ++ [v]) }) (hn : (h.hs.getD j []).length = n)
    (hr : w1.ownsRow M.B 38 3 (.slice (some ⟨gg, 0, none⟩) (n + 1) cap) (n + 1) (tris (hd (h.hs.getD j [])) ++ tri z)) (hg : W.grownBy w1 (handV q h j).ownBlock) (hat : (handV q h j).ownBlock = some gg ∨ W.heap.size ≤ gg) :
    (z = (v, none, 0) → ∃ q', HouseS Y M q' { h with hs := h.hs.set j (h.hs.getD j [] ++ [v]) } (w1.setCell ⟨M.hb, 1 + j, none⟩ (.slice (some ⟨gg, 0, none⟩) (n + 1) cap)) ∧ GoesH M q w q' (w1.setCell ⟨M.hb, 1 + j, none⟩ (.slice (some ⟨gg, 0, none⟩) (n + 1) cap))) ∧
    (∃ q', HouseS Y M q' { h with hs := h.hs.set j (h.hs.getD j [] ++ [v]) } ((((w1.setCell ⟨M.hb, 1 + j, none⟩ (.slice (some ⟨gg, 0, none⟩) (n + 1) cap)).setCell ⟨gg, n * 3, none⟩ (.int .i64 v.kind)).setCell ⟨gg, n * 3 + 1, none⟩ (.int .i64 v.n)).setCell ⟨gg, n * 3 + 2, none⟩ (.slice none v.l.length 0)) ∧ GoesH M q w q' ((((w1.setCell ⟨M.hb, 1 + j, none⟩ (.slice (some ⟨gg, 0, none⟩) (n + 1) cap)).setCell ⟨gg, n * 3, none⟩ (.int .i64 v.kind)).setCell ⟨gg, n * 3 + 1, none⟩ (.int .i64 v.n)).setCell ⟨gg, n * 3 + 2, none⟩ (.slice none v.l.length 0))) ∧
    (w1.cell? ⟨M.hb, 1 + j, none⟩ = some (handV q h j) ∧ w1.frozen? ⟨M.hb, 1 + j, none⟩ = false ∧ M.hb < w1.heap.size) ∧ gg ≠ M.hb := by
  subst hn
  have HW := H.quiet kW
  have hrow : ∀ k, (handV q h j).ownBlock = some k ↔ (Value.slice (q.r j).1 0 0).ownBlock = some k := fun k => by unfold handV; rw [own_len]
  have f2 := (HW.bfree).2 j hj
  have hne : gg ≠ M.hb := by
    rcases hat with e | e
    · exact (f2 gg ((hrow gg).1 e)).2
    · have := lt_of_block HW.obj; omega
  have hl : (h.hs.getD j []).length = (hd (h.hs.getD j [])).length := by simp [hd]
  refine ⟨fun ez => ?_, ?_, ?_, hne⟩
  · subst ez
    obtain ⟨a, b⟩ := H.push kW hj hv ok hr hg hat
    exact ⟨_, a, b⟩
  · obtain ⟨a3, b3⟩ := lay_row (v, none, 0) z hl hr
    obtain ⟨a, b⟩ := H.push kW hj hv ok a3 (grown_then2 hg b3 hat) hat
    have hf : (⟨M.hb, 1 + j, none⟩ : Addr).block ≠ gg := fun e => hne e.symm
    rw [set_comm w1 ⟨M.hb, 1 + j, none⟩ ⟨gg, (h.hs.getD j []).length * 3, none⟩ _ _ hf, set_comm _ ⟨M.hb, 1 + j, none⟩ ⟨gg, (h.hs.getD j []).length * 3 + 1, none⟩ _ _ hf, set_comm _ ⟨M.hb, 1 + j, none⟩ ⟨gg, (h.hs.getD j []).length * 3 + 2, none⟩ _ _ hf]
    exact ⟨_, a, b⟩
  · have k1 : Kp (fun k => (handV q h j).ownBlock = some k) W w1 := Kp.grown hg fun k _ e => e.symm
    have hb : w1.heap[M.hb]? = _ := (k1.block _ (lt_of_block HW.obj) fun e => (f2 _ ((hrow _).1 e)).2 rfl).trans HW.obj
    refine ⟨?_, frozen_of_row w1 _ (1 + j) _ _ hb, lt_of_block hb⟩
    obtain rfl | rfl | rfl | rfl : j = 0 ∨ j = 1 ∨ j = 2 ∨ j = 3 := by omega
    all_goals simp [World.cell?, hb]
theorem HG.cells {q0 : Hq} {x : Sx} {W w' : World} {nb j : Nat} {nm : Int} {sa : Option Addr} {n sc : Nat} (H : HG X M q0 q h x w W) (hx : x.p = (j : Int)) (hj : j < 4) (hs : handV q h j = .slice sa n sc) (hb : W.heap[nb]? = some (.cells #[.int .i64 0, .int .i64 0, .int .i64 4, .int .i64 nm, .slice none 0 0] 40 (0, 0))) (k : Quiet W w') :
    w'.cell? ⟨w.heap.size, 1, none⟩ = some (.int .i64 j) ∧ w'.cell? ⟨M.hb, 1 + j, none⟩ = some (.slice sa n sc) ∧ w'.cell? ⟨nb, 2, none⟩ = some (.int .i64 4) ∧ w'.cell? ⟨nb, 3, none⟩ = some (.int .i64 nm) ∧ w'.cell? ⟨nb, 4, none⟩ = some (.slice none 0 0) := by
  obtain ⟨_, c1, _⟩ := nine_at H.b0
  obtain ⟨⟨_, _, d2, d3, d4⟩, _⟩ := evt_cells hb
  rw [hx] at c1
  have ch := H.s.handc j hj
  rw [hs] at ch
  exact ⟨k.cell c1 fun e => e, k.cell ch fun e => e, k.cell d2 fun e => e, k.cell d3 fun e => e, k.cell d4 fun e => e⟩
theorem HG.push {q0 : Hq} {x : Sx} {W W' w1 : World} {nb j gg cap n : Nat} {nm : Int} {sa : Option Addr} {sc : Nat} {z : Kd} {v : V} (H : HG X M q0 q h x w W) (hx : x.p = (j : Int)) (hb : W.heap[nb]? = some (.cells #[.int .i64 0, .int .i64 0, .int .i64 4, .int .i64 nm, .slice none 0 0] 40 (0, 0))) (kW : Quiet W W') (hj : j < 4) (hv : v.l = [] ∧ v.fits) (ok : HOk { h with hs := h.hs.set j (h.hs.getD j [] ++ [v]) }) (hs : handV q h j = .slice sa n sc) (hn : (h.hs.getD j []).length = n)
    (hr : w1.ownsRow M.B 38 3 (.slice (some ⟨gg, 0, none⟩) (n + 1) cap) (n + 1) (tris (hd (h.hs.getD j [])) ++ tri z)) (hg : W'.grownBy w1 (Value.slice sa n sc).ownBlock) (hat : (Value.slice sa n sc).ownBlock = some gg ∨ W'.heap.size ≤ gg) :
    (z = (v, none, 0) → ∃ q', HG X M q0 q' { h with hs := h.hs.set j (h.hs.getD j [] ++ [v]) } x w (w1.setCell ⟨M.hb, 1 + j, none⟩ (.slice (some ⟨gg, 0, none⟩) (n + 1) cap)) ∧ (w1.setCell ⟨M.hb, 1 + j, none⟩ (.slice (some ⟨gg, 0, none⟩) (n + 1) cap)).heap[nb]? = some (.cells #[.int .i64 0, .int .i64 0, .int .i64 4, .int .i64 nm, .slice none 0 0] 40 (0, 0))) ∧
    (∃ q', HG X M q0 q' { h with hs := h.hs.set j (h.hs.getD j [] ++ [v]) } x w ((((w1.setCell ⟨M.hb, 1 + j, none⟩ (.slice (some ⟨gg, 0, none⟩) (n + 1) cap)).setCell ⟨gg, n * 3, none⟩ (.int .i64 v.kind)).setCell ⟨gg, n * 3 + 1, none⟩ (.int .i64 v.n)).setCell ⟨gg, n * 3 + 2, none⟩ (.slice none v.l.length 0)) ∧ ((((w1.setCell ⟨M.hb, 1 + j, none⟩ (.slice (some ⟨gg, 0, none⟩) (n + 1) cap)).setCell ⟨gg, n * 3, none⟩ (.int .i64 v.kind)).setCell ⟨gg, n * 3 + 1, none⟩ (.int .i64 v.n)).setCell ⟨gg, n * 3 + 2, none⟩ (.slice none v.l.length 0)).heap[nb]? = some (.cells #[.int .i64 0, .int .i64 0, .int .i64 4, .int .i64 nm, .slice none 0 0] 40 (0, 0))) ∧
    (w1.cell? ⟨M.hb, 1 + j, none⟩ = some (.slice sa n sc) ∧ w1.frozen? ⟨M.hb, 1 + j, none⟩ = false ∧ M.hb < w1.heap.size) ∧ (¬ gg = M.hb ∧ ¬ M.hb = gg ∧ ¬ M.hb = nb ∧ ¬ nb = M.hb) ∧ (w1.cell? ⟨w.heap.size, 1, none⟩ = some (.int .i64 j) ∧ w1.cell? ⟨nb, 2, none⟩ = some (.int .i64 4) ∧ w1.cell? ⟨nb, 3, none⟩ = some (.int .i64 nm) ∧ w1.cell? ⟨nb, 4, none⟩ = some (.slice none 0 0)) := by
  have hg2 : W'.grownBy w1 (handV q h j).ownBlock := by rw [hs]; exact hg
  have hat2 : (handV q h j).ownBlock = some gg ∨ W'.heap.size ≤ gg := by rw [hs]; exact hat
  obtain ⟨a, b, ⟨c, d, l⟩, hne⟩ := H.s.pushed kW hj hv ok hn hr hg2 hat2
  have fb : ¬ OwnH M q nb := H.s.free hb (by decide) (by decide) (by decide) (by decide) (by decide) (by decide) (by decide) (by decide)
  have f0 := (H.s.xo _ (Or.inl rfl : XG w X w.heap.size)).2
  have f1 := (H.s.xo _ (Or.inr (Or.inl rfl) : XG w X (w.heap.size + 1))).2
  have go : ∀ (q' : Hq) (h' : Hs) (W2 : World), HouseS (XG w X) M q' h' W2 → GoesH M q W q' W2 → HG X M q0 q' h' x w W2 ∧ W2.heap[nb]? = some (.cells #[.int .i64 0, .int .i64 0, .int .i64 4, .int .i64 nm, .slice none 0 0] 40 (0, 0)) := fun q' h' W2 s g => ⟨⟨s, H.g.trans g, (g.block H.b0 f0).1, (g.block H.b1 f1).1⟩, (g.block hb fb).1⟩
  have nbne : nb ≠ M.hb := fun e => fb (.inr (.inl e))
  have k1 : Kp (fun k => OwnH M q k) W w1 := (kW.mono fun _ _ e => e.elim).trans (Kp.grown hg2 fun k _ e => by
    unfold handV at e
    exact .inr (.inr ⟨j, hj, ((own_len _ _ _ _ _).trans e.symm)⟩))
  obtain ⟨_, c1, _⟩ := nine_at H.b0
  obtain ⟨⟨_, _, d2, d3, d4⟩, _⟩ := evt_cells hb
  rw [hx] at c1
  refine ⟨fun ez => ?_, ?_, ⟨by rw [← hs]; exact c, d, l⟩, ⟨hne, fun e => hne e.symm, fun e => nbne e.symm, nbne⟩, k1.cell c1 f0, k1.cell d2 fb, k1.cell d3 fb, k1.cell d4 fb⟩
  · obtain ⟨q', s, g⟩ := a ez
    exact ⟨q', go _ _ _ s g⟩
  · obtain ⟨q', s, g⟩ := b
    exact ⟨q', go _ _ _ s g⟩
end
end Go.Proofs.YtkpckmcaeljocaaGreat
