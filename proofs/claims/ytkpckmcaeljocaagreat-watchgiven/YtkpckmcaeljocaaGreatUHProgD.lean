/- Parts. -/
import Derived.Test.YtkpckmcaeljocaaGreatUV10
import Derived.Test.YtkpckmcaeljocaaGreatUM6
namespace Go.Proofs.YtkpckmcaeljocaaGreat
open Go.ChangeShapes Go.WideShapes Go.ChangeAt Go.RowKit
open Gr (Nd Res nd0 thereB openB deriveOf addOf gateOf cutOf cellB cellOf funcB funcOf rightsN wayOf gatesOf gatesW targetOf Wf NdOk GS IntsAt)
section
variable {M : Hx} {q q' : Hq} {h h' : Hs} {w W w' w3 : World} {X : Nat → Prop}
def XC (w : World) (n : Nat) (X : Nat → Prop) (k : Nat) : Prop := (w.heap.size ≤ k ∧ k < w.heap.size + n) ∨ X k
structure HC (X : Nat → Prop) (M : Hx) (q : Hq) (h : Hs) (x : Sx) (w : World) (n : Nat) (v : V) (W : World) : Prop where
  s : HouseS (XC w n X) M q h W
  g : GoesH M q w q W
  b0 : W.heap[w.heap.size]? = some (.cells x.vals 47 (0, 0))
  b1 : W.heap[w.heap.size + 1]? = some (.cells #[.int .i64 0, .int .i64 0, .int .i64 0, .int .i64 0, .slice none 0 0] 40 (0, 0))
  b2 : W.heap[w.heap.size + 1 + 1]? = some (.cells #[.int .i64 v.kind, .int .i64 v.n, .slice none v.l.length 0] 38 (0, 0))
  l : v.l = [] ∧ v.fits
  n3 : 3 ≤ n
theorem HC.start (H : HouseS X M q h w) (x : Sx) (v : V) (hv : v.l = [] ∧ v.fits) : HC X M q h x w 3 v (((w.alloc (.cells x.vals 47)).alloc (.cells #[.int .i64 0, .int .i64 0, .int .i64 0, .int .i64 0, .slice none 0 0] 40)).alloc (.cells #[.int .i64 v.kind, .int .i64 v.n, .slice none 0 0] 38)) := by
  have q3 : Quiet w (((w.alloc (.cells x.vals 47)).alloc (.cells #[.int .i64 0, .int .i64 0, .int .i64 0, .int .i64 0, .slice none 0 0] 40)).alloc (.cells #[.int .i64 v.kind, .int .i64 v.n, .slice none 0 0] 38)) := ((Kp.alloc _ _).trans (Kp.alloc _ _)).trans (Kp.alloc _ _)
  obtain ⟨a, b, c⟩ := three_new w (.cells x.vals 47) (.cells #[.int .i64 0, .int .i64 0, .int .i64 0, .int .i64 0, .slice none 0 0] 40) (.cells #[.int .i64 v.kind, .int .i64 v.n, .slice none 0 0] 38)
  refine ⟨H.step q3 (fun i hi e => ?_) (fun i e => ?_), GoesH.quiet M q q3, a, b, by rw [hv.1]; exact c, hv, Nat.le_refl _⟩
  · rcases e with e | e
    · omega
    · exact e
  · rcases e with e | e
    · simp; omega
    · exact Nat.lt_of_lt_of_le (H.xo i e).1 q3.size
theorem HC.more {x : Sx} {v : V} (H : HC X M q h x w 3 v W) (hz : W.heap.size = w.heap.size + 3) (o : Obj) : HC X M q h x w 4 v (W.alloc o) := by
  have q1 : Quiet W (W.alloc o) := Kp.alloc _ _
  refine ⟨H.s.step q1 (fun i hi e => ?_) (fun i e => ?_), H.g.trans (GoesH.quiet M q q1), (q1.block _ (lt_of_block H.b0) fun e => e).trans H.b0, (q1.block _ (lt_of_block H.b1) fun e => e).trans H.b1, (q1.block _ (lt_of_block H.b2) fun e => e).trans H.b2, H.l, by decide⟩
  · rcases e with e | e
    · exact .inl (by omega)
    · exact .inr e
  · rcases e with e | e
    · simp; omega
    · exact Nat.lt_of_lt_of_le (H.s.xo i (.inr e)).1 q1.size
theorem HC.drew {x : Sx} {v : V} {n : Nat} (H : HC X M q h x w n v W) : HC X M q h x w n v W.drew := ⟨H.s.quiet (Kp.drew _), H.g.trans (GoesH.quiet M q (Kp.drew _)), H.b0, H.b1, H.b2, H.l, H.n3⟩
theorem RunXQ.kp {Y : Nat → Prop} {B bb g wd : Nat} {vn vo vl : Value} {ms : Mods} {R : Except Int V × Int × Sg} {e : Ending} (H : RunXQ Y B bb g wd vn vo vl ms R w e w') : Kp (OwnB bb g wd vn vo vl) w w' := by
  obtain ⟨_, _, _, _, _, _, _, _, g, _⟩ := H
  exact g.kp
theorem HC.cells {x : Sx} {v : V} (H : HC X M q h x w 3 v W) (k : Kp (fun i => OwnB M.bb M.g M.wd q.n q.o q.l i ∨ W.heap.size ≤ i) W w') :
    w'.cell? ⟨M.hb, 0, none⟩ = some (.pointer (some ⟨M.bb, 0, none⟩)) ∧ (w'.cell? ⟨w.heap.size, 1, none⟩ = some (.int .i64 x.p) ∧ w'.cell? ⟨w.heap.size, 3, none⟩ = some (.int .i64 x.k)) ∧ w'.cell? ⟨w.heap.size + 1 + 1, 0, none⟩ = some (.int .i64 v.kind) ∧ w'.cell? ⟨w.heap.size + 1 + 1, 1, none⟩ = some (.int .i64 v.n) ∧ w'.cell? ⟨w.heap.size + 1 + 1, 2, none⟩ = some (.slice none 0 0) := by
  have key : ∀ (i : Nat) (o : Obj), W.heap[i]? = some o → ¬ OwnB M.bb M.g M.wd q.n q.o q.l i → ¬ (OwnB M.bb M.g M.wd q.n q.o q.l i ∨ W.heap.size ≤ i) := fun i o ho hn e => by
    rcases e with e | e
    · exact hn e
    · have := lt_of_block ho; omega
  have n1 := key _ _ H.s.obj H.s.bfree.1
  have n2 := key _ _ H.b0 fun e => (H.s.xo w.heap.size (.inl (by omega))).2 (.inl e)
  have n3 := key _ _ H.b2 fun e => (H.s.xo (w.heap.size + 1 + 1) (.inl (by omega))).2 (.inl e)
  obtain ⟨c0, c1, c2, c3, _⟩ := nine_at H.b0
  obtain ⟨d0, d1, d2⟩ := box_cells H.b2
  rw [H.l.1] at d2
  exact ⟨k.cell H.s.cells.1 n1, ⟨k.cell c1 n2, k.cell c3 n2⟩, k.cell d0 n3, k.cell d1 n3, k.cell d2 n3⟩
theorem HC.run {x : Sx} {v : V} {n : Nat} (H : HC X M q h x w n v W) (hes : h.s.es.length ≤ 900000) : Calls Tryz.prog 73 #[.pointer (some ⟨M.bb, 0, none⟩), .int .i64 x.p, .int .i64 x.k, .agg #[.int .i64 v.kind, .int .i64 v.n, .slice none 0 0], .int .i64 2000] W fun e w' => RunXQ (fun k => OwnX M q k ∨ XC w n X k) M.B M.bb M.g M.wd q.n q.o q.l h.ms (runR h.ms x.p x.k v 2000 h.s) W e w' := by
  have hs : v.size ≤ 500 := by rw [size_eq, H.l.1, sizes_nil]; omega
  have h1 := run_x (fun k => OwnX M q k ∨ XC w n X k) M.B M.bb M.g M.wd q.n q.o q.l h.ms h.s x.p x.k 2000 v none 0 W H.s.box (fun k e => by
    rcases e with e | e
    · exact (H.s.own k (.inr e)).2
    · exact (H.s.xo k e).1) H.s.fit H.s.ci hes (safe_leaf v H.l.2 H.l.1 none) hs
  rw [H.l.1] at h1
  exact h1
structure HD (X : Nat → Prop) (M : Hx) (q : Hq) (h : Hs) (w : World) (v : V) (ao : Option Addr) (cap nb : Nat) (w4 : World) : Prop where
  is : ∃ (Y : Nat → Prop) (q3 : Hq), HouseS Y M q3 h w4 ∧ GoesH M q w q3 w4 ∧ Y (w.heap.size + 1) ∧ Y nb ∧ SafeF (fun k => OwnH M q3 k ∨ Y k) (fun w => Is w v ao) w4 ∧ ∀ k, X k → Y k
  b1 : w4.heap[w.heap.size + 1]? = some (.cells #[.int .i64 0, .int .i64 0, .int .i64 0, .int .i64 0, .slice none 0 0] 40 (0, 0))
  b2 : w4.heap[nb]? = some (.cells #[.int .i64 v.kind, .int .i64 v.n, .slice ao v.l.length cap] 38 (0, 0))
  lo : w.heap.size ≤ nb
theorem HC.ran {x : Sx} {v : V} {n : Nat} {e : Ending} (H : HC X M q h x w n v W) (hr : RunXQ (fun k => OwnX M q k ∨ XC w n X k) M.B M.bb M.g M.wd q.n q.o q.l h.ms (runR h.ms x.p x.k v 2000 h.s) W e w3) :
    ∃ q3 ao cap, e = .returned (.tuple #[.agg #[.int .i64 (gotV (runR h.ms x.p x.k v 2000 h.s).1).kind, .int .i64 (gotV (runR h.ms x.p x.k v 2000 h.s).1).n, .slice ao (gotV (runR h.ms x.p x.k v 2000 h.s).1).l.length cap], .int .i64 (runR h.ms x.p x.k v 2000 h.s).2.1, .int .i64 (gotC (runR h.ms x.p x.k v 2000 h.s).1)]) ∧ HouseS (XC w n X) M q3 (runH h x.p x.k v).2 w3 ∧ GoesH M q w q3 w3 ∧ SafeF (fun k => OwnH M q3 k ∨ XC w n X k) (fun w => Is w (gotV (runR h.ms x.p x.k v 2000 h.s).1) ao) w3 ∧
    w3.heap[w.heap.size + 1]? = some (.cells #[.int .i64 0, .int .i64 0, .int .i64 0, .int .i64 0, .slice none 0 0] 40 (0, 0)) := by
  have hk := hr.kp
  obtain ⟨q3, ao, cap, he, h3, g3, s3⟩ := H.s.run hr
  have hn3 := H.n3
  exact ⟨q3, ao, cap, he, h3, H.g.trans g3, s3, (hk.block _ (lt_of_block H.b1) fun e => (H.s.xo _ (.inl (by omega))).2 (.inl e)).trans H.b1⟩
theorem HD.first {q3 : Hq} {v : V} {ao : Option Addr} {n : Nat} (hn : 3 ≤ n) (h3 : HouseS (XC w n X) M q3 h w3) (g3 : GoesH M q w q3 w3) (s3 : SafeF (fun k => OwnH M q3 k ∨ XC w n X k) (fun w => Is w v ao) w3) (b1 : w3.heap[w.heap.size + 1]? = some (.cells #[.int .i64 0, .int .i64 0, .int .i64 0, .int .i64 0, .slice none 0 0] 40 (0, 0))) (cap : Nat) :
    HD X M q h w v ao cap w3.heap.size (w3.alloc (.cells #[.int .i64 v.kind, .int .i64 v.n, .slice ao v.l.length cap] 38)) := by
  have q1 : Quiet w3 (w3.alloc (.cells #[.int .i64 v.kind, .int .i64 v.n, .slice ao v.l.length cap] 38)) := Kp.alloc _ _
  have hX : ∀ i, i < w3.heap.size → (XC w n X i ∨ i = w3.heap.size) → XC w n X i := fun i hi e => by
    rcases e with e | e
    · exact e
    · omega
  refine ⟨⟨fun k => XC w n X k ∨ k = w3.heap.size, q3, h3.step q1 hX fun i e => ?_, g3.trans (GoesH.quiet M q3 q1), .inl (.inl (by omega)), .inr rfl, s3.step (q1.mono fun _ _ e => e.elim) fun k hk e => ?_, fun k e => .inl (.inr e)⟩, (q1.block _ (lt_of_block b1) fun e => e).trans b1, heap_alloc_new w3 _, g3.kp.size⟩
  · rcases e with e | e
    · exact Nat.lt_of_lt_of_le (h3.xo i e).1 q1.size
    · rw [e]; simp
  · rcases e with e | e
    · exact .inl e
    · exact .inr (hX k hk e)
theorem HD.second {q3 : Hq} {v : V} {ao : Option Addr} {nb : Nat} {t0 t1 t2 : Value} (hnb : nb = w.heap.size + 3) (h3 : HouseS (XC w 4 X) M q3 h w3) (g3 : GoesH M q w q3 w3) (s3 : SafeF (fun k => OwnH M q3 k ∨ XC w 4 X k) (fun w => Is w v ao) w3) (b1 : w3.heap[w.heap.size + 1]? = some (.cells #[.int .i64 0, .int .i64 0, .int .i64 0, .int .i64 0, .slice none 0 0] 40 (0, 0))) (bn : w3.heap[nb]? = some (.cells #[t0, t1, t2] 38 (0, 0))) (cap : Nat) :
    HD X M q h w v ao cap nb (((w3.setCell ⟨nb, 0, none⟩ (.int .i64 v.kind)).setCell ⟨nb, 1, none⟩ (.int .i64 v.n)).setCell ⟨nb, 2, none⟩ (.slice ao v.l.length cap)) := by
  have k1 := three_set w3 nb (.int .i64 v.kind) (.int .i64 v.n) (.slice ao v.l.length cap)
  have xn : XC w 4 X nb := .inl (by omega)
  refine ⟨⟨XC w 4 X, q3, h3.turn k1 (fun i e => e ▸ xn) (fun i cs t hi ht e => ?_), g3.fresh (k1.mono fun i _ e => by omega), .inl (by omega), xn, s3.step (k1.mono fun i _ e => .inr (e ▸ xn)) fun _ _ e => e, fun k e => .inr e⟩, (k1.block _ (lt_of_block b1) (by omega)).trans b1, three_put bn _ _ _, by omega⟩
  rw [e, bn] at hi
  simp at hi
  rcases ht with ht | ht <;> rw [ht] at hi <;> exact absurd hi.2 (by decide)
theorem HD.done {v : V} {ao : Option Addr} {cap nb : Nat} {w4 w5 : World} {R : Evt × Hs} (H : HD X M q R.2 w v ao cap nb w4) (k5 : Kp (fun k => k = w.heap.size + 1) w4 w5) (hv : R.1.v = v) : HDoQ X M q R w (.returned (.agg #[.int .i64 R.1.code, .int .i64 R.1.fuel, .int .i64 v.kind, .int .i64 v.n, .slice ao v.l.length cap])) w5 := by
  obtain ⟨Y, q3, h4, g4, y1, y2, s4, hXY⟩ := H.is
  have h5 := h4.turn k5 (fun i e => e ▸ y1) (fun i cs t hi ht e => by
    rw [e, H.b1] at hi
    simp at hi
    rcases ht with ht | ht <;> rw [ht] at hi <;> exact absurd hi.2 (by decide))
  refine ⟨q3, ao, cap, by rw [hv], h5.step (Kp.refl _ _) (fun i _ e => hXY i e) (fun i e => (h5.xo i (hXY i e)).1), g4.fresh (k5.mono fun i _ e => by omega), ?_⟩
  rw [hv]
  refine s4.step (k5.mono fun i _ e => .inr (e ▸ y1)) fun k _ e => ?_
  rcases e with e | e
  · exact .inl e
  · exact .inr (hXY k e)
theorem evt_got (o : Except Int V × Int × Sg) : (evtR o).code = gotC o.1 ∧ (evtR o).fuel = o.2.1 ∧ (evtR o).v = gotV o.1 := by
  obtain ⟨a, b, c⟩ := o
  cases a <;> exact ⟨rfl, rfl, rfl⟩
set_option maxRecDepth 8000 in
set_option maxHeartbeats 2000000 in
theorem xcall_int (H : HouseS X M q h w) (x : Sx) (hx : x.Fit) (hes : h.s.es.length ≤ 900000) (hneg : x.h < 0) : Calls Tryz.prog 47 #[.pointer (some ⟨M.hb, 0, none⟩), .agg x.vals] w fun e w' => HDoQ X M q (runH h x.p x.k (intV x.n)) w e w' := by
  have HS0 := HC.start H x (intV x.n) ⟨rfl, small_in 1 (by decide), hx.n⟩
  obtain ⟨W, hW⟩ : ∃ W, W = (((w.alloc (.cells x.vals 47)).alloc (.cells #[.int .i64 0, .int .i64 0, .int .i64 0, .int .i64 0, .slice none 0 0] 40)).alloc (.cells #[.int .i64 1, .int .i64 x.n, .slice none 0 0] 38)) := ⟨_, rfl⟩
  have HS0 : HC X M q h x w 3 (intV x.n) W := by rw [hW]; exact HS0
  have HS := hid HS0
  have hz : W.heap.size = w.heap.size + 3 := by rw [hW]; simp
  have HA := hid (HS0.drew.run hes)
  have HB0 := HS0.more hz (.cells #[.int .i64 0, .int .i64 0, .slice none 0 0] 38)
  have HB := hid (And.intro HB0.drew (HB0.drew.run hes))
  have HZ := hid hz
  have HE := hid (evt_got (runR h.ms x.p x.k (intV x.n) 2000 h.s))
  have sAll := hid (fun (w' : World) (z : Kp (fun i => OwnB M.bb M.g M.wd q.n q.o q.l i ∨ W.heap.size ≤ i) W w') => HS0.cells z)
  clear H hes hx HS0 HB0 hz
  obtain ⟨kind, p, qq, k, hh, r, g, n, fs, fa, fc⟩ := x
  simp only [Sx.vals, intV] at *
  have hn : ¬ 0 ≤ hh := by omega
  have hd : decide (0 ≤ hh) = false := by simpa using hn
  go_enter Tryz.func47, Tryz.ntmps47
  go_wp2_with fail
  rw [← hW]
  clear hW
  have z0 : Kp (fun i => OwnB M.bb M.g M.wd q.n q.o q.l i ∨ W.heap.size ≤ i) W W.drew := Kp.drew _
  go_region_held3 (fun w' => w'.cell? ⟨M.hb, 0, none⟩ = some (.pointer (some ⟨M.bb, 0, none⟩)) ∧ (w'.cell? ⟨w.heap.size, 1, none⟩ = some (.int .i64 p) ∧ w'.cell? ⟨w.heap.size, 3, none⟩ = some (.int .i64 k)) ∧ w'.cell? ⟨w.heap.size + 1 + 1, 0, none⟩ = some (.int .i64 1) ∧ w'.cell? ⟨w.heap.size + 1 + 1, 1, none⟩ = some (.int .i64 n) ∧ w'.cell? ⟨w.heap.size + 1 + 1, 2, none⟩ = some (.slice none 0 0)) ((refine sAll.out _ ?_; first | assumption | exact Kp.alloc _ _ | exact (Kp.alloc _ _).trans (Kp.drew _) | exact z3.trans (Kp.alloc _ _) | exact z3.trans ((three_set _ W.heap.size _ _ _).mono fun i _ e => .inr (by omega))))
    (first
      | (go_at_call 73; refine HA.out.mono ?_; rintro e w3 hq3; have z3 := z0.trans (hq3.kp.mono fun i _ e => Or.inl e); obtain ⟨q3, ao, cap, rfl, h3, g3, s3, b3⟩ := HS.out.drew.ran hq3; have H3 := hid (HD.first (by decide) h3 g3 s3 b3 cap); have HW := hid True.intro; clear hq3 z0 h3 g3 s3 b3)
      | (go_at_call 73; refine HB.out.2.mono ?_; rintro e w3 hq3; have z3 := ((Kp.alloc (F := fun i => OwnB M.bb M.g M.wd q.n q.o q.l i ∨ W.heap.size ≤ i) W _).trans (Kp.drew _)).trans (hq3.kp.mono fun i _ e => Or.inl e); obtain ⟨q3, ao, cap, rfl, h3, g3, s3, b3⟩ := HB.out.1.ran hq3; have bn := (hq3.kp.block _ (by simp) (fun e => (HB.out.1.s.xo W.heap.size (.inl (by have := HZ.out; omega))).2 (.inl e))).trans (heap_alloc_new W (.cells #[.int .i64 0, .int .i64 0, .slice none 0 0] 38)); obtain ⟨m0, m1, m2⟩ := box_cells bn; obtain ⟨f0, f1, f2⟩ := box_free3 bn; have hz3 := lt_of_block bn; have H3 := hid (HD.second HZ.out h3 g3 s3 b3 bn cap); clear hq3 z0 h3 g3 s3 b3 bn))
  · generalize gotV (runR h.ms p k ⟨1, n, []⟩ 2000 h.s).1 = v at *
    generalize (runR h.ms p k ⟨1, n, []⟩ 2000 h.s).2.1 = fu at *
    generalize gotC (runR h.ms p k ⟨1, n, []⟩ 2000 h.s).1 = co at *
    generalize w3.alloc (.cells #[.int .i64 v.kind, .int .i64 v.n, .slice ao v.l.length cap] 38) = W4 at *
    have hb1 := H3.out.b1
    obtain ⟨t0, t1, t2⟩ := box_cells H3.out.b2
    obtain ⟨⟨y0, y1, y2, y3, y4⟩, x0, x1, x2, x3, x4⟩ := evt_cells hb1
    have hl1 := lt_of_block hb1
    clear hb1
    go_wp2
    have hb5 := evt_put H3.out.b1 (.int .i64 co) (.int .i64 fu) (.int .i64 v.kind) (.int .i64 v.n) (.slice ao v.l.length cap)
    have k5 := evt_set W4 (w.heap.size + 1) (.int .i64 co) (.int .i64 fu) (.int .i64 v.kind) (.int .i64 v.n) (.slice ao v.l.length cap)
    generalize ((((W4.setCell ⟨w.heap.size + 1, 0, none⟩ (.int .i64 co)).setCell ⟨w.heap.size + 1, 1, none⟩ (.int .i64 fu)).setCell ⟨w.heap.size + 1, 2, none⟩ (.int .i64 v.kind)).setCell ⟨w.heap.size + 1, 3, none⟩ (.int .i64 v.n)).setCell ⟨w.heap.size + 1, 4, none⟩ (.slice ao v.l.length cap) = W5 at *
    obtain ⟨⟨u0, u1, u2, u3, u4⟩, _⟩ := evt_cells hb5
    refine bodyPost_ret (v := .agg #[.int .i64 co, .int .i64 fu, .int .i64 v.kind, .int .i64 v.n, .slice ao v.l.length cap]) (by simp [results, Tryz.results47, go_sem, u0, u1, u2, u3, u4]) rfl ?_
    have hd := HD.done H3.out k5 HE.out.2.2
    rw [show (runH h p k ⟨1, n, []⟩).1.code = co from HE.out.1, show (runH h p k ⟨1, n, []⟩).1.fuel = fu from HE.out.2.1] at hd
    exact hd
  · generalize gotV (runR h.ms p k ⟨1, n, []⟩ 2000 h.s).1 = v at *
    generalize (runR h.ms p k ⟨1, n, []⟩ 2000 h.s).2.1 = fu at *
    generalize gotC (runR h.ms p k ⟨1, n, []⟩ 2000 h.s).1 = co at *
    generalize ((w3.setCell ⟨W.heap.size, 0, none⟩ (.int .i64 v.kind)).setCell ⟨W.heap.size, 1, none⟩ (.int .i64 v.n)).setCell ⟨W.heap.size, 2, none⟩ (.slice ao v.l.length cap) = W4 at *
    have hb1 := H3.out.b1
    obtain ⟨t0, t1, t2⟩ := box_cells H3.out.b2
    obtain ⟨⟨y0, y1, y2, y3, y4⟩, x0, x1, x2, x3, x4⟩ := evt_cells hb1
    have hl1 := lt_of_block hb1
    clear hb1
    go_wp2
    have hb5 := evt_put H3.out.b1 (.int .i64 co) (.int .i64 fu) (.int .i64 v.kind) (.int .i64 v.n) (.slice ao v.l.length cap)
    have k5 := evt_set W4 (w.heap.size + 1) (.int .i64 co) (.int .i64 fu) (.int .i64 v.kind) (.int .i64 v.n) (.slice ao v.l.length cap)
    generalize ((((W4.setCell ⟨w.heap.size + 1, 0, none⟩ (.int .i64 co)).setCell ⟨w.heap.size + 1, 1, none⟩ (.int .i64 fu)).setCell ⟨w.heap.size + 1, 2, none⟩ (.int .i64 v.kind)).setCell ⟨w.heap.size + 1, 3, none⟩ (.int .i64 v.n)).setCell ⟨w.heap.size + 1, 4, none⟩ (.slice ao v.l.length cap) = W5 at *
    obtain ⟨⟨u0, u1, u2, u3, u4⟩, _⟩ := evt_cells hb5
    refine bodyPost_ret (v := .agg #[.int .i64 co, .int .i64 fu, .int .i64 v.kind, .int .i64 v.n, .slice ao v.l.length cap]) (by simp [results, Tryz.results47, go_sem, u0, u1, u2, u3, u4]) rfl ?_
    have hd := HD.done H3.out k5 HE.out.2.2
    rw [show (runH h p k ⟨1, n, []⟩).1.code = co from HE.out.1, show (runH h p k ⟨1, n, []⟩).1.fuel = fu from HE.out.2.1] at hd
    exact hd
set_option maxRecDepth 8000 in
set_option maxHeartbeats 2000000 in
theorem xcall_none (H : HouseS X M q h w) (x : Sx) (h0 : 0 ≤ x.h) (hl : ((handOf h x.p).length : Int) ≤ x.h) : Calls Tryz.prog 47 #[.pointer (some ⟨M.hb, 0, none⟩), .agg x.vals] w fun e w' => HDoQ X M q (⟨8, 0, v0⟩, h) w e w' := by
  obtain ⟨hrow, _⟩ := handW_row H x.p
  have q0 : Quiet w (((w.alloc (.cells x.vals 47)).alloc (.cells #[.int .i64 0, .int .i64 0, .int .i64 0, .int .i64 0, .slice none 0 0] 40)).alloc (.cells #[.int .i64 1, .int .i64 x.n, .slice none 0 0] 38)) := ((Kp.alloc _ _).trans (Kp.alloc _ _)).trans (Kp.alloc _ _)
  have HX := hid (xhand_any (H.quiet q0) x.p)
  obtain ⟨ao1, cap1, es⟩ := Gr.owns_shape hrow
  rw [es] at HX
  obtain ⟨_, b1, _⟩ := three_new w (.cells x.vals 47) (.cells #[.int .i64 0, .int .i64 0, .int .i64 0, .int .i64 0, .slice none 0 0] 40) (.cells #[.int .i64 1, .int .i64 x.n, .slice none 0 0] 38)
  have HH := hid (And.intro H (And.intro q0 b1))
  generalize hnl : (handOf h x.p).length = nl at *
  clear H q0 hrow es hnl b1
  obtain ⟨kind, p, qq, k, hh, r, g, n, fs, fa, fc⟩ := x
  simp only [Sx.vals] at *
  go_enter Tryz.func47, Tryz.ntmps47
  go_wp2_with (go_at_call 35; refine HX.out.mono ?_; rintro e w' ⟨rfl, h2⟩; replace h2 := h2.symm; subst h2)
  refine bodyPost_ret (v := .agg #[.int .i64 8, .int .i64 0, .int .i64 0, .int .i64 0, .slice none 0 0]) (by simp [results, Tryz.results47, go_sem]) rfl ?_
  have q9 : Quiet w (((w.alloc (.cells #[.int .i64 kind, .int .i64 p, .int .i64 qq, .int .i64 k, .int .i64 hh, .int .i64 r, .int .i64 g, .int .i64 n, .slice fa fs.length fc] 47)).alloc (.cells #[.int .i64 8, .int .i64 0, .int .i64 0, .int .i64 0, .slice none 0 0] 40)).alloc (.cells #[.int .i64 1, .int .i64 n, .slice none 0 0] 38)) := ((Kp.alloc _ _).trans (Kp.alloc _ _)).trans (Kp.alloc _ _)
  exact ⟨q, none, 0, rfl, HH.out.1.quiet q9, GoesH.quiet M q q9, safe_leaf v0 v0_fits rfl none⟩
set_option maxRecDepth 8000 in
set_option maxHeartbeats 2000000 in
theorem xcall_thing (H : HouseS X M q h w) (x : Sx) (hes : h.s.es.length ≤ 900000) (v1 : V) (i1 : Nat) (hi1 : x.h = (i1 : Int)) (hv1 : (handOf h x.p)[i1]? = some v1) : Calls Tryz.prog 47 #[.pointer (some ⟨M.hb, 0, none⟩), .agg x.vals] w fun e w' => HDoQ X M q (runH h x.p x.k v1) w e w' := by
  obtain ⟨hrow, hleaf⟩ := handW_row H x.p
  have hl1 := hleaf v1 (List.mem_of_getElem? hv1)
  have HS0 := HC.start H x v1 hl1
  obtain ⟨W, hW⟩ : ∃ W, W = (((w.alloc (.cells x.vals 47)).alloc (.cells #[.int .i64 0, .int .i64 0, .int .i64 0, .int .i64 0, .slice none 0 0] 40)).alloc (.cells #[.int .i64 v1.kind, .int .i64 v1.n, .slice none 0 0] 38)) := ⟨_, rfl⟩
  have HS0 : HC X M q h x w 3 v1 W := by rw [hW]; exact HS0
  have HS := hid HS0
  have hz : W.heap.size = w.heap.size + 3 := by rw [hW]; simp
  have HA := hid (HS0.drew.run hes)
  have HB0 := HS0.more hz (.cells #[.int .i64 0, .int .i64 0, .slice none 0 0] 38)
  have HB := hid (And.intro HB0.drew (HB0.drew.run hes))
  have HZ := hid hz
  have HE := hid (evt_got (runR h.ms x.p x.k v1 2000 h.s))
  have sAll := hid (fun (w' : World) (z : Kp (fun i => OwnB M.bb M.g M.wd q.n q.o q.l i ∨ W.heap.size ≤ i) W w') => HS0.cells z)
  have q0 : Quiet w (((w.alloc (.cells x.vals 47)).alloc (.cells #[.int .i64 0, .int .i64 0, .int .i64 0, .int .i64 0, .slice none 0 0] 40)).alloc (.cells #[.int .i64 1, .int .i64 x.n, .slice none 0 0] 38)) := ((Kp.alloc _ _).trans (Kp.alloc _ _)).trans (Kp.alloc _ _)
  have HX := hid (xhand_any (H.quiet q0) x.p)
  obtain ⟨ao1, cap1, es⟩ := Gr.owns_shape hrow
  rw [es] at HX hrow
  have hil : i1 < (handOf h x.p).length := (List.getElem?_eq_some_iff.1 hv1).1
  obtain ⟨g1, rfl, hc1⟩ := Gr.owns_at hrow (by omega)
  have key : ∀ j, j < 3 → (((w.alloc (.cells x.vals 47)).alloc (.cells #[.int .i64 0, .int .i64 0, .int .i64 0, .int .i64 0, .slice none 0 0] 40)).alloc (.cells #[.int .i64 1, .int .i64 x.n, .slice none 0 0] 38)).cell? ⟨g1, i1 * 3 + j, none⟩ = (tri (v1, none, 0))[j]? := fun j hj => by
    have h1 := hc1 (i1 * 3 + j) (by omega)
    have e1 : (hd (handOf h x.p))[i1]'(by simp [hd]; exact hil) = (v1, none, 0) := by
      have := (List.getElem?_eq_some_iff.1 hv1).2
      simp [hd, this]
    rw [tris_at _ i1 j (by simp [hd]; exact hil) hj, e1] at h1
    have hj3 : j < (tri (v1, none, 0)).length := hj
    rw [List.getElem?_eq_getElem hj3] at h1 ⊢
    exact q0.cell h1 fun e => e
  have a0 := key 0 (by decide)
  have a1 := key 1 (by decide)
  have a2 := key 2 (by decide)
  simp only [tri, hl1.1, List.getElem?_cons_zero, List.getElem?_cons_succ, List.length_nil, Nat.add_zero] at a0 a1 a2
  generalize hnl : (handOf h x.p).length = nl at *
  have hi2 : (i1 : Int) < nl := by omega
  have hn0 : ¬ (nl : Int) ≤ i1 := by omega
  clear H hes HS0 HB0 hz key hc1 hrow hleaf hl1 hv1 es hnl q0
  obtain ⟨kind, p, qq, k, hh, r, g, n, fs, fa, fc⟩ := x
  simp only [Sx.vals] at *
  subst hi1
  go_enter Tryz.func47, Tryz.ntmps47
  go_wp2_with (go_at_call 35; refine HX.out.mono ?_; rintro e w' ⟨rfl, h2⟩; replace h2 := h2.symm; subst h2)
  rw [← hW]
  clear hW
  have z0 : Kp (fun i => OwnB M.bb M.g M.wd q.n q.o q.l i ∨ W.heap.size ≤ i) W W.drew := Kp.drew _
  go_region_held3 (fun w' => w'.cell? ⟨M.hb, 0, none⟩ = some (.pointer (some ⟨M.bb, 0, none⟩)) ∧ (w'.cell? ⟨w.heap.size, 1, none⟩ = some (.int .i64 p) ∧ w'.cell? ⟨w.heap.size, 3, none⟩ = some (.int .i64 k)) ∧ w'.cell? ⟨w.heap.size + 1 + 1, 0, none⟩ = some (.int .i64 v1.kind) ∧ w'.cell? ⟨w.heap.size + 1 + 1, 1, none⟩ = some (.int .i64 v1.n) ∧ w'.cell? ⟨w.heap.size + 1 + 1, 2, none⟩ = some (.slice none 0 0)) ((refine sAll.out _ ?_; first | assumption | exact Kp.alloc _ _ | exact (Kp.alloc _ _).trans (Kp.drew _) | exact z3.trans (Kp.alloc _ _) | exact z3.trans ((three_set _ W.heap.size _ _ _).mono fun i _ e => .inr (by omega))))
    (first
      | (go_at_call 73; refine HA.out.mono ?_; rintro e w3 hq3; have z3 := z0.trans (hq3.kp.mono fun i _ e => Or.inl e); obtain ⟨q3, ao, cap, rfl, h3, g3, s3, b3⟩ := HS.out.drew.ran hq3; have H3 := hid (HD.first (by decide) h3 g3 s3 b3 cap); have HW := hid True.intro; clear hq3 z0 h3 g3 s3 b3)
      | (go_at_call 73; refine HB.out.2.mono ?_; rintro e w3 hq3; have z3 := ((Kp.alloc (F := fun i => OwnB M.bb M.g M.wd q.n q.o q.l i ∨ W.heap.size ≤ i) W _).trans (Kp.drew _)).trans (hq3.kp.mono fun i _ e => Or.inl e); obtain ⟨q3, ao, cap, rfl, h3, g3, s3, b3⟩ := HB.out.1.ran hq3; have bn := (hq3.kp.block _ (by simp) (fun e => (HB.out.1.s.xo W.heap.size (.inl (by have := HZ.out; omega))).2 (.inl e))).trans (heap_alloc_new W (.cells #[.int .i64 0, .int .i64 0, .slice none 0 0] 38)); obtain ⟨m0, m1, m2⟩ := box_cells bn; obtain ⟨f0, f1, f2⟩ := box_free3 bn; have hz3 := lt_of_block bn; have H3 := hid (HD.second HZ.out h3 g3 s3 b3 bn cap); clear hq3 z0 h3 g3 s3 b3 bn))
  · generalize gotV (runR h.ms p k v1 2000 h.s).1 = v at *
    generalize (runR h.ms p k v1 2000 h.s).2.1 = fu at *
    generalize gotC (runR h.ms p k v1 2000 h.s).1 = co at *
    generalize w3.alloc (.cells #[.int .i64 v.kind, .int .i64 v.n, .slice ao v.l.length cap] 38) = W4 at *
    have hb1 := H3.out.b1
    obtain ⟨t0, t1, t2⟩ := box_cells H3.out.b2
    obtain ⟨⟨y0, y1, y2, y3, y4⟩, x0, x1, x2, x3, x4⟩ := evt_cells hb1
    have hl1 := lt_of_block hb1
    clear hb1
    go_wp2
    have hb5 := evt_put H3.out.b1 (.int .i64 co) (.int .i64 fu) (.int .i64 v.kind) (.int .i64 v.n) (.slice ao v.l.length cap)
    have k5 := evt_set W4 (w.heap.size + 1) (.int .i64 co) (.int .i64 fu) (.int .i64 v.kind) (.int .i64 v.n) (.slice ao v.l.length cap)
    generalize ((((W4.setCell ⟨w.heap.size + 1, 0, none⟩ (.int .i64 co)).setCell ⟨w.heap.size + 1, 1, none⟩ (.int .i64 fu)).setCell ⟨w.heap.size + 1, 2, none⟩ (.int .i64 v.kind)).setCell ⟨w.heap.size + 1, 3, none⟩ (.int .i64 v.n)).setCell ⟨w.heap.size + 1, 4, none⟩ (.slice ao v.l.length cap) = W5 at *
    obtain ⟨⟨u0, u1, u2, u3, u4⟩, _⟩ := evt_cells hb5
    refine bodyPost_ret (v := .agg #[.int .i64 co, .int .i64 fu, .int .i64 v.kind, .int .i64 v.n, .slice ao v.l.length cap]) (by simp [results, Tryz.results47, go_sem, u0, u1, u2, u3, u4]) rfl ?_
    have hd := HD.done H3.out k5 HE.out.2.2
    rw [show (runH h p k v1).1.code = co from HE.out.1, show (runH h p k v1).1.fuel = fu from HE.out.2.1] at hd
    exact hd
  · generalize gotV (runR h.ms p k v1 2000 h.s).1 = v at *
    generalize (runR h.ms p k v1 2000 h.s).2.1 = fu at *
    generalize gotC (runR h.ms p k v1 2000 h.s).1 = co at *
    generalize ((w3.setCell ⟨W.heap.size, 0, none⟩ (.int .i64 v.kind)).setCell ⟨W.heap.size, 1, none⟩ (.int .i64 v.n)).setCell ⟨W.heap.size, 2, none⟩ (.slice ao v.l.length cap) = W4 at *
    have hb1 := H3.out.b1
    obtain ⟨t0, t1, t2⟩ := box_cells H3.out.b2
    obtain ⟨⟨y0, y1, y2, y3, y4⟩, x0, x1, x2, x3, x4⟩ := evt_cells hb1
    have hl1 := lt_of_block hb1
    clear hb1
    go_wp2
    have hb5 := evt_put H3.out.b1 (.int .i64 co) (.int .i64 fu) (.int .i64 v.kind) (.int .i64 v.n) (.slice ao v.l.length cap)
    have k5 := evt_set W4 (w.heap.size + 1) (.int .i64 co) (.int .i64 fu) (.int .i64 v.kind) (.int .i64 v.n) (.slice ao v.l.length cap)
    generalize ((((W4.setCell ⟨w.heap.size + 1, 0, none⟩ (.int .i64 co)).setCell ⟨w.heap.size + 1, 1, none⟩ (.int .i64 fu)).setCell ⟨w.heap.size + 1, 2, none⟩ (.int .i64 v.kind)).setCell ⟨w.heap.size + 1, 3, none⟩ (.int .i64 v.n)).setCell ⟨w.heap.size + 1, 4, none⟩ (.slice ao v.l.length cap) = W5 at *
    obtain ⟨⟨u0, u1, u2, u3, u4⟩, _⟩ := evt_cells hb5
    refine bodyPost_ret (v := .agg #[.int .i64 co, .int .i64 fu, .int .i64 v.kind, .int .i64 v.n, .slice ao v.l.length cap]) (by simp [results, Tryz.results47, go_sem, u0, u1, u2, u3, u4]) rfl ?_
    have hd := HD.done H3.out k5 HE.out.2.2
    rw [show (runH h p k v1).1.code = co from HE.out.1, show (runH h p k v1).1.fuel = fu from HE.out.2.1] at hd
    exact hd
theorem hcall_any (H : HouseS X M q h w) (x : Sx) (hx : x.Fit) (hes : h.s.es.length ≤ 900000) (c : Int) : Calls Tryz.prog 47 #[.pointer (some ⟨M.hb, 0, none⟩), .agg x.vals] w fun e w' => HDoQ X M q (callH h (x.sp c)) w e w' := by
  have e : callH h (x.sp c) = if 0 ≤ x.h then (if plugB x.p then (match (h.hs.getD x.p.toNat [])[x.h.toNat]? with
    | some v => runH h x.p x.k v
    | none => (⟨8, 0, v0⟩, h)) else (⟨8, 0, v0⟩, h)) else runH h x.p x.k (intV x.n) := rfl
  rw [e]
  clear e
  by_cases h0 : 0 ≤ x.h
  · rw [if_pos h0]
    have hho : handOf h x.p = if plugB x.p then h.hs.getD x.p.toNat [] else [] := by
      unfold handOf plugB
      by_cases e : 0 ≤ x.p ∧ x.p < 4
      · rw [if_pos e, if_pos (by simpa using e)]
      · rw [if_neg e, if_neg (by simpa using e)]
    cases hp : plugB x.p with
    | false =>
      rw [hp, if_neg (by decide)] at hho
      rw [if_neg (by decide)]
      exact xcall_none H x h0 (by rw [hho]; simpa using h0)
    | true =>
      rw [hp, if_pos rfl] at hho
      rw [if_pos rfl]
      cases hv : (h.hs.getD x.p.toNat [])[x.h.toNat]? with
      | none =>
        have := List.getElem?_eq_none_iff.1 hv
        exact xcall_none H x h0 (by rw [hho]; omega)
      | some v => exact xcall_thing H x hes v x.h.toNat (by omega) (by rw [hho]; exact hv)
  · rw [if_neg h0]
    exact xcall_int H x hx hes (by omega)
end
end Go.Proofs.YtkpckmcaeljocaaGreat
