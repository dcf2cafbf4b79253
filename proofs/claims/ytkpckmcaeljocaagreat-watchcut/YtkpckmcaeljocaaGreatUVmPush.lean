/- Parts. -/
import Derived.Test.YtkpckmcaeljocaaGreatUM0
namespace Go.Proofs.YtkpckmcaeljocaaGreat
open Go.ChangeShapes Go.WideShapes Go.ChangeAt Go.RowKit
open Gr (Nd Res nd0 thereB deriveOf addOf gateOf cutOf rightsN wayOf gatesOf gatesW targetOf Wf NdOk GS IntsAt)
section
variable {C : Cx} {q : Vs} {s : Sg} {left : Nat} {R : Rw} {w : World} {v : V} {va : Option Addr} {vc : Nat}
theorem set_comm (w : World) (a b : Addr) (x y : Value) (h : a.block ≠ b.block) : (w.setCell a x).setCell b y = (w.setCell b y).setCell a x := by
  unfold World.setCell
  simp only
  congr 1
  apply Array.ext_getElem?
  intro i
  simp only [Array.getElem?_modify]
  by_cases h1 : a.block = i
  · have h2 : ¬ b.block = i := fun e => h (h1.trans e.symm)
    simp [h1, h2]
  · simp [h1]
theorem new_cells {lo gg n cap : Nat} {w1 : World} {ps : List Kd} {z : Kd} (hl : n = ps.length) (h : w1.ownsRow lo 38 3 (.slice (some ⟨gg, 0, none⟩) (n + 1) cap) (n + 1) (tris ps ++ tri z)) :
    (w1.cell? ⟨gg, n * 3, none⟩ = some (.int .i64 z.1.kind) ∧ w1.cell? ⟨gg, n * 3 + 1, none⟩ = some (.int .i64 z.1.n) ∧ w1.cell? ⟨gg, n * 3 + 2, none⟩ = some (.slice z.2.1 z.1.l.length z.2.2)) ∧ gg < w1.heap.size ∧ ∀ j, w1.frozen? ⟨gg, j, none⟩ = false := by
  have hL : (tris ps).length = n * 3 := by rw [tris_len, hl]
  have hc : ∀ j, j < 3 → w1.cell? ⟨gg, n * 3 + j, none⟩ = (tri z)[j]? := fun j hj => by
    rw [h.cellAt (n * 3 + j) (by omega), List.getElem?_append_right (by omega)]
    congr 1
    omega
  exact ⟨⟨hc 0 (by decide), hc 1 (by decide), hc 2 (by decide)⟩, (h.lt gg rfl).2, fun j => h.frozenAt j⟩
theorem push_ends {W w1 : World} {gg cap n : Nat} {p z : Kd} {o : Obj} (H : FrS C q s left R w) (kW : Quiet w W) (hv : SafeF (fun k => C.m.own q k ∨ C.x R k) (fun w => Is w p.1 p.2.1) w) (hn : R.n = n)
    (hr : w1.ownsRow C.w0.heap.size 38 3 (.slice (some ⟨gg, 0, none⟩) (n + 1) cap) (n + 1) (tris R.ps ++ tri z)) (hg : (W.alloc o).grownBy w1 (blk R.sa R.n R.sc)) (hat : blk R.sa R.n R.sc = some gg ∨ gg = W.heap.size + 1) :
    FrS C q s left ⟨some ⟨gg, 0, none⟩, R.n + 1, cap, R.ps ++ [p], R.na, R.m, R.nc, R.qs⟩ ((((w1.setCell ⟨gg, n * 3, none⟩ (.int .i64 p.1.kind)).setCell ⟨gg, n * 3 + 1, none⟩ (.int .i64 p.1.n)).setCell ⟨gg, n * 3 + 2, none⟩ (.slice p.2.1 p.1.l.length p.2.2)).setCell ⟨C.fb, 6, none⟩ (.slice (some ⟨gg, 0, none⟩) (n + 1) cap)) ∧
    FrS C q s left ⟨some ⟨gg, 0, none⟩, R.n + 1, cap, R.ps ++ [p], R.na, R.m, R.nc, R.qs⟩ ((((w1.setCell ⟨C.fb, 6, none⟩ (.slice (some ⟨gg, 0, none⟩) (n + 1) cap)).setCell ⟨gg, n * 3, none⟩ (.int .i64 p.1.kind)).setCell ⟨gg, n * 3 + 1, none⟩ (.int .i64 p.1.n)).setCell ⟨gg, n * 3 + 2, none⟩ (.slice p.2.1 p.1.l.length p.2.2)) ∧
    (w1.cell? ⟨C.fb, 6, none⟩ = some (.slice R.sa R.n R.sc) ∧ w1.frozen? ⟨C.fb, 6, none⟩ = false ∧ C.fb < w1.heap.size) ∧ gg ≠ C.fb := by
  subst hn
  have hl := H.two.ls
  obtain ⟨a3, b3⟩ := lay_row p z hl hr
  have hg4 := grown_then hg b3 (by simpa using hat)
  obtain ⟨f1, f2, f3, f4⟩ := H.push kW hv a3 hg4 hat
  have hne : gg ≠ C.fb := by
    rcases hat with e | e
    · exact (H.rfree _ (.inl e)).2.2.1
    · have := lt_of_block H.fr; have := kW.size; omega
  have hf : (⟨C.fb, 6, none⟩ : Addr).block ≠ gg := fun e => hne e.symm
  refine ⟨f1, ?_, ?_, hne⟩
  · rw [set_comm w1 ⟨C.fb, 6, none⟩ ⟨gg, R.n * 3, none⟩ _ _ hf, set_comm _ ⟨C.fb, 6, none⟩ ⟨gg, R.n * 3 + 1, none⟩ _ _ hf, set_comm _ ⟨C.fb, 6, none⟩ ⟨gg, R.n * 3 + 2, none⟩ _ _ hf]
    exact f1
  · have HW := H.quiet (kW.trans (Kp.alloc W o))
    have k1 : Kp (fun k => blk R.sa R.n R.sc = some k) (W.alloc o) w1 := Kp.grown hg fun k _ e => e.symm
    have hb : w1.heap[C.fb]? = _ := (k1.block _ (lt_of_block HW.fr) fun e => (HW.rfree _ (.inl e)).2.2.1 rfl).trans HW.fr
    exact ⟨by simp [World.cell?, hb], frozen_of_row w1 _ 6 _ _ hb, lt_of_block hb⟩
theorem grown_drew {W w1 : World} {row : Option Nat} (h : W.drew.grownBy w1 row) : W.grownBy w1 row := ⟨h.os, h.tape, h.output, h.size, h.block⟩
set_option maxRecDepth 8000 in
set_option maxHeartbeats 4000000 in
theorem xpush_any (H : FrS C q s left R w) (hv : SafeF (fun k => C.m.own q k ∨ C.x R k) (fun w => Is w v va) w) (hn : R.n ≤ 2000) : Calls Tryz.prog 148 #[.pointer (some ⟨C.fb, 0, none⟩), .agg #[.int .i64 v.kind, .int .i64 v.n, .slice va v.l.length vc]] w fun e w' => e = .returned (.tuple #[]) ∧ ∃ g cap, FrS C q s left ⟨some ⟨g, 0, none⟩, R.n + 1, cap, R.ps ++ [(v, va, vc)], R.na, R.m, R.nc, R.qs⟩ w' := by
  obtain ⟨i0, hi, hz0, hz1, hz2⟩ := info_parts' Tryz.infoV
  have q1 : Quiet w (w.alloc (.cells #[.int .i64 v.kind, .int .i64 v.n, .slice va v.l.length vc] 38)) := Kp.alloc _ _
  have H1 := H.quiet q1
  have c6 := H1.cells.2.2.2.2.2.2
  have B1 := heap_alloc_new w (.cells #[.int .i64 v.kind, .int .i64 v.n, .slice va v.l.length vc] 38)
  obtain ⟨m0, m1, m2⟩ := box_cells B1
  have q2 : Quiet (w.alloc (.cells #[.int .i64 v.kind, .int .i64 v.n, .slice va v.l.length vc] 38)) ((w.alloc (.cells #[.int .i64 v.kind, .int .i64 v.n, .slice va v.l.length vc] 38)).alloc (.cells #[.int .i64 0, .int .i64 0, .slice none 0 0] 38)) := Kp.alloc _ _
  have k6 := (H1.quiet q2).cells.2.2.2.2.2.2
  obtain ⟨k0, k1, k2⟩ := box_cells ((q2.block _ (lt_of_block B1) fun e => e).trans B1)
  obtain ⟨sa, n, sc, ps, na, m, nc, qs⟩ := R
  simp only at hn c6 k6
  have HR := hid H1.two.rs
  have HH := hid (And.intro H1 (safe_quiet hv q1))
  clear H H1 hv q1 q2 B1
  go_enter Tryz.func148, Tryz.ntmps148
  have hlo := Nat.le_trans HH.out.1.went.kp.size (Nat.le_refl _)
  have HZ := hid (show (w.alloc (.cells #[.int .i64 v.kind, .int .i64 v.n, .slice va v.l.length vc] 38)).heap.size = w.heap.size + 1 by simp)
  have hn3 : (n : Int) < (n : Int) + 1 := by omega
  go_wp2
  go_region_law ((refine step_append_lies _ (by rfl) _ _ _ (by rfl) C.w0.heap.size 38 i0 _ 3 40 Tryz.undV hi hz0 hz1 hz2 rfl (by omega) (.slice sa n sc) n (tris ps) (by rfl) ((HR.out.alloc _).drew) ⟨w.heap.size + 1, 0, none⟩ 1 1 (tri (v0, none, 0)) (by rfl) (by rfl) (Gr.news_of (t := 38) (l := tri (v0, none, 0)) (heap_two w _ _)) (tri_one _) (by omega) (by unfold maxLen; omega) (by omega) (by simp at hlo ⊢; omega) (w.heap.size + 2) (by simp) ?_; intro gg cap2 w1 hown1 hgrow hat hlt; obtain ⟨e1, e2, ⟨e3, e4, e5⟩, e6⟩ := push_ends (p := (v, va, vc)) HH.out.1 (Kp.refl _ _) HH.out.2 rfl hown1 (grown_drew hgrow) (by simpa using hat); obtain ⟨⟨d0, d1, d2⟩, d3, d4⟩ := new_cells HH.out.1.two.ls hown1; have HE := hid (And.intro e1 e2); have hd0 := d4 (n * 3); have hd1 := d4 (n * 3 + 1); have hd2 := d4 (n * 3 + 2); have e7 : ¬ C.fb = gg := (fun e => e6 e.symm); clear hown1 hgrow hat e1 e2 d4))
  all_goals
    go_wp2
    go_end0
    first | exact ⟨rfl, _, _, HE.out.1⟩ | exact ⟨rfl, _, _, HE.out.2⟩
end
end Go.Proofs.YtkpckmcaeljocaaGreat
