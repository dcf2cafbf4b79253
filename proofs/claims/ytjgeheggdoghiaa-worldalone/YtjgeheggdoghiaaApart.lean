/- What the rounds of WorldDoes do to memory: the object beside the statement's own cells and its own log. -/
import Derived.Test.YtjgeheggdoghiaaBegun
namespace Go.Proofs.Ytjgeheggdoghiaa
open Go.ChangeShapes Go.WideShapes Go.ChangeAt Go.RowKit
/-- The object (b, its log v), the statement's cells (block c0), the statement's log (vl): all apart. -/
structure RD (B : Nat) (w : World) (b c0 : Nat) (cs cr : List Int) (v : Value) (es : List Ent) (vl : Value) (er : List Ent) : Prop where
  ws : WS B w b cs v es
  row : w.heap[c0]? = some (.cells (longs cr).toArray 2 (0, 0))
  len : cr.length = 12
  log : w.ownsRow B 43 4 vl er.length (entCells er)
  lo : B ≤ c0
  cb : c0 ≠ b
  cv : v.ownBlock ≠ some c0
  cl : vl.ownBlock ≠ some c0
  bl : vl.ownBlock ≠ some b
  vv : ∀ g, v.ownBlock = some g → vl.ownBlock ≠ some g
/-- A block beside all these. -/
structure XB (w : World) (b c0 : Nat) (v vl : Value) (x : Nat) (o : Obj) : Prop where
  at_ : w.heap[x]? = some o
  xb : x ≠ b
  xc : x ≠ c0
  xv : v.ownBlock ≠ some x
  xl : vl.ownBlock ≠ some x
section
variable {B : Nat} {w : World} {b c0 : Nat} {cs cr : List Int} {v : Value} {es : List Ent} {vl : Value} {er : List Ent} {x : Nat} {o : Obj}
theorem RD.kept (h : RD B w b c0 cs cr v es vl er) {w' : World} (hk : Kp (fun _ => False) w w') : RD B w' b c0 cs cr v es vl er :=
  { h with ws := ws_kp h.ws hk, row := (hk.block _ (lt_of_block h.row) id).trans h.row, log := hk.row h.log fun _ _ => id }
theorem XB.kept (h : XB w b c0 v vl x o) {w' : World} (hk : Kp (fun _ => False) w w') : XB w' b c0 v vl x o :=
  { h with at_ := (hk.block _ (lt_of_block h.at_) id).trans h.at_ }
theorem RD.new (h : RD B w b c0 cs cr v es vl er) (o : Obj) : RD B (w.alloc o) b c0 cs cr v es vl er ∧ XB (w.alloc o) b c0 v vl w.heap.size o := by
  refine ⟨h.kept (Kp.alloc w o), heap_alloc_new w o, ?_, ?_, ?_, ?_⟩
  · have := h.ws.obj.lt; omega
  · have := lt_of_block h.row; omega
  · intro e; have := (h.ws.row.lt _ e).2; omega
  · intro e; have := (h.log.lt _ e).2; omega
theorem near_ne {v v' : Value} {x : Nat} (h : Near w v v') (hx : x < w.heap.size) (hv : v.ownBlock ≠ some x) : v'.ownBlock ≠ some x := by
  rcases h with h | h
  · rw [h]; exact hv
  · intro e; have := h x e; omega
theorem RD.goes (h : RD B w b c0 cs cr v es vl er) {v' : Value} {w' : World} {cs' : List Int} {es' : List Ent} (h' : WS B w' b cs' v' es') (hg : Goes b v w v' w') :
    RD B w' b c0 cs' cr v' es' vl er := by
  have hc : ¬ Own b v c0 := fun e => e.elim h.cb h.cv
  refine ⟨h', (hg.kp.block _ (lt_of_block h.row) hc).trans h.row, h.len, hg.kp.row h.log ?_, h.lo, h.cb, near_ne hg.near (lt_of_block h.row) h.cv, h.cl, h.bl, ?_⟩
  · intro k hk e
    rcases e with rfl | e
    · exact h.bl hk
    · exact h.vv k e hk
  · intro g e e2
    rcases hg.near with hn | hn
    · exact h.vv g (hn ▸ e) e2
    · have := hn g e; have := (h.log.lt g e2).2; omega
theorem XB.goes (h : XB w b c0 v vl x o) {v' : Value} {w' : World} (hg : Goes b v w v' w') : XB w' b c0 v' vl x o :=
  ⟨(hg.kp.block _ (lt_of_block h.at_) fun e => e.elim h.xb h.xv).trans h.at_, h.xb, h.xc, near_ne hg.near (lt_of_block h.at_) h.xv, h.xl⟩
theorem RD.appended (h : RD B w b c0 cs cr v es vl er) {o : Obj} {w1 : World} {vl' : Value} {e : Ent} (hr : w1.ownsRow B 43 4 vl' (er.length + 1) (entCells er ++ e.cells)) (hg : (w.alloc o).grownBy w1 vl.ownBlock) (hn : Near (w.alloc o) vl vl') :
    RD B w1 b c0 cs cr v es vl' (er ++ [e]) := by
  have k1 : Kp (fun k => vl.ownBlock = some k) w w1 := (Kp.alloc w o).trans (Kp.grown hg fun k _ e => e.symm)
  have n1 := alloc_near hn
  refine ⟨h.ws.kept k1 ?_, (k1.block _ (lt_of_block h.row) h.cl).trans h.row, h.len, ?_, h.lo, h.cb, h.cv, near_ne n1 (lt_of_block h.row) h.cl, near_ne n1 h.ws.obj.lt h.bl, ?_⟩
  · intro k hk
    rcases hk with rfl | e
    · exact h.bl
    · exact h.vv k e
  · rw [entCells_snoc]; simpa using hr
  · intro g e; exact near_ne n1 (h.ws.row.lt g e).2 (h.vv g e)
theorem XB.appended (h : XB w b c0 v vl x o) {o' : Obj} {w1 : World} {vl' : Value} (hg : (w.alloc o').grownBy w1 vl.ownBlock) (hn : Near (w.alloc o') vl vl') : XB w1 b c0 v vl' x o := by
  have k1 : Kp (fun k => vl.ownBlock = some k) w w1 := (Kp.alloc w o').trans (Kp.grown hg fun k _ e => e.symm)
  exact ⟨(k1.block _ (lt_of_block h.at_) h.xl).trans h.at_, h.xb, h.xc, h.xv, near_ne (alloc_near hn) (lt_of_block h.at_) h.xl⟩
theorem below_appended {w0 : World} (h0 : Below B w0 w) (h : RD B w b c0 cs cr v es vl er) {o : Obj} {w1 : World} (hg : (w.alloc o).grownBy w1 vl.ownBlock) : Below B w0 w1 :=
  (h0.alloc (ws_size h.ws) o).grown hg (by have := ws_size h.ws; simp; omega) fun k e => (h.log.lt k e).1
theorem RD.stored (h : RD B w b c0 cs cr v es vl er) (k : Nat) (y : Int) : RD B (w.setCell ⟨c0, k, none⟩ (.int .i64 y)) b c0 cs (cr.set k y) v es vl er := by
  have k1 : Kp (fun k => k = c0) w (w.setCell ⟨c0, k, none⟩ (.int .i64 y)) := Kp.setCell _ _ _ rfl
  refine ⟨h.ws.kept k1 ?_, ?_, by simp [h.len], k1.row h.log fun g e e2 => h.cl (e2 ▸ e), h.lo, h.cb, h.cv, h.cl, h.bl, h.vv⟩
  · intro g e e2
    rcases e with rfl | e
    · exact h.cb e2.symm
    · exact h.cv (e2 ▸ e)
  · rw [heap_setCell_same w c0 k _ 2 _ h.row]
    congr 2
    apply Array.ext'
    simp [longs, List.map_set]
theorem XB.stored (h : XB w b c0 v vl x o) (k : Nat) (u : Value) : XB (w.setCell ⟨c0, k, none⟩ u) b c0 v vl x o :=
  { h with at_ := (Below.heap_setCell _ _ _ _ h.xc).trans h.at_ }
theorem RD.cell (h : RD B w b c0 cs cr v es vl er) (j : Nat) (hj : j < 12) : w.cell? ⟨c0, j, none⟩ = some (.int .i64 (cr.getD j 0)) := by
  have hl := h.len
  simp only [World.cell?, h.row]
  simp [longs, hl, hj]
theorem RD.free (h : RD B w b c0 cs cr v es vl er) (j : Nat) : w.frozen? ⟨c0, j, none⟩ = false := frozen_of_row w c0 j _ 2 h.row
theorem XB.cells {d p c nd y : Value} (h : XB w b c0 v vl x (.cells #[d, p, c, nd, y] 39 (0, 0))) :
    w.cell? ⟨x, 0, none⟩ = some d ∧ w.cell? ⟨x, 1, none⟩ = some p ∧ w.cell? ⟨x, 2, none⟩ = some c ∧ w.cell? ⟨x, 3, none⟩ = some nd ∧ w.cell? ⟨x, 4, none⟩ = some y := by
  simp [World.cell?, h.at_]
end
structure Stp where
  d : Int
  p : Int
  c : Int
  nd : Int
  y : Int
/-- The steps lie in memory. -/
def Lies (w : World) (ao : Option Addr) (ss : List Stp) : Prop := ∀ k, (hk : k < ss.length) → ∃ a off, ao = some ⟨a, off, none⟩ ∧ a < w.heap.size ∧
  w.cell? ⟨a, off + k * 5, none⟩ = some (.int .i64 ss[k].d) ∧ w.cell? ⟨a, off + k * 5 + 1, none⟩ = some (.int .i64 ss[k].p) ∧ w.cell? ⟨a, off + k * 5 + 2, none⟩ = some (.int .i64 ss[k].c) ∧ w.cell? ⟨a, off + k * 5 + 3, none⟩ = some (.int .i64 ss[k].nd) ∧ w.cell? ⟨a, off + k * 5 + 4, none⟩ = some (.int .i64 ss[k].y)
end Go.Proofs.Ytjgeheggdoghiaa
