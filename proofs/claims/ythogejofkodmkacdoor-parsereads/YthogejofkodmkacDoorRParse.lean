/- Parse, as the document says it: the states. -/
import Derived.Test.YthogejofkodmkacDoorRExprA
import Derived.Test.YthogejofkodmkacDoorRExprB
import Derived.Test.YthogejofkodmkacDoorRScan
import Derived.Test.YthogejofkodmkacDoorPParse
namespace Go.Proofs.YthogejofkodmkacDoor
open Go.ChangeShapes Go.WideShapes Go.ChangeAt Go.RowKit
theorem rexpr_any (rb : Nat) (e : Int) (all : List Tk) (ao : Option Addr) (cap : Nat) (hl : all.length ≤ 9000) (hF : Fine all) : ∀ (f : Nat) (o : Int) (j : Nat) (w : World), o + (f : Int) = 31 → 0 ≤ o → j ≤ all.length → QB w rb e all ao cap j 0 0 → Calls Tryd.prog 30 #[.pointer (some ⟨rb, 0, none⟩), .int .i64 o] w (OutQ rb e all ao cap w (exprT e f (all.drop j))) := by
  intro f
  induction f with
  | zero =>
    intro o j w ho _ hj h
    obtain rfl : o = 31 := by omega
    exact rexpr_deep h hl hj
  | succ f ih =>
    intro o j w ho ho0 hj h
    cases hm : mustT e lpar (all.drop j) with
    | error x => exact rexpr_open h hl hj hF (by omega) hm
    | ok y => exact rexpr_step h hl hF (by omega) ho0 ih (u := y.1) (r1 := y.2) hm
/-- The state of the loop over functions: all is well so far. -/
structure NOk (W : World) (rb : Nat) (e : Int) (all : List Tk) (ao : Option Addr) (cap : Nat) (tot : Got (List V)) (acc : List V) (j : Nat) (av : Option Addr) (m cv : Nat) (ps : List Kd) (w : World) : Prop where
  box : w.heap[W.heap.size]? = some (.cells #[.slice av m cv] 37 (0, 0))
  row : Row W rb (W.heap.size + 1) acc av m cv ps w
  qb : QB w rb e all ao cap j 0 0
  le : j ≤ all.length
  tot : modFrom e acc (all.drop j) = tot
  few : acc.length + (all.length - j) ≤ 9000
/-- There is a fault. -/
structure NBad (W : World) (rb : Nat) (e : Int) (all : List Tk) (ao : Option Addr) (cap : Nat) (x : Int × Int) (z : Int) (av : Option Addr) (m cv : Nat) (w : World) : Prop where
  box : w.heap[W.heap.size]? = some (.cells #[.slice av m cv] 37 (0, 0))
  qb : QB w rb e all ao cap z x.1 x.2
  kr : Kr rb W w
def NS (W : World) (rb : Nat) (e : Int) (all : List Tk) (ao : Option Addr) (cap : Nat) (tot : Got (List V)) (gk : Nat) (w : World) : Prop :=
  (∃ acc j av m cv ps, NOk W rb e all ao cap tot acc j av m cv ps w ∧ gk = all.length - j + 1) ∨
  (∃ (x : Int × Int) (z : Int) (av : Option Addr) (m cv : Nat), tot = .error x ∧ x.1 ≠ 0 ∧ NBad W rb e all ao cap x z av m cv w ∧ gk = 0)
theorem NOk.kp {W w w' : World} {rb : Nat} {e : Int} {all : List Tk} {ao : Option Addr} {cap : Nat} {tot : Got (List V)} {acc : List V} {j : Nat} {av : Option Addr} {m cv : Nat} {ps : List Kd} (H : NOk W rb e all ao cap tot acc j av m cv ps w) (hr : rb < W.heap.size) (q : Kr rb w w') :
    w'.heap[W.heap.size]? = some (.cells #[.slice av m cv] 37 (0, 0)) ∧ Row W rb (W.heap.size + 1) acc av m cv ps w' :=
  ⟨(q.block _ (lt_of_block H.box) (by omega)).trans H.box, H.row.kp (by omega) q⟩
theorem n_push {W w w3 w1 : World} {rb : Nat} {e : Int} {all : List Tk} {ao : Option Addr} {cap : Nat} {tot : Got (List V)} {acc : List V} {j' : Nat} {av : Option Addr} {m cv : Nat} {ps : List Kd} {v : V} {a : Option Addr} {c gg cp : Nat} {o : Obj} (hb : w.heap[W.heap.size]? = some (.cells #[.slice av m cv] 37 (0, 0))) (H : Row W rb (W.heap.size + 1) acc av m cv ps w) (hr : rb < W.heap.size) (ht : modFrom e (acc ++ [v]) (all.drop j') = tot) (hj' : j' ≤ all.length) (hl : acc.length + 1 + (all.length - j') ≤ 9000)
    (q3 : Kr rb w.drew w3) (hc : Hold w.heap.size none w3 v a) (hs : QB w3 rb e all ao cap j' 0 0)
    (hr1 : w1.ownsRow (W.heap.size + 1) 53 4 (.slice (some ⟨gg, 0, none⟩) (m + 1) cp) (m + 1) (tris ps ++ tri (v, a, c))) (hg : (w3.alloc o).grownBy w1 (Value.slice av m cv).ownBlock) (hat : (Value.slice av m cv).ownBlock = some gg ∨ gg = w3.heap.size + 1) :
    NOk W rb e all ao cap tot (acc ++ [v]) j' (some ⟨gg, 0, none⟩) (m + 1) cp (ps ++ [(v, a, c)]) (w1.setCell ⟨W.heap.size, 0, none⟩ (.slice (some ⟨gg, 0, none⟩) (m + 1) cp)) ∧ w1.cell? ⟨W.heap.size, 0, none⟩ = some (.slice av m cv) ∧ w1.frozen? ⟨W.heap.size, 0, none⟩ = false := by
  obtain ⟨k1, k2, k3⟩ := H.push0 (x := W.heap.size) (j := 0) hr (Nat.lt_succ_self _) (Nat.le_refl _) q3 hc hr1 hg hat
  have hb2 := k3.trans hb
  exact ⟨⟨box_set0 hb2, k1, hs.above k2, hj', ht, by rw [List.length_append, List.length_singleton]; exact hl⟩, box1 hb2, box_free hb2 0⟩
theorem n_junk {W w w3 w1 : World} {rb : Nat} {e : Int} {all : List Tk} {ao : Option Addr} {cap : Nat} {acc : List V} {x : Int × Int} {z : Int} {av av' : Option Addr} {m m' cv cv' : Nat} {ps : List Kd} {o : Obj} (hb : w.heap[W.heap.size]? = some (.cells #[.slice av m cv] 37 (0, 0))) (H : Row W rb (W.heap.size + 1) acc av m cv ps w) (hr : rb < W.heap.size)
    (q3 : Kr rb w.drew w3) (hs : QB w3 rb e all ao cap z x.1 x.2) (hg : (w3.alloc o).grownBy w1 (Value.slice av m cv).ownBlock) :
    NBad W rb e all ao cap x z av' m' cv' (w1.setCell ⟨W.heap.size, 0, none⟩ (.slice av' m' cv')) ∧ w1.cell? ⟨W.heap.size, 0, none⟩ = some (.slice av m cv) ∧ w1.frozen? ⟨W.heap.size, 0, none⟩ = false := by
  obtain ⟨k1, k2, k3⟩ := H.junk (x := W.heap.size) (j := 0) (y := .slice av' m' cv') hr (Nat.lt_succ_self _) (Nat.le_refl _) q3 hg
  have hb2 := k3.trans hb
  exact ⟨⟨box_set0 hb2, hs.above k2, k1⟩, box1 hb2, box_free hb2 0⟩
/-- The box of a reading, at the beginning. -/
theorem qb_begin {w1 w2 : World} {B : Nat} {ao : Option Addr} {cap : Nat} {e : Int} {ts : List Tk} (h : Toks w1 B 33 (.slice ao ts.length cap) ts) (q : Quiet w1 w2) : QB (w2.alloc (.cells #[.slice ao ts.length cap, .int .i64 e, .int .i64 0, .int .i64 0, .int .i64 0] 59)) w2.heap.size e ts ao cap 0 0 0 := by
  refine ⟨heap_alloc_new w2 _, ?_⟩
  intro i t ht
  obtain ⟨g, rfl, h0, h1, h2, h3⟩ := (h.quiet (q.trans (Kp.alloc w2 (.cells #[.slice ao ts.length cap, .int .i64 e, .int .i64 0, .int .i64 0, .int .i64 0] 59)))).tok rfl i t ht
  have hg : g < w2.heap.size := by
    obtain ⟨g', e', k0, _⟩ := (h.quiet q).tok rfl i t ht
    cases e'
    exact World.block_lt_of_cell? _ _ k0
  exact ⟨g, 0, rfl, hg, by rw [Nat.zero_add]; exact h0, by rw [Nat.zero_add]; exact h1, by rw [Nat.zero_add]; exact h2, by rw [Nat.zero_add]; exact h3⟩
end Go.Proofs.YthogejofkodmkacDoor
