/- A row that grows beside a reading. -/
import Derived.Test.YthogejofkodmkacDoorRExpr
import Derived.Test.YthogejofkodmkacDoorGHold
namespace Go.Proofs.YthogejofkodmkacDoor
open Go.ChangeShapes Go.WideShapes Go.ChangeAt Go.RowKit
/-- One more in the row; the box x of one cell that holds it. -/
theorem Row.push0 {W w w3 w1 : World} {rb B x j : Nat} {acc : List V} {av : Option Addr} {m cv : Nat} {ps : List Kd} {v : V} {a : Option Addr} {c g cap : Nat} {o : Obj} (H : Row W rb B acc av m cv ps w) (hr : rb < x) (hx : x < B) (hW : W.heap.size ≤ x)
    (q3 : Kr rb w.drew w3) (hc : Hold w.heap.size none w3 v a)
    (hr1 : w1.ownsRow B 53 4 (.slice (some ⟨g, 0, none⟩) (m + 1) cap) (m + 1) (tris ps ++ tri (v, a, c))) (hg : (w3.alloc o).grownBy w1 (Value.slice av m cv).ownBlock) (hat : (Value.slice av m cv).ownBlock = some g ∨ g = w3.heap.size + 1) :
    Row W rb B (acc ++ [v]) (some ⟨g, 0, none⟩) (m + 1) cap (ps ++ [(v, a, c)]) (w1.setCell ⟨x, j, none⟩ (.slice (some ⟨g, 0, none⟩) (m + 1) cap)) ∧ Kp (fun k => rb < k) w3 (w1.setCell ⟨x, j, none⟩ (.slice (some ⟨g, 0, none⟩) (m + 1) cap)) ∧ w1.heap[x]? = w.heap[x]? := by
  have hm := H.len
  have hs3 : w.heap.size ≤ w3.heap.size := q3.size
  have hs1 : w3.heap.size + 1 ≤ w1.heap.size := by have := hg.size; simpa using this
  have hrb : ∀ b, (Value.slice av m cv).ownBlock = some b → B ≤ b ∧ b < w.heap.size := fun b e => H.row.lt b e
  have hk1 : ∀ b, b < w.heap.size → b ≠ rb → (Value.slice av m cv).ownBlock ≠ some b → w1.heap[b]? = w.heap[b]? := by
    intro b hb hbr hne
    rw [hg.block b (by simp; omega) (fun e => hne e.symm), Below.heap_alloc w3 o b (by omega)]
    exact q3.block b hb hbr
  have hk3 : ∀ b, w.heap.size ≤ b → b < w3.heap.size → w1.heap[b]? = w3.heap[b]? := by
    intro b hb hb3
    rw [hg.block b (by simp; omega) (fun e => by have := hrb b e.symm; omega), Below.heap_alloc w3 o b hb3]
  have hset : ∀ b, b ≠ x → (w1.setCell ⟨x, j, none⟩ (.slice (some ⟨g, 0, none⟩) (m + 1) cap)).heap[b]? = w1.heap[b]? := fun b hb => Below.heap_setCell _ _ _ _ (fun e => hb e)
  have hgl : B ≤ g := by
    rcases hat with e | e
    · exact (hrb g e).1
    · have := H.sz; omega
  refine ⟨⟨?_, ?_, ?_, ?_, ?_, ?_⟩, ?_, ?_⟩
  · have := (Kp.setCell (F := fun b => b = x) w1 ⟨x, j, none⟩ (.slice (some ⟨g, 0, none⟩) (m + 1) cap) rfl).row hr1 (fun b e => by simp [Value.ownBlock] at e; omega)
    rw [tris_app, tris_one]; simpa using this
  · rw [List.length_append, hm]; rfl
  · intro p hp
    have hrow' : (Value.slice (some ⟨g, 0, none⟩) (m + 1) cap).ownBlock = some g := rfl
    rw [hrow']
    rcases List.mem_append.1 hp with hp | hp
    · refine (H.all p hp).step (fun b h1 h2 h3 => ?_) ?_
      · rw [hset b (by omega)]; exact hk1 b h2 (by omega) (fun e => h3 e)
      · rcases hat with e | e
        · exact .inl e.symm
        · exact .inr ⟨g, rfl, by omega⟩
    · simp at hp
      subst hp
      intro w2 h2
      refine hc w2 fun b c t h1 _ h3 => h2 b c t (by have := H.sz; omega) ?_ ((hset b (by have := H.sz; omega)).trans ((hk3 b h1 (lt_of_block h3)).trans h3))
      intro e
      simp at e
      have hb3 := lt_of_block h3
      rcases hat with e' | e'
      · have := hrb g e'; omega
      · omega
  · rw [List.map_append, H.map]; rfl
  · refine ⟨?_, ?_, ?_, ?_, fun b hb hbr => ?_⟩
    · exact (hg.os.trans q3.os).trans H.kr.os
    · exact (hg.tape.trans q3.tape).trans H.kr.tape
    · exact (hg.output.trans q3.output).trans H.kr.output
    · have := H.kr.size; simp [World.setCell]; omega
    · have := H.sz
      rw [hset b (by omega), hk1 b (by omega) hbr (fun e => by have := hrb b e; omega)]; exact H.kr.block b hb hbr
  · have := H.sz; simp [World.setCell]; omega
  · refine ((Kp.alloc (F := fun k => rb < k) w3 o).trans (Kp.grown hg fun k _ e => ?_)).trans (Kp.setCell w1 ⟨x, j, none⟩ _ hr)
    have := hrb k e.symm; omega
  · have := H.sz
    exact hk1 x (by omega) (by omega) (fun e => by have := hrb x e; omega)
/-- One more in the row that nobody looks at again. -/
theorem Row.junk {W w w3 w1 : World} {rb B x j : Nat} {acc : List V} {av : Option Addr} {m cv : Nat} {ps : List Kd} {o : Obj} {y : Value} (H : Row W rb B acc av m cv ps w) (hr : rb < x) (hx : x < B) (hW : W.heap.size ≤ x)
    (q3 : Kr rb w.drew w3) (hg : (w3.alloc o).grownBy w1 (Value.slice av m cv).ownBlock) :
    Kr rb W (w1.setCell ⟨x, j, none⟩ y) ∧ Kp (fun k => rb < k) w3 (w1.setCell ⟨x, j, none⟩ y) ∧ w1.heap[x]? = w.heap[x]? := by
  have hs3 : w.heap.size ≤ w3.heap.size := q3.size
  have hrb : ∀ b, (Value.slice av m cv).ownBlock = some b → B ≤ b ∧ b < w.heap.size := fun b e => H.row.lt b e
  have hk1 : ∀ b, b < w.heap.size → b ≠ rb → (Value.slice av m cv).ownBlock ≠ some b → w1.heap[b]? = w.heap[b]? := by
    intro b hb hbr hne
    rw [hg.block b (by simp; omega) (fun e => hne e.symm), Below.heap_alloc w3 o b (by omega)]
    exact q3.block b hb hbr
  have hs1 : w3.heap.size + 1 ≤ w1.heap.size := by have := hg.size; simpa using this
  have hset : ∀ b, b ≠ x → (w1.setCell ⟨x, j, none⟩ y).heap[b]? = w1.heap[b]? := fun b hb => Below.heap_setCell _ _ _ _ (fun e => hb e)
  refine ⟨⟨?_, ?_, ?_, ?_, fun b hb hbr => ?_⟩, ?_, ?_⟩
  · exact (hg.os.trans q3.os).trans H.kr.os
  · exact (hg.tape.trans q3.tape).trans H.kr.tape
  · exact (hg.output.trans q3.output).trans H.kr.output
  · have := H.kr.size; simp [World.setCell]; omega
  · have := H.sz
    rw [hset b (by omega), hk1 b (by omega) hbr (fun e => by have := hrb b e; omega)]; exact H.kr.block b hb hbr
  · refine ((Kp.alloc (F := fun k => rb < k) w3 o).trans (Kp.grown hg fun k _ e => ?_)).trans (Kp.setCell w1 ⟨x, j, none⟩ _ hr)
    have := hrb k e.symm; omega
  · have := H.sz
    exact hk1 x (by omega) (by omega) (fun e => by have := hrb x e; omega)
/-- The state of the loop over what is in an expression: all is well so far. -/
structure LOk (W : World) (rb : Nat) (e : Int) (all : List Tk) (ao : Option Addr) (cap : Nat) (kd kk kn : Int) (g : List Tk → Got V) (n : Nat) (tot : Got (List V)) (i : Nat) (acc : List V) (j : Nat) (av : Option Addr) (m cv : Nat) (ps : List Kd) (w : World) : Prop where
  box : w.heap[W.heap.size]? = some (.cells #[.int .i64 kd, .int .i64 kk, .int .i64 kn, .slice av m cv] 53 (0, 0))
  row : Row W rb (W.heap.size + 1) acc av m cv ps w
  qb : QB w rb e all ao cap j 0 0
  le : j ≤ all.length
  tot : manyT g (n - i) acc (all.drop j) = tot
  long : acc.length = i
/-- There is a fault. -/
structure LBad (W : World) (rb : Nat) (e : Int) (all : List Tk) (ao : Option Addr) (cap : Nat) (kd kk kn : Int) (x : Int × Int) (z : Int) (av : Option Addr) (m cv : Nat) (w : World) : Prop where
  box : w.heap[W.heap.size]? = some (.cells #[.int .i64 kd, .int .i64 kk, .int .i64 kn, .slice av m cv] 53 (0, 0))
  qb : QB w rb e all ao cap z x.1 x.2
  kr : Kr rb W w
theorem box_put3 {w : World} {x : Nat} {a b c d y : Value} {t : TypeId} (h : w.heap[x]? = some (.cells #[a, b, c, d] t (0, 0))) : (w.setCell ⟨x, 3, none⟩ y).heap[x]? = some (.cells #[a, b, c, y] t (0, 0)) := by
  simp [World.setCell, Array.getElem?_modify, h]
theorem LOk.push {W w w3 w1 : World} {rb : Nat} {e : Int} {all : List Tk} {ao : Option Addr} {cap : Nat} {kd kk kn : Int} {g : List Tk → Got V} {n : Nat} {tot : Got (List V)} {i : Nat} {acc : List V} {j j' : Nat} {r : List Tk} {av : Option Addr} {m cv : Nat} {ps : List Kd} {v : V} {a : Option Addr} {c gg cp : Nat} {o : Obj} (H : LOk W rb e all ao cap kd kk kn g n tot i acc j av m cv ps w) (hr : rb < W.heap.size) (hi : i < n) (hv : g (all.drop j) = .ok (v, r)) (hj' : j' ≤ all.length ∧ all.drop j' = r)
    (q3 : Kr rb w.drew w3) (hc : Hold w.heap.size none w3 v a) (hs : QB w3 rb e all ao cap j' 0 0)
    (hr1 : w1.ownsRow (W.heap.size + 1) 53 4 (.slice (some ⟨gg, 0, none⟩) (m + 1) cp) (m + 1) (tris ps ++ tri (v, a, c))) (hg : (w3.alloc o).grownBy w1 (Value.slice av m cv).ownBlock) (hat : (Value.slice av m cv).ownBlock = some gg ∨ gg = w3.heap.size + 1) :
    LOk W rb e all ao cap kd kk kn g n tot (i + 1) (acc ++ [v]) j' (some ⟨gg, 0, none⟩) (m + 1) cp (ps ++ [(v, a, c)]) (w1.setCell ⟨W.heap.size, 3, none⟩ (.slice (some ⟨gg, 0, none⟩) (m + 1) cp)) ∧ w1.cell? ⟨W.heap.size, 3, none⟩ = some (.slice av m cv) ∧ w1.frozen? ⟨W.heap.size, 3, none⟩ = false := by
  obtain ⟨k1, k2, k3⟩ := H.row.push0 (x := W.heap.size) (j := 3) hr (Nat.lt_succ_self _) (Nat.le_refl _) q3 hc hr1 hg hat
  have hb := k3.trans H.box
  refine ⟨⟨box_put3 hb, k1, hs.above k2, hj'.1, ?_, by rw [List.length_append, H.long]; rfl⟩, (box4 hb).2.2.2, box_free hb 3⟩
  have h0 := H.tot
  rw [many_next g n i hi, hv] at h0
  rw [hj'.2]
  exact h0
theorem LOk.junk {W w w3 w1 : World} {rb : Nat} {e : Int} {all : List Tk} {ao : Option Addr} {cap : Nat} {kd kk kn : Int} {g : List Tk → Got V} {n : Nat} {tot : Got (List V)} {i : Nat} {acc : List V} {j : Nat} {x : Int × Int} {z : Int} {av av' : Option Addr} {m m' cv cv' : Nat} {ps : List Kd} {o : Obj} (H : LOk W rb e all ao cap kd kk kn g n tot i acc j av m cv ps w) (hr : rb < W.heap.size)
    (q3 : Kr rb w.drew w3) (hs : QB w3 rb e all ao cap z x.1 x.2) (hg : (w3.alloc o).grownBy w1 (Value.slice av m cv).ownBlock) :
    LBad W rb e all ao cap kd kk kn x z av' m' cv' (w1.setCell ⟨W.heap.size, 3, none⟩ (.slice av' m' cv')) ∧ w1.cell? ⟨W.heap.size, 3, none⟩ = some (.slice av m cv) ∧ w1.frozen? ⟨W.heap.size, 3, none⟩ = false := by
  obtain ⟨k1, k2, k3⟩ := H.row.junk (x := W.heap.size) (j := 3) (y := .slice av' m' cv') hr (Nat.lt_succ_self _) (Nat.le_refl _) q3 hg
  have hb := k3.trans H.box
  exact ⟨⟨box_put3 hb, hs.above k2, k1⟩, (box4 hb).2.2.2, box_free hb 3⟩
/-- What is told in the end. -/
theorem rtold {w W w5 : World} {rb : Nat} {e : Int} {all : List Tk} {ao : Option Addr} {cap : Nat} {z c a : Int} {o0 : Obj} (hr : rb < w.heap.size) (q : Kr rb (w.alloc o0) W) (k : Kr rb W w5) (h : QB w5 rb e all ao cap z c a) (y0 y1 y2 y3 : Value) :
    QB ((((w5.setCell ⟨w.heap.size, 0, none⟩ y0).setCell ⟨w.heap.size, 1, none⟩ y1).setCell ⟨w.heap.size, 2, none⟩ y2).setCell ⟨w.heap.size, 3, none⟩ y3) rb e all ao cap z c a ∧ Kr rb w ((((w5.setCell ⟨w.heap.size, 0, none⟩ y0).setCell ⟨w.heap.size, 1, none⟩ y1).setCell ⟨w.heap.size, 2, none⟩ y2).setCell ⟨w.heap.size, 3, none⟩ y3) := by
  have hk : Kp (fun i => i = w.heap.size) w5 ((((w5.setCell ⟨w.heap.size, 0, none⟩ y0).setCell ⟨w.heap.size, 1, none⟩ y1).setCell ⟨w.heap.size, 2, none⟩ y2).setCell ⟨w.heap.size, 3, none⟩ y3) := (((kp_set _ _ _ _).trans (kp_set _ _ _ _)).trans (kp_set _ _ _ _)).trans (kp_set _ _ _ _)
  exact ⟨h.above (hk.mono fun i _ e => by omega), ((Kp.alloc w o0).trans (q.trans k)).fresh (hk.mono fun i _ e => by omega)⟩
theorem rtold_hold {w W w5 : World} {rb : Nat} {kd kk kn : Int} {acc : List V} {av : Option Addr} {m cv : Nat} {ps : List Kd} {o0 : Obj} (q : Kr rb (w.alloc o0) W) (H : Row W rb (W.heap.size + 1) acc av m cv ps w5) (hf : V.fits ⟨kd, kk, kn, acc⟩) (y0 y1 y2 y3 : Value) :
    Hold w.heap.size none ((((w5.setCell ⟨w.heap.size, 0, none⟩ y0).setCell ⟨w.heap.size, 1, none⟩ y1).setCell ⟨w.heap.size, 2, none⟩ y2).setCell ⟨w.heap.size, 3, none⟩ y3) ⟨kd, kk, kn, acc⟩ av := by
  have hW : w.heap.size + 1 ≤ W.heap.size := by have := q.size; simpa using this
  have h1 : Hold (W.heap.size + 1) none w5 ⟨kd, kk, kn, acc⟩ av := Row.hold (v := ⟨kd, kk, kn, acc⟩) H hf
  have hk : Kp (fun i => i = w.heap.size) w5 ((((w5.setCell ⟨w.heap.size, 0, none⟩ y0).setCell ⟨w.heap.size, 1, none⟩ y1).setCell ⟨w.heap.size, 2, none⟩ y2).setCell ⟨w.heap.size, 3, none⟩ y3) := (((kp_set _ _ _ _).trans (kp_set _ _ _ _)).trans (kp_set _ _ _ _)).trans (kp_set _ _ _ _)
  exact (h1.step (fun k h2 h3 _ => hk.block k h3 (by omega)) (.inl rfl)).wider (by omega)
end Go.Proofs.YthogejofkodmkacDoor
