/- An expression that is being read: its box, and the row of those in it. An expression, as the program reads it. -/
import Derived.Test.YthogejofkodmkacDoorPHead
import Derived.Deep.RegionLaw
import Derived.Test.YthogejofkodmkacDoorSmall
namespace Go.Proofs.YthogejofkodmkacDoor
open Go.ChangeShapes Go.WideShapes Go.ChangeAt Go.RowKit
theorem Hold.wider {lo lo' : Nat} {row : Option Nat} {w : World} {v : V} {ao : Option Addr} (h : Hold lo row w v ao) (hl : lo' ≤ lo) : Hold lo' row w v ao :=
  fun w' hk => h w' fun k c t h1 h2 h3 => hk k c t (by omega) h2 h3
/-- What is in memory of its own lies in memory that is not marked. -/
structure Row (W : World) (rb B : Nat) (acc : List V) (av : Option Addr) (m cv : Nat) (ps : List Kd) (w : World) : Prop where
  row : w.ownsRow B 53 4 (.slice av m cv) m (tris ps)
  len : m = ps.length
  all : ∀ p ∈ ps, Hold B (Value.slice av m cv).ownBlock w p.1 p.2.1
  map : ps.map (·.1) = acc
  kr : Kr rb W w
  sz : B ≤ w.heap.size
theorem Row.kp {W w w' : World} {rb B : Nat} {acc : List V} {av : Option Addr} {m cv : Nat} {ps : List Kd} (H : Row W rb B acc av m cv ps w) (hr : rb < B) (q : Kr rb w w') : Row W rb B acc av m cv ps w' :=
  ⟨q.row H.row fun k e hk => by have := (H.row.lt k e).1; omega, H.len, fun p hp => (H.all p hp).kr q hr, H.map, H.kr.trans q, Nat.le_trans H.sz q.size⟩
theorem Row.nil (W w : World) (rb B : Nat) (k : Kr rb W w) (hB : B ≤ w.heap.size) : Row W rb B [] none 0 0 [] w :=
  ⟨World.ownsRow_nil _ _ _ _, rfl, fun p hp => by simp at hp, rfl, k, hB⟩
theorem Row.lens {W w : World} {rb B : Nat} {acc : List V} {av : Option Addr} {m cv : Nat} {ps : List Kd} (H : Row W rb B acc av m cv ps w) : m = acc.length := by rw [H.len, ← H.map, List.length_map]
/-- One more in the row; the box x of one cell that holds it. -/
theorem Row.push {W w w3 w1 : World} {rb B x j : Nat} {acc : List V} {av : Option Addr} {m cv : Nat} {ps : List Kd} {v : V} {a : Option Addr} {c g cap : Nat} {o : Obj} {e : Int} {ts : List Tk} (H : Row W rb B acc av m cv ps w) (hr : rb < x) (hx : x < B) (hW : W.heap.size ≤ x)
    (q3 : Kr rb w.drew w3) (hc : Hold w.heap.size none w3 v a) (hs : RS w3 rb e ts)
    (hr1 : w1.ownsRow B 53 4 (.slice (some ⟨g, 0, none⟩) (m + 1) cap) (m + 1) (tris ps ++ tri (v, a, c))) (hg : (w3.alloc o).grownBy w1 (Value.slice av m cv).ownBlock) (hat : (Value.slice av m cv).ownBlock = some g ∨ g = w3.heap.size + 1) :
    Row W rb B (acc ++ [v]) (some ⟨g, 0, none⟩) (m + 1) cap (ps ++ [(v, a, c)]) (w1.setCell ⟨x, j, none⟩ (.slice (some ⟨g, 0, none⟩) (m + 1) cap)) ∧ RS (w1.setCell ⟨x, j, none⟩ (.slice (some ⟨g, 0, none⟩) (m + 1) cap)) rb e ts ∧ w1.heap[x]? = w.heap[x]? := by
  have hm := H.len
  have hs3 : w.heap.size ≤ w3.heap.size := q3.size
  have hs1 : w3.heap.size + 1 ≤ w1.heap.size := by have := hg.size; simpa using this
  have hrb : ∀ b, (Value.slice av m cv).ownBlock = some b → B ≤ b ∧ b < w.heap.size := fun b e => H.row.lt b e
  have hk1 : ∀ b, b < w.heap.size → b ≠ rb → (Value.slice av m cv).ownBlock ≠ some b → w1.heap[b]? = w.heap[b]? := by
    intro b hb hbr hne
    rw [hg.block b (by simp; omega) (fun e => hne e.symm), Below.heap_alloc w3 o b (by omega)]
    exact q3.block b hb hbr
  have hk3 : ∀ b, w.heap.size ≤ b → b < w3.heap.size → w1.heap[b]? = w3.heap[b]? := by
    intro b hb hb3
    rw [hg.block b (by simp; omega) (fun e => by have := hrb b e.symm; omega), Below.heap_alloc w3 o b hb3]
  have hset : ∀ b, b ≠ x → (w1.setCell ⟨x, j, none⟩ (.slice (some ⟨g, 0, none⟩) (m + 1) cap)).heap[b]? = w1.heap[b]? := fun b hb => Below.heap_setCell _ _ _ _ (fun e => hb e)
  have hgl : B ≤ g := by
    rcases hat with e | e
    · exact (hrb g e).1
    · have := H.sz; omega
  refine ⟨⟨?_, ?_, ?_, ?_, ?_, ?_⟩, ?_, ?_⟩
  · have := (Kp.setCell (F := fun b => b = x) w1 ⟨x, j, none⟩ (.slice (some ⟨g, 0, none⟩) (m + 1) cap) rfl).row hr1 (fun b e => by simp [Value.ownBlock] at e; omega)
    rw [tris_app, tris_one]; simpa using this
  · rw [List.length_append, hm]; rfl
  · intro p hp
    have hrow' : (Value.slice (some ⟨g, 0, none⟩) (m + 1) cap).ownBlock = some g := rfl
    rw [hrow']
    rcases List.mem_append.1 hp with hp | hp
    · refine (H.all p hp).step (fun b h1 h2 h3 => ?_) ?_
      · rw [hset b (by omega)]; exact hk1 b h2 (by omega) (fun e => h3 e)
      · rcases hat with e | e
        · exact .inl e.symm
        · exact .inr ⟨g, rfl, by omega⟩
    · simp at hp
      subst hp
      intro w2 h2
      refine hc w2 fun b c t h1 _ h3 => h2 b c t (by have := H.sz; omega) ?_ ((hset b (by have := H.sz; omega)).trans ((hk3 b h1 (lt_of_block h3)).trans h3))
      intro e
      simp at e
      have hb3 := lt_of_block h3
      rcases hat with e' | e'
      · have := hrb g e'; omega
      · omega
  · rw [List.map_append, H.map]; rfl
  · refine ⟨?_, ?_, ?_, ?_, fun b hb hbr => ?_⟩
    · exact (hg.os.trans q3.os).trans H.kr.os
    · exact (hg.tape.trans q3.tape).trans H.kr.tape
    · exact (hg.output.trans q3.output).trans H.kr.output
    · have := H.kr.size; simp [World.setCell]; omega
    · have := H.sz
      rw [hset b (by omega), hk1 b (by omega) hbr (fun e => by have := hrb b e; omega)]; exact H.kr.block b hb hbr
  · have := H.sz; simp [World.setCell]; omega
  · refine hs.above ?_
    refine ((Kp.alloc (F := fun k => rb < k) w3 o).trans (Kp.grown hg fun k _ e => ?_)).trans (Kp.setCell w1 ⟨x, j, none⟩ _ hr)
    have := hrb k e.symm; omega
  · have := H.sz
    exact hk1 x (by omega) (by omega) (fun e => by have := hrb x e; omega)
theorem Row.hold {W w : World} {rb B : Nat} {v : V} {av : Option Addr} {m cv : Nat} {ps : List Kd} (H : Row W rb B v.l av m cv ps w) (hf : v.fits) : Hold B none w v av := hold_row hf H.map H.row H.len (Nat.le_refl _) H.all
theorem Row.holdL {W w : World} {rb B : Nat} {acc : List V} {av : Option Addr} {m cv : Nat} {ps : List Kd} (H : Row W rb B acc av m cv ps w) : HoldL B w acc av := by
  have := hold_rows H.row H.len (Nat.le_refl _) H.all
  rw [H.map] at this
  exact this
end Go.Proofs.YthogejofkodmkacDoor
namespace Go.Proofs.YthogejofkodmkacDoor
open Go.ChangeShapes Go.WideShapes Go.ChangeAt Go.RowKit
/-- What comes of reading an expression. -/
def Out (rb : Nat) (e : Int) (w : World) (g : Got V) (e' : Ending) (w' : World) : Prop := match g with
  | .ok (v, r) => ∃ ao cap, e' = .returned (.agg #[.int .i64 v.kind, .int .i64 v.k, .int .i64 v.n, .slice ao v.l.length cap]) ∧ Hold w.heap.size none w' v ao ∧ RS w' rb e r ∧ Kr rb w w'
  | .error x => e' = .panicked (gave x) ∧ Kr rb w w'
/-- Tokens as they come out of a text. -/
def Fine (ts : List Tk) : Prop := ∀ t ∈ ts, good t ∧ In64 t.n
theorem Fine.goods {ts : List Tk} (h : Fine ts) : ∀ t ∈ ts, good t := fun t ht => (h t ht).1
theorem Fine.rest {p r : List Tk} (h : Fine (p ++ r)) : Fine r := fun t ht => h t (List.mem_append.2 (.inr ht))
theorem kind_in (L : List (List UInt8)) (hL : L.length ≤ 21) (t : List UInt8) : In64 (kindIn L t : Int) := by
  have := kind_le L t
  unfold In64; omega
theorem head_fits {e : Int} {ts r : List Tk} {x : Int × Int × Int} (hF : Fine ts) (h : headT e ts = .ok (x, r)) : (1 ≤ x.1 ∧ x.1 ≤ 21) ∧ In64 x.2.1 ∧ In64 x.2.2 ∧ Fine r ∧ r.length < ts.length := by
  obtain ⟨t, r1, rfl, h1, h2, h3⟩ := head_ok h
  have hk := kind_le wordL t.text
  rw [wordL_len] at hk
  have h0 : In64 0 := by unfold In64; omega
  have hF1 : Fine r1 := Fine.rest (p := [t]) hF
  refine ⟨by omega, ?_⟩
  unfold tailT at h3
  split at h3
  · obtain ⟨u, r2, h4, h5⟩ := then_ok h3
    obtain ⟨rfl, _⟩ := num_ok h4
    simp only [Except.ok.injEq, Prod.mk.injEq] at h5
    obtain ⟨e1, rfl⟩ := h5
    rw [← e1]
    exact ⟨h0, (hF1 u (by simp)).2, Fine.rest (p := [u]) hF1, by simp; omega⟩
  · split at h3
    · obtain ⟨k, r2, h4, h5⟩ := then_ok h3
      obtain ⟨u, rfl, _, rfl, _⟩ := small_ok h4
      simp only [Except.ok.injEq, Prod.mk.injEq] at h5
      obtain ⟨e1, rfl⟩ := h5
      rw [← e1]
      exact ⟨(hF1 u (by simp)).2, h0, Fine.rest (p := [u]) hF1, by simp; omega⟩
    · split at h3
      · obtain ⟨k, r2, h4, h5⟩ := then_ok h3
        obtain ⟨u, rfl, _, rfl⟩ := one_ok h4
        simp only [Except.ok.injEq, Prod.mk.injEq] at h5
        obtain ⟨e1, rfl⟩ := h5
        rw [← e1]
        exact ⟨kind_in binL (by decide) _, h0, Fine.rest (p := [u]) hF1, by simp; omega⟩
      · simp only [Except.ok.injEq, Prod.mk.injEq] at h3
        obtain ⟨e1, rfl⟩ := h3
        rw [← e1]
        exact ⟨h0, h0, hF1, by simp⟩
/-- How many are still to be read. -/
theorem many_next (g : List Tk → Got V) (n j : Nat) (hj : j < n) (acc : List V) (ts : List Tk) : manyT g (n - j) acc ts = andThen (g ts) fun v r => manyT g (n - (j + 1)) (acc ++ [v]) r := by
  rw [show n - j = (n - (j + 1)) + 1 by omega, manyT]
theorem many_last (g : List Tk → Got V) (n : Nat) (acc : List V) (ts : List Tk) : manyT g (n - n) acc ts = .ok (acc, ts) := by rw [Nat.sub_self, manyT]
theorem parts_le (k : Int) : partsI k ≤ 3 := by
  unfold partsI
  repeat' split
  all_goals omega
theorem parts_nat {k : Int} (h : 1 ≤ k ∧ k ≤ 21) : 0 ≤ partsI k := by
  rcases kinds k with h1 | h1
  · rcases h1 with rfl | rfl | rfl | rfl | rfl | rfl | rfl | rfl | rfl | rfl | rfl | rfl | rfl | rfl | rfl | rfl | rfl | rfl | rfl | rfl | rfl <;> decide
  · omega
theorem expr_deep (e : Int) (rb : Nat) (ts : List Tk) (w : World) (h : RS w rb e ts) : Calls Tryd.prog 54 #[.pointer (some ⟨rb, 0, none⟩), .int .i64 31] w (Out rb e w (exprT e 0 ts)) := by
  have HA := hid (fun o => at_any e rb ts (w.alloc o) (h.quiet (Kp.alloc _ _)))
  clear h
  go_enter Tryd.func54, Tryd.ntmps54
  go_wp2_with (first
    | (go_at_call 73; refine (give_any 4 (atT e ts) _).mono ?_; rintro e' w2 ⟨rfl, rfl⟩)
    | (go_at_call 74; refine (HA.out _).mono ?_; rintro e' w1 ⟨rfl, rfl⟩))
  exact ⟨rfl, rfl, Kp.alloc _ _⟩
end Go.Proofs.YthogejofkodmkacDoor
