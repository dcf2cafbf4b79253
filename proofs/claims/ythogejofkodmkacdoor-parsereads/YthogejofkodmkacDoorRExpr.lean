/- An expression, as the document reads it: the states. -/
import Derived.Test.YthogejofkodmkacDoorRMust
import Derived.Test.YthogejofkodmkacDoorRWord
import Derived.Test.YthogejofkodmkacDoorGHold
import Derived.RegionDies
namespace Go.Proofs.YthogejofkodmkacDoor
open Go.ChangeShapes Go.WideShapes Go.ChangeAt Go.RowKit
abbrev zeroV : V := ⟨0, 0, 0, []⟩
/-- What comes of reading an expression. -/
def OutQ (rb : Nat) (e : Int) (all : List Tk) (ao : Option Addr) (cap : Nat) (w : World) (g : Got V) (e' : Ending) (w' : World) : Prop := match g with
  | .ok (v, r) => ∃ va vc, ∃ j : Nat, e' = .returned (.agg #[.int .i64 v.kind, .int .i64 v.k, .int .i64 v.n, .slice va v.l.length vc]) ∧ Hold w.heap.size none w' v va ∧ (j ≤ all.length ∧ all.drop j = r) ∧ QB w' rb e all ao cap j 0 0 ∧ Kr rb w w'
  | .error x => ∃ (v : V) (va : Option Addr) (vc : Nat) (z : Int), e' = .returned (.agg #[.int .i64 v.kind, .int .i64 v.k, .int .i64 v.n, .slice va v.l.length vc]) ∧ QB w' rb e all ao cap z x.1 x.2 ∧ Kr rb w w'
/-- The result's box and that of the expression that is being read. -/
structure XS (w : World) (rb : Nat) (e : Int) (all : List Tk) (ao : Option Addr) (cap : Nat) (op k n z c a : Int) (wr : World) : Prop where
  r0 : wr.heap[w.heap.size]? = some (.cells #[.int .i64 0, .int .i64 0, .int .i64 0, .slice none 0 0] 53 (0, 0))
  x0 : wr.heap[w.heap.size + 1]? = some (.cells #[.int .i64 op, .int .i64 k, .int .i64 n, .slice none 0 0] 53 (0, 0))
  qb : QB wr rb e all ao cap z c a
  kr : Kr rb w wr
  lt : rb < w.heap.size
theorem XS.begin {w : World} {rb : Nat} {e : Int} {all : List Tk} {ao : Option Addr} {cap : Nat} {z c a : Int} (h : QB w rb e all ao cap z c a) : XS w rb e all ao cap 0 0 0 z c a ((w.alloc (.cells #[.int .i64 0, .int .i64 0, .int .i64 0, .slice none 0 0] 53)).alloc (.cells #[.int .i64 0, .int .i64 0, .int .i64 0, .slice none 0 0] 53)) := by
  refine ⟨?_, heap_two w _ _, (h.quiet (Kp.alloc _ _)).quiet (Kp.alloc _ _), (Kp.alloc _ _).trans (Kp.alloc _ _), h.lt⟩
  rw [Below.heap_alloc _ _ _ (by simp)]; exact heap_alloc_new w _
theorem XS.step {w : World} {rb : Nat} {e : Int} {all : List Tk} {ao : Option Addr} {cap : Nat} {op k n z c a z' c' a' : Int} {wr w' : World} (H : XS w rb e all ao cap op k n z c a wr) (q : Kr rb wr w') (h : QB w' rb e all ao cap z' c' a') : XS w rb e all ao cap op k n z' c' a' w' := by
  have hl := H.lt
  exact ⟨(q.block _ (lt_of_block H.r0) (by omega)).trans H.r0, (q.block _ (lt_of_block H.x0) (by omega)).trans H.x0, h, H.kr.trans q, hl⟩
theorem XS.quiet {w : World} {rb : Nat} {e : Int} {all : List Tk} {ao : Option Addr} {cap : Nat} {op k n z c a : Int} {wr w' : World} (H : XS w rb e all ao cap op k n z c a wr) (q : Quiet wr w') : XS w rb e all ao cap op k n z c a w' := H.step (Quiet.kr q) (H.qb.quiet q)
theorem box_setj {w : World} {x j : Nat} {cs : Array Value} {y : Value} {t : TypeId} (h : w.heap[x]? = some (.cells cs t (0, 0))) : (w.setCell ⟨x, j, none⟩ y).heap[x]? = some (.cells (cs.setIfInBounds j y) t (0, 0)) := by
  simp [World.setCell, Array.getElem?_modify, h]
theorem XS.turn {w : World} {rb : Nat} {e : Int} {all : List Tk} {ao : Option Addr} {cap : Nat} {op k n z c a op' k' n' : Int} {wr : World} {j : Nat} {y : Value} (H : XS w rb e all ao cap op k n z c a wr) (hy : (#[.int .i64 op, .int .i64 k, .int .i64 n, .slice none 0 0] : Array Value).setIfInBounds j y = #[.int .i64 op', .int .i64 k', .int .i64 n', .slice none 0 0]) : XS w rb e all ao cap op' k' n' z c a (wr.setCell ⟨w.heap.size + 1, j, none⟩ y) := by
  have hl := H.lt
  have hk : Kp (fun i => i = w.heap.size + 1) wr (wr.setCell ⟨w.heap.size + 1, j, none⟩ y) := kp_set _ _ _ _
  refine ⟨(hk.block _ (lt_of_block H.r0) (by omega)).trans H.r0, ?_, H.qb.above (hk.mono fun i _ e => by omega), ?_, hl⟩
  · rw [box_setj H.x0, hy]
  · exact H.kr.fresh (hk.mono fun i _ e => by omega)
theorem XS.next {w : World} {rb : Nat} {e : Int} {all : List Tk} {ao : Option Addr} {cap : Nat} {op k n z c a : Int} {wr : World} (H : XS w rb e all ao cap op k n z c a wr) (z' : Int) : XS w rb e all ao cap op k n z' c a (wr.setCell ⟨rb, 2, none⟩ (.int .i64 z')) := H.step (H.qb.set2 z').2 (H.qb.set2 z').1
theorem XS.cells {w : World} {rb : Nat} {e : Int} {all : List Tk} {ao : Option Addr} {cap : Nat} {op k n z c a : Int} {wr : World} (H : XS w rb e all ao cap op k n z c a wr) : (wr.cell? ⟨w.heap.size + 1, 0, none⟩ = some (.int .i64 op) ∧ wr.cell? ⟨w.heap.size + 1, 1, none⟩ = some (.int .i64 k) ∧ wr.cell? ⟨w.heap.size + 1, 2, none⟩ = some (.int .i64 n) ∧ wr.cell? ⟨w.heap.size + 1, 3, none⟩ = some (.slice none 0 0)) ∧ ∀ j, wr.frozen? ⟨w.heap.size + 1, j, none⟩ = false := ⟨box4 H.x0, box_free H.x0⟩
theorem XS.res {w : World} {rb : Nat} {e : Int} {all : List Tk} {ao : Option Addr} {cap : Nat} {op k n z c a : Int} {wr : World} (H : XS w rb e all ao cap op k n z c a wr) : (wr.cell? ⟨w.heap.size, 0, none⟩ = some (.int .i64 0) ∧ wr.cell? ⟨w.heap.size, 1, none⟩ = some (.int .i64 0) ∧ wr.cell? ⟨w.heap.size, 2, none⟩ = some (.int .i64 0) ∧ wr.cell? ⟨w.heap.size, 3, none⟩ = some (.slice none 0 0)) ∧ ∀ j, wr.frozen? ⟨w.heap.size, j, none⟩ = false := ⟨box4 H.r0, box_free H.r0⟩
/-- What is told: the result's box. -/
theorem XS.told {w : World} {rb : Nat} {e : Int} {all : List Tk} {ao : Option Addr} {cap : Nat} {op k n z c a : Int} {wr : World} (H : XS w rb e all ao cap op k n z c a wr) (y0 y1 y2 y3 : Value) : QB ((((wr.setCell ⟨w.heap.size, 0, none⟩ y0).setCell ⟨w.heap.size, 1, none⟩ y1).setCell ⟨w.heap.size, 2, none⟩ y2).setCell ⟨w.heap.size, 3, none⟩ y3) rb e all ao cap z c a ∧ Kr rb w ((((wr.setCell ⟨w.heap.size, 0, none⟩ y0).setCell ⟨w.heap.size, 1, none⟩ y1).setCell ⟨w.heap.size, 2, none⟩ y2).setCell ⟨w.heap.size, 3, none⟩ y3) := by
  have hl := H.lt
  have hk : Kp (fun i => i = w.heap.size) wr ((((wr.setCell ⟨w.heap.size, 0, none⟩ y0).setCell ⟨w.heap.size, 1, none⟩ y1).setCell ⟨w.heap.size, 2, none⟩ y2).setCell ⟨w.heap.size, 3, none⟩ y3) := (((kp_set _ _ _ _).trans (kp_set _ _ _ _)).trans (kp_set _ _ _ _)).trans (kp_set _ _ _ _)
  exact ⟨H.qb.above (hk.mono fun i _ e => by omega), H.kr.fresh (hk.mono fun i _ e => by omega)⟩
/-- What the first of what is left is. -/
def kindR (L : List (List UInt8)) (rest : List Tk) : Nat := match rest with
  | [] => 0
  | t :: _ => kindIn L t.text
theorem isT_kind {L : List (List UInt8)} (hL : L.Nodup) (rest : List Tk) (k : Nat) (h1 : 1 ≤ k) (h2 : k ≤ L.length) : isT (nameIn L (k : Int)) rest = decide (kindR L rest = k) := by
  cases rest with
  | nil =>
    have : ¬ kindR L [] = k := by show ¬ 0 = k; omega
    rw [decide_eq_false this]; rfl
  | cons t r =>
    have h3 := name_iff hL t.text k h1 h2
    by_cases h4 : kindIn L t.text = k
    · rw [show decide (kindR L (t :: r) = k) = true from decide_eq_true h4]
      simpa [isT] using (h3.2 h4).symm
    · rw [show decide (kindR L (t :: r) = k) = false from decide_eq_false h4]
      have h5 : ¬ t.text = nameIn L (k : Int) := fun e => h4 (h3.1 e.symm)
      simpa [isT] using h5
theorem kindR_le (L : List (List UInt8)) (rest : List Tk) : kindR L rest ≤ L.length := by
  cases rest with
  | nil => exact Nat.zero_le _
  | cons t r => exact kind_le L t.text
theorem kindR_ok {L : List (List UInt8)} {e : Int} {rest : List Tk} (h : kindR L rest ≠ 0) : oneT L e rest = .ok ((kindR L rest : Int), rest.drop 1) := by
  cases rest with
  | nil => exact absurd rfl h
  | cons t r => simp only [kindR] at h ⊢; simp only [oneT, nextT, andThen]; rw [if_neg h]; rfl
theorem kindR_bad {L : List (List UInt8)} {e : Int} {rest : List Tk} (h : kindR L rest = 0) : oneT L e rest = .error (wrongT 5 e rest) := by
  cases rest with
  | nil => rfl
  | cons t r => simp only [kindR] at h; simp only [oneT, nextT, andThen]; rw [if_pos h]; rfl
theorem kindR_lt {L : List (List UInt8)} {all : List Tk} {j : Nat} (h : kindR L (all.drop j) ≠ 0) : j < all.length := by
  rcases Nat.lt_or_ge j all.length with h1 | h1
  · exact h1
  · rw [List.drop_of_length_le h1] at h; exact absurd rfl h
/-- No number is a word. -/
theorem fine_word {all : List Tk} (hF : Fine all) {L : List (List UInt8)} (hL : ∀ x ∈ L, x ≠ [] ∧ ∀ c ∈ x, letter c = true) (k : Nat) (h1 : 1 ≤ k) (h2 : k ≤ L.length) : ∀ t ∈ all, t.num = true → t.text ≠ nameIn L (k : Int) := by
  intro t ht hn e
  obtain ⟨c, r, h3, h4, _⟩ := good_num (hF t ht).1 hn
  rw [name_at L k h1 h2] at e
  have := (hL _ (List.getElem_mem (l := L) (n := k - 1) (by omega))).2 c (by rw [← e, h3]; simp)
  rw [h4] at this; cases this
theorem fine_mark {all : List Tk} (hF : Fine all) : (∀ t ∈ all, t.num = true → t.text ≠ lpar) ∧ (∀ t ∈ all, t.num = true → t.text ≠ rpar) ∧ (∀ t ∈ all, t.num = true → t.text ≠ funB) :=
  ⟨fun t ht hn => (num_mark (hF t ht).1 hn).1, fun t ht hn => (num_mark (hF t ht).1 hn).2.1, fun t ht hn => (num_mark (hF t ht).1 hn).2.2⟩
end Go.Proofs.YthogejofkodmkacDoor
