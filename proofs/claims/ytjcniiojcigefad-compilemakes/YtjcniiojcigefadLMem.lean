/- Instructions in memory: three cells each, in a row; a lister's box and row; what may have turned while it lists. -/
import Derived.Test.YtjcniiojcigefadCMath
import Derived.Test.YtjcniiojcigefadKit
import Derived.Lib.OthersKept
import Derived.Deep.RegionLaw
namespace Go.Proofs.Ytjcniiojcigefad
open Go.ChangeShapes Go.WideShapes Go.ChangeAt Go.RowKit
/-- An instruction's cells. -/
def Ik.cells (x : Ik) : List Value := [.int .i64 x.op, .int .i64 x.k, .int .i64 x.n]
def insC (c : List Ik) : List Value := c.flatMap Ik.cells
theorem insC_app (a b : List Ik) : insC (a ++ b) = insC a ++ insC b := by simp [insC]
theorem insC_one (x : Ik) : insC [x] = x.cells := by simp [insC]
theorem insC_len (c : List Ik) : (insC c).length = c.length * 3 := by
  induction c with
  | nil => rfl
  | cons x c ih => rw [show x :: c = [x] ++ c from rfl, insC_app, List.length_append, ih, insC_one]; simp [Ik.cells]; omega
theorem insC_get (c : List Ik) (i j : Nat) (hi : i < c.length) (hj : j < 3) : (insC c)[i * 3 + j]? = c[i].cells[j]? := by
  induction c generalizing i with
  | nil => simp at hi
  | cons x c ih =>
    rw [show insC (x :: c) = x.cells ++ insC c from rfl]
    have h3 : x.cells.length = 3 := rfl
    cases i with
    | zero => rw [List.getElem?_append_left (by omega)]; simp
    | succ i =>
      rw [List.getElem?_append_right (by omega), h3, show (i + 1) * 3 + j - 3 = i * 3 + j by omega]
      simpa using ih i (by simpa using hi)
theorem ik_one (x : Ik) : ∀ u ∈ x.cells, u.oneCell' = true := by
  intro u hu
  simp only [Ik.cells, List.mem_cons, List.not_mem_nil, or_false] at hu
  rcases hu with rfl | rfl | rfl <;> rfl
theorem ins_one (c : List Ik) : ∀ u ∈ insC c, u.oneCell' = true := by
  intro u hu
  simp only [insC, List.mem_flatMap] at hu
  obtain ⟨x, _, hx⟩ := hu
  exact ik_one x u hx
/-- The cells of an instruction in a row. -/
theorem ins_at {w : World} {B : Nat} {e : TypeId} {ao : Option Addr} {n cap : Nat} {c : List Ik} (h : w.ownsRow B e 3 (.slice ao n cap) n (insC c)) (hn : c.length = n) (i : Nat) (hi : i < c.length) :
    ∃ g, ao = some ⟨g, 0, none⟩ ∧ w.cell? ⟨g, i * 3, none⟩ = some (.int .i64 c[i].op) ∧ w.cell? ⟨g, i * 3 + 1, none⟩ = some (.int .i64 c[i].k) ∧ w.cell? ⟨g, i * 3 + 2, none⟩ = some (.int .i64 c[i].n) := by
  subst hn
  obtain ⟨g, e, h⟩ := owns_at h (by omega)
  refine ⟨g, e, ?_, ?_, ?_⟩
  · rw [h (i * 3) (by omega), show i * 3 = i * 3 + 0 from rfl, insC_get c i 0 hi (by omega)]; rfl
  · rw [h _ (by omega), insC_get c i 1 hi (by omega)]; rfl
  · rw [h _ (by omega), insC_get c i 2 hi (by omega)]; rfl
/-- What may have turned while the lister in a block lists: that block, rows of instructions behind it, new blocks. -/
structure KI (b : Nat) (w w' : World) : Prop where
  low : Below b w w'
  kept : Lib.OthersKept 42 (some b) w w'
theorem KI.refl (b : Nat) (w : World) : KI b w w := ⟨Below.refl _ _, Lib.OthersKept.refl _ _ _⟩
theorem KI.trans {b : Nat} {x y z : World} (h : KI b x y) (k : KI b y z) : KI b x z := ⟨h.low.trans k.low, h.kept.trans k.kept⟩
theorem KI.quiet {b : Nat} {w w' : World} (q : Quiet w w') (hb : b ≤ w.heap.size) : KI b w w' :=
  ⟨q.below hb fun _ h => h.elim, fun k _ hk _ _ => (q.block k (Array.getElem?_eq_some_iff.1 hk).1 fun h => h).trans hk⟩
theorem KI.box {b : Nat} {w w' : World} (h : KI b w w') {x : Nat} {c : Array Value} {t : TypeId} (hx : w.heap[x]? = some (.cells c t (0, 0))) (hb : x ≠ b) (ht : t ≠ 42) : w'.heap[x]? = some (.cells c t (0, 0)) :=
  h.kept x _ hx (fun e => hb (Option.some.inj e)) fun c fz e => ht (by cases e; rfl)
/-- A lister with what it listed so far. -/
def Lst (b : Nat) (c : List Ik) (w : World) : Prop :=
  ∃ ao cap, w.heap[b]? = some (.cells #[.slice ao c.length cap] 47 (0, 0)) ∧ w.ownsRow (b + 1) 42 3 (.slice ao c.length cap) c.length (insC c)
theorem Lst.lt {b : Nat} {c : List Ik} {w : World} (h : Lst b c w) : b < w.heap.size := by obtain ⟨_, _, h, _⟩ := h; exact lt_of_block h
theorem Lst.quiet {b : Nat} {c : List Ik} {w w' : World} (h : Lst b c w) (q : Quiet w w') : Lst b c w' := by
  obtain ⟨ao, cap, h1, h2⟩ := h
  exact ⟨ao, cap, (q.block _ (lt_of_block h1) fun e => e).trans h1, q.row h2 fun _ _ e => e⟩
theorem lst_new (w : World) : Lst w.heap.size [] (w.alloc (.cells #[.slice none 0 0] 47)) := ⟨none, 0, heap_alloc_new w _, World.ownsRow_nil _ _ _ _⟩
theorem ki_grown {b : Nat} {w w' : World} {v : Value} {n : Nat} {xs : List Value} (hr : w.ownsRow (b + 1) 42 3 v n xs) (hb : b ≤ w.heap.size) (hg : w.grownBy w' v.ownBlock) : KI b w w' := by
  refine ⟨(Kp.grown (F := fun k => b ≤ k) hg fun k _ e => by have := (hr.lt k e.symm).1; omega).below hb fun k hk => hk, (Lib.OthersKept.refl _ _ _).grown hg fun g e => ?_⟩
  rcases hr.2 with ⟨rfl, _⟩ | ⟨g', cap, cur, rfl, _, h, _⟩
  · simp [Value.ownBlock] at e
  · simp [Value.ownBlock] at e; subst e; exact ⟨_, _, h⟩
theorem ki_set (b o : Nat) (w : World) (x : Value) (hb : b ≤ w.heap.size) : KI b w (w.setCell ⟨b, o, none⟩ x) :=
  ⟨(Kp.setCell (F := fun k => b ≤ k) w ⟨b, o, none⟩ x (Nat.le_refl b)).below hb fun _ h => h, (Lib.OthersKept.refl _ _ _).setCell ⟨b, o, none⟩ rfl x⟩
/-- One more in the list. -/
theorem lst_push {b m g cap cap2 : Nat} {c d : List Ik} {w w1 w2 : World} {ao : Option Addr} (hm : c.length = m) (h1 : w.heap[b]? = some (.cells #[.slice ao m cap] 47 (0, 0))) (h2 : w.ownsRow (b + 1) 42 3 (.slice ao m cap) m (insC c)) (q : Quiet w w1)
    (hr : w2.ownsRow (b + 1) 42 3 (.slice (some ⟨g, 0, none⟩) (m + d.length) cap2) (m + d.length) (insC c ++ insC d)) (hg : w1.grownBy w2 (Value.slice ao m cap).ownBlock) :
    (w2.cell? ⟨b, 0, none⟩ = some (.slice ao m cap) ∧ w2.frozen? ⟨b, 0, none⟩ = false) ∧ Lst b (c ++ d) (w2.setCell ⟨b, 0, none⟩ (.slice (some ⟨g, 0, none⟩) (m + d.length) cap2)) ∧ KI b w (w2.setCell ⟨b, 0, none⟩ (.slice (some ⟨g, 0, none⟩) (m + d.length) cap2)) ∧ b < w2.heap.size := by
  have hb := lt_of_block h1
  have hb1 : b < w1.heap.size := Nat.lt_of_lt_of_le hb q.size
  have hb2 : b < w2.heap.size := Nat.lt_of_lt_of_le hb1 hg.size
  have hr1 := q.row h2 fun _ _ e => e
  have hbx : w2.heap[b]? = some (.cells #[.slice ao m cap] 47 (0, 0)) := by
    rw [hg.block b hb1 (fun e => by have := (hr1.lt b e.symm).1; omega)]
    exact (q.block b hb fun e => e).trans h1
  refine ⟨⟨by simp [World.cell?, hbx], frozen_of_row w2 b 0 _ _ hbx⟩, ?_, ((KI.quiet q (by omega)).trans (ki_grown hr1 (by omega) hg)).trans (ki_set b 0 w2 _ (by omega)), hb2⟩
  refine ⟨some ⟨g, 0, none⟩, cap2, ?_, ?_⟩
  · rw [List.length_append, hm]; simp [World.setCell, Array.getElem?_modify, hbx]
  · rw [List.length_append, hm, insC_app]
    exact (Kp.setCell (F := fun k => k = b) w2 ⟨b, 0, none⟩ _ rfl).row hr (fun k e => by have := (hr.lt k e).1; omega)
theorem Try.infoIns : (Try.prog.info? 42).map (fun i => (i.zero, i.size, i.bytes)) = some (some (.agg #[.int .i64 0, .int .i64 0, .int .i64 0]), 3, 24) := by kernel_rfl
theorem Try.undIns : Try.prog.underlying 41 = some (.slice 42) := by kernel_rfl
theorem box3 {w : World} {x : Nat} {a b c : Value} {t : TypeId} (h : w.heap[x]? = some (.cells #[a, b, c] t (0, 0))) : w.cell? ⟨x, 0, none⟩ = some a ∧ w.cell? ⟨x, 1, none⟩ = some b ∧ w.cell? ⟨x, 2, none⟩ = some c := by
  refine ⟨?_, ?_, ?_⟩ <;> simp [World.cell?, h]
theorem two_quiet (w : World) (o1 o2 : Obj) : Quiet w ((w.alloc o1).alloc o2).drew := ((Kp.alloc w o1).trans (Kp.alloc _ o2)).trans (Kp.drew _)
theorem new_two (w : World) (o1 o2 : Obj) : ((w.alloc o1).alloc o2).drew.heap[w.heap.size + 1]? = some o2 := heap_two w o1 o2
set_option maxRecDepth 8000 in
set_option maxHeartbeats 4000000 in
/-- The contract of put. -/
theorem lput_any (b : Nat) (c : List Ik) (x : Ik) (w : World) (h : Lst b c w) (hl : c.length ≤ 9000000) :
    Calls Try.prog 17 #[.pointer (some ⟨b, 0, none⟩), .agg #[.int .i64 x.op, .int .i64 x.k, .int .i64 x.n]] w fun e w' => e = .returned (.int .i64 c.length) ∧ Lst b (c ++ [x]) w' ∧ KI b w w' := by
  obtain ⟨i0, hi, hz0, hz1, hz2⟩ := info_parts' Try.infoIns
  obtain ⟨ao, cap, h1, h2⟩ := h
  have hb := lt_of_block h1
  obtain ⟨m, hm⟩ : ∃ m, c.length = m := ⟨_, rfl⟩
  rw [hm] at h1 h2 hl ⊢
  obtain ⟨xo, xk, xn⟩ := x
  have c0 : (w.alloc (.cells #[.int .i64 xo, .int .i64 xk, .int .i64 xn] 42)).cell? ⟨b, 0, none⟩ = some (.slice ao m cap) := by
    have := (Below.heap_alloc w (.cells #[.int .i64 xo, .int .i64 xk, .int .i64 xn] 42) b hb).trans h1
    simp [World.cell?, this]
  have c1 : ((w.alloc (.cells #[.int .i64 xo, .int .i64 xk, .int .i64 xn] 42)).alloc (.cells #[.int .i64 xo, .int .i64 xk, .int .i64 xn] 42)).cell? ⟨b, 0, none⟩ = some (.slice ao m cap) := (Kp.alloc (F := fun _ => False) _ _).cell c0 fun e => e
  have H1 := hid h1
  have H2 := hid h2
  have HM := hid hm
  clear h1 h2 hm
  go_enter Try.func17, Try.ntmps17
  go_wp2
  go_region_law ((refine step_append_lies _ (by rfl) _ _ _ (by rfl) (b + 1) 42 i0 _ 3 24 Try.undIns hi hz0 hz1 hz2 rfl (by omega) (.slice ao m cap) m (insC c) (by rfl) (((H2.out.alloc _).alloc _).drew) ⟨w.heap.size + 1, 0, none⟩ 1 1 [.int .i64 xo, .int .i64 xk, .int .i64 xn] (by rfl) (by rfl) (news_from (t := 42) (new_two w _ _)) (ik_one ⟨xo, xk, xn⟩) (by omega) (by unfold maxLen; omega) (by omega) (by simp; omega) (w.heap.size + 2) (by simp) ?_; intro gg cap2 w1 hown1 hgrow hat hlt; have hD0 := lst_push (d := [⟨xo, xk, xn⟩]) HM.out H1.out H2.out (two_quiet w _ _) (by rw [insC_one]; exact hown1) hgrow; have cc := hD0.1.1; have ff := hD0.1.2; have ss := hD0.2.2.2; have hD := hid (And.intro hD0.2.1 hD0.2.2.1); clear hown1 hgrow hat hlt hD0))
  all_goals
    go_wp2
    go_ret
    exact ⟨by simp, hD.out.1, hD.out.2⟩
end Go.Proofs.Ytjcniiojcigefad
