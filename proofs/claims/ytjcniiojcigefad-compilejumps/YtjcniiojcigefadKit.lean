/- Rows of the call's own: what the contracts on lists of things share; lists that are still to be looked at. -/
import Derived.Test.YtjcniiojcigefadMem
import Derived.Deep.LoopGhost
namespace Go.Proofs.Ytjcniiojcigefad
open Go.ChangeShapes Go.WideShapes Go.ChangeAt Go.RowKit
theorem Try.infoI : (Try.prog.info? 3).map (fun i => (i.zero, i.size, i.bytes)) = some (some (.int .i64 0), 1, 8) := by kernel_rfl
theorem Try.infoV : (Try.prog.info? 38).map (fun i => (i.zero, i.size, i.bytes)) = some (some (.agg #[.int .i64 0, .int .i64 0, .int .i64 0, .slice none 0 0]), 4, 48) := by kernel_rfl
theorem Try.undV : Try.prog.underlying 22 = some (.slice 38) := by kernel_rfl
theorem Try.infoL : (Try.prog.info? 22).map (fun i => (i.zero, i.size, i.bytes)) = some (some (.slice none 0 0), 1, 24) := by kernel_rfl
theorem Try.undL : Try.prog.underlying 66 = some (.slice 22) := by kernel_rfl
theorem news_at (w : World) (l : List Value) (t : TypeId) : ∀ j u, l[j]? = some u → (w.alloc (.cells l.toArray t)).cell? ((⟨w.heap.size, 0, none⟩ : Addr).add j) = some u := by
  intro j u hu
  rw [Addr.add_lit, cell_of_row _ _ _ _ t (0, 0) (heap_alloc_new w _)]
  simpa using hu
theorem heap_two (w : World) (o1 o2 : Obj) : ((w.alloc o1).alloc o2).heap[w.heap.size + 1]? = some o2 := by
  have h := heap_alloc_new (w.alloc o1) o2
  rwa [World.size_alloc] at h
theorem news_from {w : World} {x : Nat} {l : List Value} {t : TypeId} (h : w.heap[x]? = some (.cells l.toArray t (0, 0))) : ∀ j u, l[j]? = some u → w.cell? ((⟨x, 0, none⟩ : Addr).add j) = some u := by
  intro j u hu
  rw [Addr.add_lit, cell_of_row _ _ _ _ t (0, 0) h]
  simpa using hu
theorem grown_quiet {w wr w1 : World} {o : Obj} {e : TypeId} {size : Nat} {v : Value} {n : Nat} {xs : List Value} (hk : Quiet w wr) (hr : wr.ownsRow w.heap.size e size v n xs) (hg : (wr.alloc o).grownBy w1 v.ownBlock) : Quiet w w1 :=
  hk.fresh ((Kp.alloc _ o).trans (Kp.grown hg fun k _ e => (hr.lt k e.symm).1))
def ints (l : List Int) : List Value := l.map (Value.int .i64)
theorem ints_one (l : List Int) : ∀ u ∈ ints l, u.oneCell' = true := by
  intro u hu
  simp only [ints, List.mem_map] at hu
  obtain ⟨_, _, rfl⟩ := hu
  rfl
theorem ints_len (l : List Int) : (ints l).length = l.length := by simp [ints]
theorem ints_app (a b : List Int) : ints (a ++ b) = ints a ++ ints b := by simp [ints]
theorem box_cells {w : World} {x : Nat} {a b c d : Value} {t : TypeId} (h : w.heap[x]? = some (.cells #[a, b, c, d] t (0, 0))) : w.cell? ⟨x, 0, none⟩ = some a ∧ w.cell? ⟨x, 1, none⟩ = some b ∧ w.cell? ⟨x, 2, none⟩ = some c ∧ w.cell? ⟨x, 3, none⟩ = some d := by
  refine ⟨?_, ?_, ?_, ?_⟩ <;> simp [World.cell?, h]
theorem owns_pop {w : World} {base : Nat} {e : TypeId} {size g n cap : Nat} {xs ys : List Value} (h : w.ownsRow base e size (.slice (some ⟨g, 0, none⟩) (n + 1) cap) (n + 1) (xs ++ ys)) (hy : ys.length = size) :
    w.ownsRow base e size (.slice (some ⟨g, 0, none⟩) n cap) n xs ∧ ∀ j, j < size → w.cell? ⟨g, n * size + j, none⟩ = ys[j]? := by
  have hl : xs.length = n * size := by
    have := h.1
    rw [List.length_append, hy, Nat.add_mul] at this
    omega
  obtain ⟨g', e', d⟩ := owns_at h (by omega)
  cases e'
  refine ⟨⟨hl, ?_⟩, fun j hj => ?_⟩
  · rcases h.2 with ⟨h', _⟩ | ⟨g', cap', cur, h', hb, hg, hc, hm, hs, ht⟩
    · simp at h'
    · simp only [Value.slice.injEq, Option.some.injEq, Addr.mk.injEq, true_and] at h'
      obtain ⟨⟨rfl, _⟩, rfl⟩ := h'
      refine .inr ⟨g, cap, cur, rfl, hb, hg, by omega, hm, hs, ?_⟩
      have h2 := congrArg (List.take (n * size)) ht
      rw [List.take_take, Nat.min_eq_left (by rw [Nat.add_mul]; omega), List.take_append_of_le_length (by omega), show xs.take (n * size) = xs from List.take_of_length_le (by omega)] at h2
      exact h2
  · rw [d _ (by rw [Nat.add_mul]; omega), List.getElem?_append_right (by omega)]
    congr 1; omega
theorem owns_cap {w : World} {base : Nat} {e : TypeId} {size g n cap : Nat} {xs : List Value} (h : w.ownsRow base e size (.slice (some ⟨g, 0, none⟩) n cap) n xs) : n ≤ cap := by
  rcases h.2 with ⟨h', _⟩ | ⟨g', cap', cur, h', hb, hg, hc, _⟩
  · simp at h'
  · simp only [Value.slice.injEq, Option.some.injEq, Addr.mk.injEq, true_and] at h'
    omega
theorem low_cell {B : Nat} {w w' : World} (hb : Below B w w') {a : Addr} {x : Value} (hc : w.cell? a = some x) (ha : a.block < B) : w'.cell? a = some x :=
  (World.cell?_of_block (hb.block a.block ha)).trans hc
theorem low_back {B : Nat} {w w' : World} (hb : Below B w w') {a : Addr} {x : Value} (hc : w'.cell? a = some x) (ha : a.block < B) : w.cell? a = some x :=
  (World.cell?_of_block (hb.block a.block ha)).symm.trans hc
theorem low_of {B : Nat} {W a b : World} (h : Below B W a) (q : Quiet a b) (hB : B ≤ a.heap.size) : Below B W b := h.trans (q.below hB fun _ e => e.elim)
theorem row_one (w : World) (t : TypeId) (x : Value) : (w.alloc (.cells #[x] t)).ownsRow w.heap.size t 1 (.slice (some ⟨w.heap.size, 0, none⟩) 1 1) 1 [x] :=
  ⟨by simp, .inr ⟨w.heap.size, 1, #[x], rfl, Nat.le_refl _, heap_alloc_new w _, Nat.le_refl _, by decide, by simp, by simp⟩⟩
theorem take_snoc {α : Type} (l : List α) (k : Nat) (hk : k < l.length) : l.take (k + 1) = l.take k ++ [l[k]] := by
  rw [List.take_add_one]; simp [hk]
theorem low_drewN {B : Nat} {w w' : World} (h : Below B w w') (n : Nat) : Below B w (w'.drewN n) := ⟨h.os, h.tape, h.output, h.size, h.block⟩
theorem grown_undrew {w w1 : World} {r : Option Nat} (h : w.drew.grownBy w1 r) : w.grownBy w1 r := ⟨h.os, h.tape, h.output, h.size, h.block⟩
/-- Lists and where they lie. -/
abbrev Pl := List V × Option Addr × Nat
def slv (x : Pl) : Value := .slice x.2.1 x.1.length x.2.2
def tsz (ts : List Pl) : Nat := (ts.map fun x => 1 + sizes x.1).sum
theorem tsz_nil : tsz [] = 0 := rfl
theorem tsz_app (a b : List Pl) : tsz (a ++ b) = tsz a + tsz b := by simp [tsz]
theorem tsz_one (x : Pl) : tsz [x] = 1 + sizes x.1 := by simp [tsz]
theorem tsz_len (ts : List Pl) : ts.length ≤ tsz ts := by
  induction ts with
  | nil => simp [tsz]
  | cons x ts ih => simp [tsz] at ih ⊢; omega
/-- What is in those lists, without them. -/
def trs (ts : List Pl) : Nat := (ts.map fun x => sizes x.1 - x.1.length).sum
theorem trs_nil : trs [] = 0 := rfl
theorem trs_app (a b : List Pl) : trs (a ++ b) = trs a + trs b := by simp [trs]
theorem trs_one (x : Pl) : trs [x] = sizes x.1 - x.1.length := by simp [trs]
def Lie (w : World) (ts : List Pl) : Prop := ∀ x ∈ ts, Fo w x.1 x.2.1
theorem Lie.app {w : World} {a b : List Pl} (h : Lie w a) (k : Lie w b) : Lie w (a ++ b) := by
  intro x hx
  rcases List.mem_append.1 hx with h' | h'
  · exact h x h'
  · exact k x h'
theorem slv_one (ts : List Pl) : ∀ u ∈ ts.map slv, u.oneCell' = true := by
  intro u hu
  simp only [List.mem_map] at hu
  obtain ⟨_, _, rfl⟩ := hu
  rfl
theorem push_row {W wr w1 : World} {B n : Nat} {x : Pl} {ts : List Pl} {sv : Value} {g cap : Nat} {o : Obj} (hB : Below B W wr) (hBB : B ≤ wr.heap.size) (hr : wr.ownsRow B 22 1 sv n (ts.map slv)) (hn : n = ts.length)
    (hr1 : w1.ownsRow B 22 1 (.slice (some ⟨g, 0, none⟩) (n + 1) cap) (n + 1) (ts.map slv ++ [slv x])) (hg : (wr.alloc o).grownBy w1 sv.ownBlock) :
    w1.ownsRow B 22 1 (.slice (some ⟨g, 0, none⟩) (n + 1) cap) (ts ++ [x]).length ((ts ++ [x]).map slv) ∧ Below B W w1 := by
  subst hn
  refine ⟨by simpa using hr1, hB.trans ?_⟩
  refine ((Below.refl _ _).alloc hBB o).trans ?_
  refine (Kp.grown (F := fun k => B ≤ k) hg fun k _ e => (hr.lt k e.symm).1).below (by simp; omega) fun k hk => hk
/-- What is in a thing. -/
theorem inside_any (v : V) (ao : Option Addr) (cap : Nat) (w : World) : Calls Try.prog 28 #[.agg #[.int .i64 v.kind, .int .i64 v.k, .int .i64 v.n, .slice ao v.l.length cap]] w fun e w' => e = .returned (.slice ao v.l.length cap) ∧ Quiet w w' := by
  go_enter Try.func28, Try.ntmps28
  go_wp2
  go_ret
  exact ⟨rfl, Kp.alloc _ _⟩
theorem kp_set (w : World) (b o : Nat) (y : Value) : Kp (fun k => k = b) w (w.setCell ⟨b, o, none⟩ y) := Kp.setCell w ⟨b, o, none⟩ y rfl
end Go.Proofs.Ytjcniiojcigefad
