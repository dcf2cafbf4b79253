/- The contracts of package vals that look at a part by itself: partsOf, fault. The search among values: those that are still to be looked at, in a row. -/
import Derived.Test.YtclkaamcoicgcaeJBase
namespace Go.Proofs.Ytclkaamcoicgcae
open Go.ChangeShapes Go.WideShapes Go.ChangeAt Go.RowKit
theorem parts_cases {k : Int} {p : Nat} (h : partsB k = some p) : (k = 2 ∧ p = 2) ∨ (k = 3 ∧ p = 1) ∨ (k = 0 ∧ p = 0) ∨ (k = 1 ∧ p = 0) ∨ (k = 4 ∧ p = 0) ∨ (k = 5 ∧ p = 0) := by
  unfold partsB at h
  by_cases h2 : k = 2
  · rw [if_pos h2] at h; simp at h; omega
  · rw [if_neg h2] at h
    by_cases h3 : k = 3
    · rw [if_pos h3] at h; simp at h; omega
    · rw [if_neg h3] at h
      by_cases h4 : k = 0 ∨ k = 1 ∨ k = 4 ∨ k = 5
      · rw [if_pos h4] at h; simp at h; omega
      · rw [if_neg h4] at h; simp at h
theorem parts_none {k : Int} (h : partsB k = none) : k ≠ 2 ∧ k ≠ 3 ∧ k ≠ 0 ∧ k ≠ 1 ∧ k ≠ 4 ∧ k ≠ 5 := by
  unfold partsB at h
  refine ⟨?_, ?_, ?_, ?_, ?_, ?_⟩ <;> rintro rfl <;> simp at h
theorem partsOf_some {k : Int} {p : Nat} (h : partsB k = some p) (w : World) : Calls Try.prog 70 #[.int .i64 k] w fun e w' => e = .returned (.tuple #[.int .i64 p, .bool true]) ∧ w' = w := by
  rcases parts_cases h with ⟨rfl, rfl⟩ | ⟨rfl, rfl⟩ | ⟨rfl, rfl⟩ | ⟨rfl, rfl⟩ | ⟨rfl, rfl⟩ | ⟨rfl, rfl⟩ <;> clear h
  all_goals
    go_enter Try.func70, Try.ntmps70
    go_wp2
    go_ret2
    exact ⟨rfl, rfl⟩
theorem partsOf_none {k : Int} (h : partsB k = none) (w : World) : Calls Try.prog 70 #[.int .i64 k] w fun e w' => e = .returned (.tuple #[.int .i64 0, .bool false]) ∧ w' = w := by
  obtain ⟨h2, h3, h0, h1, h4, h5⟩ := parts_none h
  clear h
  go_enter Try.func70, Try.ntmps70
  go_wp2
  go_ret2
  exact ⟨rfl, rfl⟩
theorem fault_any (v : V) (ao : Option Addr) (cap : Nat) (w : World) : Calls Try.prog 58 #[.agg #[.int .i64 v.kind, .int .i64 v.n, .slice ao v.l.length cap]] w fun e w' => e = .returned (.int .i64 v.fault1) ∧ Quiet w w' := by
  obtain ⟨k, n, l⟩ := v
  cases hp : partsB k with
  | none =>
    have hE := hid (show (V.mk k n l).fault1 = 2 by simp [V.fault1, hp])
    go_enter Try.func58, Try.ntmps58
    go_wp2_with (go_at_call 70; refine (partsOf_none hp _).mono ?_; rintro e w' ⟨rfl, rfl⟩)
    go_ret
    exact ⟨by rw [hE.out]; rfl, Kp.alloc _ _⟩
  | some p =>
    by_cases hl : l.length = p
    · have hE := hid (show (V.mk k n l).fault1 = if (k = 0 ∨ k = 2) ∧ n ≠ 0 then 5 else if (k = 3 ∨ k = 4 ∨ k = 5) ∧ n < 0 then 1 else 0 by simp [V.fault1, hp, hl])
      generalize l.length = ll at *
      subst hl
      rcases parts_cases hp with ⟨rfl, rfl⟩ | ⟨rfl, rfl⟩ | ⟨rfl, rfl⟩ | ⟨rfl, rfl⟩ | ⟨rfl, rfl⟩ | ⟨rfl, rfl⟩
      all_goals
        go_enter Try.func58, Try.ntmps58
        go_wp2_with (go_at_call 70; refine (partsOf_some hp _).mono ?_; rintro e w' ⟨rfl, rfl⟩)
        all_goals go_ret
        all_goals exact ⟨by rw [hE.out]; first | rfl | (simp [*]; done) | simp_all, Kp.alloc _ _⟩
    · have hE := hid (show (V.mk k n l).fault1 = 5 by simp [V.fault1, hp, hl])
      have hl' : (l.length : Int) ≠ (p : Int) := by omega
      go_enter Try.func58, Try.ntmps58
      go_wp2_with (go_at_call 70; refine (partsOf_some hp _).mono ?_; rintro e w' ⟨rfl, rfl⟩)
      go_ret
      exact ⟨by rw [hE.out]; rfl, Kp.alloc _ _⟩
end Go.Proofs.Ytclkaamcoicgcae
namespace Go.Proofs.Ytclkaamcoicgcae
open Go.ChangeShapes Go.WideShapes Go.ChangeAt Go.RowKit
/-- Two rows of things of two types lie in two blocks. -/
theorem rows_apart {w : World} {B1 B2 : Nat} {t1 t2 : TypeId} {s1 s2 n1 n2 : Nat} {v1 v2 : Value} {xs1 xs2 : List Value} (h1 : w.ownsRow B1 t1 s1 v1 n1 xs1) (h2 : w.ownsRow B2 t2 s2 v2 n2 xs2) (ht : t1 ≠ t2) (k : Nat) (e1 : v1.ownBlock = some k) : v2.ownBlock ≠ some k := by
  intro e2
  rcases h1.2 with ⟨rfl, _⟩ | ⟨g1, c1, cur1, rfl, _, hh1, _⟩
  · simp [Value.ownBlock] at e1
  · rcases h2.2 with ⟨rfl, _⟩ | ⟨g2, c2, cur2, rfl, _, hh2, _⟩
    · simp [Value.ownBlock] at e2
    · simp [Value.ownBlock] at e1 e2
      subst e1; subst e2
      rw [hh1] at hh2
      simp at hh2
      exact ht hh2.2
/-- A block of another type is not the row's. -/
theorem row_other {w : World} {B : Nat} {t t' : TypeId} {s n : Nat} {v : Value} {xs : List Value} {k : Nat} {c : Array Value} (h : w.ownsRow B t s v n xs) (hk : w.heap[k]? = some (.cells c t' (0, 0))) (ht : t ≠ t') : v.ownBlock ≠ some k := by
  intro e
  rcases h.2 with ⟨rfl, _⟩ | ⟨g, cp, cur, rfl, _, hh, _⟩
  · simp [Value.ownBlock] at e
  · simp [Value.ownBlock] at e
    subst e
    rw [hh] at hk
    simp at hk
    exact ht hk.2
/-- The state of the search. -/
structure VS (W : World) (sv : Value) (ts : List Kd) (w : World) : Prop where
  row : w.ownsRow W.heap.size 25 3 sv ts.length (tris ts)
  lie : ∀ p ∈ ts, Is W p.1 p.2.1
  low : Below W.heap.size W w
theorem VS.quiet {W w w' : World} {sv : Value} {ts : List Kd} (H : VS W sv ts w) (q : Quiet w w') : VS W sv ts w' :=
  ⟨q.row H.row fun _ _ e => e, H.lie, low_of H.low q H.low.size⟩
/-- Other blocks turn. -/
theorem VS.step {W w w' : World} {sv : Value} {ts : List Kd} {F : Nat → Prop} (H : VS W sv ts w) (q : Kp F w w') (hF : ∀ k, F k → W.heap.size ≤ k) (hr : ∀ k, sv.ownBlock = some k → ¬ F k) : VS W sv ts w' :=
  ⟨q.row H.row hr, H.lie, H.low.trans (q.below H.low.size hF)⟩
theorem VS.push {W w w1 : World} {sv : Value} {ts : List Kd} {x : Kd} {n g cap : Nat} {o : Obj} (H : VS W sv ts w) (hx : Is W x.1 x.2.1) (hn : n = ts.length)
    (hr1 : w1.ownsRow W.heap.size 25 3 (.slice (some ⟨g, 0, none⟩) (n + 1) cap) (n + 1) (tris ts ++ tri x)) (hg : (w.alloc o).grownBy w1 sv.ownBlock) : VS W (.slice (some ⟨g, 0, none⟩) (n + 1) cap) (ts ++ [x]) w1 := by
  subst hn
  refine ⟨by rw [tris_app, tris_one]; simpa using hr1, fun p hp => ?_, ?_⟩
  · rcases List.mem_append.1 hp with hp | hp
    · exact H.lie p hp
    · simp at hp; subst hp; exact hx
  · refine H.low.trans (((Below.refl _ _).alloc H.low.size o).trans ?_)
    exact (Kp.grown (F := fun k => W.heap.size ≤ k) hg fun k _ e => (H.row.lt k e.symm).1).below (by simp; have := H.low.size; omega) fun k hk => hk
theorem vs_start {W w : World} {v : V} {ao : Option Addr} {cap : Nat} {o : Obj} (hI : Is W v ao) (hB : Below W.heap.size W w) : VS W (.slice (some ⟨w.heap.size + 1, 0, none⟩) 1 1) [(v, ao, cap)] ((w.alloc o).alloc (.cells #[.int .i64 v.kind, .int .i64 v.n, .slice ao v.l.length cap] 25)) := by
  have q : Quiet w ((w.alloc o).alloc (.cells #[.int .i64 v.kind, .int .i64 v.n, .slice ao v.l.length cap] 25)) := (Kp.alloc _ _).trans (Kp.alloc _ _)
  have hs := hB.size
  refine ⟨⟨by simp [tris_len], .inr ⟨w.heap.size + 1, 1, _, rfl, by omega, heap_two w _ _, Nat.le_refl _, by decide, by simp, by simp [tris_one, tri]⟩⟩, fun p hp => ?_, low_of hB q hB.size⟩
  simp at hp; subst hp; exact hI
theorem tri_cells {w : World} {g m : Nat} {v : V} {ao : Option Addr} {cap : Nat} (h : ∀ j, j < 3 → w.cell? ⟨g, m + j, none⟩ = (tri (v, ao, cap))[j]?) :
    w.cell? ⟨g, m, none⟩ = some (.int .i64 v.kind) ∧ w.cell? ⟨g, m + 1, none⟩ = some (.int .i64 v.n) ∧ w.cell? ⟨g, m + 2, none⟩ = some (.slice ao v.l.length cap) :=
  ⟨h 0 (by decide), h 1 (by decide), h 2 (by decide)⟩
theorem rev_take {α : Type} (l : List α) (j : Nat) (h : j < l.length) : l.reverse.take (j + 1) = l.reverse.take j ++ [l[l.length - 1 - j]] := by
  rw [take_snoc l.reverse j (by simpa using h)]; simp
def vsz (ts : List Kd) : Nat := (ts.map fun p => p.1.size).sum
theorem vsz_app (a b : List Kd) : vsz (a ++ b) = vsz a + vsz b := by simp [vsz]
theorem vsz_one (p : Kd) : vsz [p] = p.1.size := by simp [vsz]
theorem vsz_len (ts : List Kd) : ts.length ≤ vsz ts := by
  induction ts with
  | nil => simp [vsz]
  | cons x ts ih => have := size_pos x.1; simp [vsz] at ih ⊢; omega
theorem vsz_map (ts : List Kd) : vsz ts = sizes (ts.map (·.1)) := by
  induction ts with
  | nil => simp [vsz, sizes_nil]
  | cons x ts ih => rw [List.map_cons, sizes_cons, ← ih]; simp [vsz]
theorem sizes_rev (l : List V) : sizes l.reverse = sizes l := by
  induction l with
  | nil => rfl
  | cons x l ih => rw [List.reverse_cons, sizes_append, ih, sizes_cons, sizes_cons, sizes_nil]; omega
/-- What is still to be looked at, in its order. -/
def pend (ts : List Kd) : List V := pres (ts.map (·.1)).reverse
theorem pend_nil : pend [] = [] := by simp [pend, pres_nil]
theorem pend_one (p : Kd) : pend [p] = p.1.pre := by simp [pend, pres_one]
theorem pend_pop (ts : List Kd) (p : Kd) : pend (ts ++ [p]) = p.1 :: (pres p.1.l ++ pend ts) := by
  simp only [pend, List.map_append, List.map_cons, List.map_nil, List.reverse_append, List.reverse_cons, List.reverse_nil, List.nil_append, List.singleton_append, pres_cons]
  rw [pre_eq]; rfl
theorem pend_push (ts ks : List Kd) (u : V) (h : ks.map (·.1) = u.l.reverse) : pend (ts ++ ks) = pres u.l ++ pend ts := by
  simp only [pend, List.map_append, List.reverse_append, h, List.reverse_reverse, pres_append]
end Go.Proofs.Ytclkaamcoicgcae
