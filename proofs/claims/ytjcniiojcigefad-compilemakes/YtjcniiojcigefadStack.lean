/- Expressions where they stand, in a row; the first fault of several. -/
import Derived.Test.YtjcniiojcigefadPlace
namespace Go.Proofs.Ytjcniiojcigefad
open Go.ChangeShapes Go.WideShapes Go.ChangeAt Go.RowKit
/-- An expression, how many names are open, where its list lies. -/
abbrev Pc := V × Int × Option Addr × Nat
def six (F : Int) (p : Pc) : List Value := [.int .i64 p.1.kind, .int .i64 p.1.k, .int .i64 p.1.n, .slice p.2.2.1 p.1.l.length p.2.2.2, .int .i64 p.2.1, .int .i64 F]
def sixs (F : Int) (ps : List Pc) : List Value := ps.flatMap (six F)
theorem sixs_len (F : Int) (ps : List Pc) : (sixs F ps).length = ps.length * 6 := by
  induction ps with
  | nil => rfl
  | cons p ps ih => simp only [sixs, List.flatMap_cons, List.length_append] at ih ⊢; rw [ih]; simp [six]; omega
theorem sixs_app (F : Int) (a b : List Pc) : sixs F (a ++ b) = sixs F a ++ sixs F b := by simp [sixs]
theorem sixs_one (F : Int) (p : Pc) : sixs F [p] = six F p := by simp [sixs]
theorem sixs_at (F : Int) (ps : List Pc) (k j : Nat) (hk : k < ps.length) (hj : j < 6) : (sixs F ps)[k * 6 + j]? = (six F ps[k])[j]? := by
  induction ps generalizing k with
  | nil => simp at hk
  | cons e es ih =>
    cases k with
    | zero => simp only [sixs, List.flatMap_cons]; rw [List.getElem?_append_left (by simp [six]; omega)]; simp
    | succ k =>
      simp only [sixs, List.flatMap_cons]
      rw [List.getElem?_append_right (by simp [six]; omega)]
      have := ih k (by simpa using hk)
      simp only [sixs] at this
      rw [show (k + 1) * 6 + j - (six F e).length = k * 6 + j by simp [six]; omega, this]
      simp
theorem six_one (F : Int) (p : Pc) : ∀ u ∈ six F p, u.oneCell' = true := by
  intro u hu
  simp only [six, List.mem_cons, List.not_mem_nil, or_false] at hu
  rcases hu with rfl | rfl | rfl | rfl | rfl | rfl <;> rfl
theorem Try.infoPl : (Try.prog.info? 61).map (fun i => (i.zero, i.size, i.bytes)) = some (some (.agg #[.int .i64 0, .int .i64 0, .int .i64 0, .slice none 0 0, .int .i64 0, .int .i64 0]), 6, 64) := by kernel_rfl
theorem Try.undPl : Try.prog.underlying 74 = some (.slice 61) := by kernel_rfl
/-- What is in one, where it stands. -/
def kids (v : V) (o : Int) : List (V × Int) := v.l.mapIdx fun i x => (x, opens v.kind o i)
theorem kids_len (v : V) (o : Int) : (kids v o).length = v.l.length := by simp [kids]
def firsts (F : Int) : List (V × Int) → Int
  | [] => 0
  | (v, o) :: l => if v.bad F o = 0 then firsts F l else v.bad F o
theorem firsts_app (F : Int) (a b : List (V × Int)) : firsts F (a ++ b) = if firsts F a = 0 then firsts F b else firsts F a := by
  induction a with
  | nil => simp [firsts]
  | cons x a ih =>
    obtain ⟨v, o⟩ := x
    by_cases h : v.bad F o = 0
    · simp only [List.cons_append, firsts, h, if_true]; exact ih
    · simp only [List.cons_append, firsts, h, if_false]
theorem bads_kids (F kind : Int) (l : List V) (o : Int) : ∀ i, bads F kind l i o = firsts F (l.mapIdx fun j x => (x, opens kind o (i + j))) := by
  induction l with
  | nil => intro i; simp [bads_nil, firsts]
  | cons v l ih =>
    intro i
    rw [bads_cons, ih, List.mapIdx_cons]
    simp only [firsts, Nat.add_zero]
    have e : (fun j x => (x, opens kind o (i + 1 + j))) = fun (j : Nat) (x : V) => (x, opens kind o (i + (j + 1))) := by
      funext j x; rw [show i + 1 + j = i + (j + 1) by omega]
    rw [e]
theorem bad_kids (F : Int) (v : V) (o : Int) : v.bad F o = if fault1 F v o = 0 then firsts F (kids v o) else fault1 F v o := by
  rw [bad_eq, bads_kids]; simp [kids]
theorem firsts_pop (F : Int) (v : V) (o : Int) (l : List (V × Int)) (h : fault1 F v o = 0) : firsts F ((v, o) :: l) = firsts F (kids v o ++ l) := by
  rw [firsts_app, firsts, bad_kids, if_pos h]
theorem firsts_stop (F : Int) (v : V) (o : Int) (l : List (V × Int)) (h : fault1 F v o ≠ 0) : firsts F ((v, o) :: l) = fault1 F v o := by
  rw [firsts, bad_kids, if_neg h, if_neg h]
theorem fault1_open {F : Int} {v : V} {o : Int} (h : fault1 F v o = 0) (ho : 0 ≤ o ∧ o ≤ 12) : ∀ i, 0 ≤ opens v.kind o i ∧ opens v.kind o i ≤ 12 := by
  intro i
  unfold opens
  by_cases hk : v.kind = 5 ∧ i = 1
  · rw [if_pos hk]
    have h2 : ¬ 12 ≤ o := by
      intro h3
      unfold fault1 at h
      by_cases h1 : partsI v.kind < 0
      · rw [if_pos h1] at h; simp at h
      rw [if_neg h1] at h
      by_cases h4 : (v.l.length : Int) ≠ partsI v.kind
      · rw [if_pos h4] at h; simp at h
      rw [if_neg h4] at h
      by_cases h5 : v.n ≠ 0 ∧ v.kind ≠ 2
      · rw [if_pos h5] at h; simp at h
      rw [if_neg h5] at h
      by_cases h6 : faultK F v.kind v.k o ≠ 0
      · rw [if_pos h6] at h; exact h6 h
      rw [if_neg h6, if_pos ⟨hk.1, h3⟩] at h
      simp at h
    omega
  · rw [if_neg hk]; exact ho
def vo (p : Pc) : V × Int := (p.1, p.2.1)
/-- How many are in those that are still to be looked at. -/
def psz (ps : List Pc) : Nat := (ps.map fun p => p.1.size).sum
theorem psz_app (a b : List Pc) : psz (a ++ b) = psz a + psz b := by simp [psz]
theorem psz_one (p : Pc) : psz [p] = p.1.size := by simp [psz]
theorem psz_len (ps : List Pc) : ps.length ≤ psz ps := by
  induction ps with
  | nil => simp [psz]
  | cons x ts ih => have := size_pos x.1; simp [psz] at ih ⊢; omega
theorem psz_rev (ps : List Pc) : psz ps.reverse = psz ps := by
  induction ps with
  | nil => rfl
  | cons x ps ih => rw [List.reverse_cons, psz_app, ih, psz_one]; simp [psz]; omega
theorem psz_vo {ps : List Pc} {v : V} {o : Int} (h : ps.map vo = kids v o) : psz ps = sizes v.l := by
  have h1 : ps.map (·.1) = v.l := by
    have h2 := congrArg (List.map Prod.fst) h
    rw [List.map_map] at h2
    have h3 : (kids v o).map Prod.fst = v.l := by
      unfold kids
      apply List.ext_getElem <;> simp
    rw [h3] at h2
    exact h2
  have h2 : psz ps = (List.map V.size (ps.map (·.1))).sum := by simp [psz]; rfl
  rw [h2, h1]
  clear h h1 h2
  induction v.l with
  | nil => simp [sizes_nil]
  | cons x l ih => rw [sizes_cons, List.map_cons, List.sum_cons, ih]
theorem push_row6 {W wr w1 : World} {B n : Nat} {F : Int} {x : Pc} {ts : List Pc} {sv : Value} {g cap : Nat} {o : Obj} (hB : Below B W wr) (hBB : B ≤ wr.heap.size) (hr : wr.ownsRow B 61 6 sv n (sixs F ts)) (hn : n = ts.length)
    (hr1 : w1.ownsRow B 61 6 (.slice (some ⟨g, 0, none⟩) (n + 1) cap) (n + 1) (sixs F ts ++ six F x)) (hg : (wr.alloc o).grownBy w1 sv.ownBlock) :
    w1.ownsRow B 61 6 (.slice (some ⟨g, 0, none⟩) (n + 1) cap) (ts ++ [x]).length (sixs F (ts ++ [x])) ∧ Below B W w1 := by
  subst hn
  refine ⟨by rw [sixs_app, sixs_one]; simpa using hr1, hB.trans ?_⟩
  refine ((Below.refl _ _).alloc hBB o).trans ?_
  refine (Kp.grown (F := fun k => B ≤ k) hg fun k _ e => (hr.lt k e.symm).1).below (by simp; omega) fun k hk => hk
end Go.Proofs.Ytjcniiojcigefad
