/- Where instructions go, which names are open at each, how many steps there are. -/
import Derived.Test.YtjcniiojcigefadCMath
namespace Go.Proofs.Ytjcniiojcigefad
/-- The names that are open behind an instruction. -/
def openI (x : Ik) (o : Int) : Int := if x.op = 101 then o + 1 else if x.op = 102 then o - 1 else o
def tickI (x : Ik) : Int := if x.op = 100 then 1 else 0
def openL : List Ik → Int → Int
  | [], o => o
  | x :: c, o => openL c (openI x o)
def tickL : List Ik → Int
  | [] => 0
  | x :: c => tickI x + tickL c
/-- What is asked of the instruction at a place. -/
structure Good (len i : Nat) (x : Ik) (o : Int) : Prop where
  jump : x.op = 103 ∨ x.op = 104 → (i : Int) < x.k ∧ x.k < (len : Int)
  var : x.op = 4 → x.k < o
  lo : 0 ≤ openI x o
  hi : openI x o ≤ 12
  back : x.op = 105 ↔ i + 1 = len
def Goods (len : Nat) : List Ik → Nat → Int → Prop
  | [], _, _ => True
  | x :: c, i, o => Good len i x o ∧ Goods len c (i + 1) (openI x o)
theorem openL_app (a b : List Ik) : ∀ o, openL (a ++ b) o = openL b (openL a o) := by
  induction a with
  | nil => intro o; rfl
  | cons x a ih => intro o; exact ih _
theorem tickL_app (a b : List Ik) : tickL (a ++ b) = tickL a + tickL b := by
  induction a with
  | nil => simp [tickL]
  | cons x a ih => rw [List.cons_append, tickL, tickL, ih]; omega
theorem goods_app (len : Nat) (a b : List Ik) : ∀ i o, Goods len (a ++ b) i o ↔ Goods len a i o ∧ Goods len b (i + a.length) (openL a o) := by
  induction a with
  | nil => intro i o; simp [Goods, openL]
  | cons x a ih =>
    intro i o
    rw [List.cons_append, Goods, Goods, ih, List.length_cons, openL, show i + 1 + a.length = i + (a.length + 1) by omega]
    exact and_assoc.symm
theorem goods_get (len : Nat) (c : List Ik) : ∀ i o, Goods len c i o → ∀ j (h : j < c.length), Good len (i + j) c[j] (openL (c.take j) o) := by
  induction c with
  | nil => intro i o _ j h; simp at h
  | cons x c ih =>
    intro i o h j hj
    cases j with
    | zero => exact h.1
    | succ j =>
      have := ih (i + 1) (openI x o) h.2 j (by simpa using hj)
      rw [show i + 1 + j = i + (j + 1) by omega] at this
      simpa [openL] using this
theorem openL_take (c : List Ik) (j : Nat) (h : j < c.length) (o : Int) : openL (c.take (j + 1)) o = openI c[j] (openL (c.take j) o) := by
  rw [List.take_add_one, List.getElem?_eq_getElem h, openL_app]; rfl
theorem tickL_take (c : List Ik) (j : Nat) (h : j < c.length) : tickL (c.take (j + 1)) = tickL (c.take j) + tickI c[j] := by
  rw [List.take_add_one, List.getElem?_eq_getElem h, tickL_app]; simp [tickL]
theorem tickL_le (c : List Ik) : 0 ≤ tickL c ∧ tickL c ≤ c.length := by
  induction c with
  | nil => simp [tickL]
  | cons x c ih => rw [tickL, List.length_cons]; unfold tickI; split <;> omega
/-- An instruction that does not go elsewhere, inside. -/
theorem good_of {len i : Nat} {x : Ik} {o : Int} (h3 : x.op ≠ 103 ∧ x.op ≠ 104) (h4 : x.op = 4 → x.k < o) (hl : 0 ≤ openI x o) (hh : openI x o ≤ 12) (hb : x.op ≠ 105) (hi : i + 1 < len) : Good len i x o :=
  ⟨fun h => by omega, h4, hl, hh, ⟨fun h => absurd h hb, fun h => by omega⟩⟩
theorem good_jump {len i : Nat} {x : Ik} {o : Int} (h3 : x.op = 103 ∨ x.op = 104) (hk : (i : Int) < x.k ∧ x.k < (len : Int)) (hl : 0 ≤ o) (hh : o ≤ 12) (hi : i + 1 < len) : Good len i x o := by
  have e : openI x o = o := by unfold openI; rw [if_neg (by omega), if_neg (by omega)]
  exact ⟨fun _ => hk, fun h => by omega, by rw [e]; exact hl, by rw [e]; exact hh, ⟨fun h => by omega, fun h => by omega⟩⟩
/-- What holds of the instructions of an expression. -/
def CodeGood (v : V) : Prop := ∀ (F o : Int) (p len : Nat), v.bad F o = 0 → 0 ≤ o → o ≤ 12 → p + (v.code p).length < len → Goods len (v.code p) p o ∧ openL (v.code p) o = o ∧ tickL (v.code p) = (v.size : Int)
theorem codes_good (l : List V) : (∀ x ∈ l, CodeGood x) → ∀ (F o : Int) (p len : Nat), (∀ x ∈ l, x.bad F o = 0) → 0 ≤ o → o ≤ 12 → p + (codesP l p).length < len → Goods len (codesP l p) p o ∧ openL (codesP l p) o = o ∧ tickL (codesP l p) = (sizes l : Int) := by
  induction l with
  | nil => intro _ F o p len _ _ _ _; rw [codesP_nil, sizes_nil]; exact ⟨trivial, rfl, rfl⟩
  | cons x l ih =>
    intro hx F o p len hb h0 h12 hp
    rw [codesP_cons, List.length_append] at hp
    obtain ⟨g1, g2, g3⟩ := hx x (by simp) F o p len (hb x (by simp)) h0 h12 (by omega)
    obtain ⟨k1, k2, k3⟩ := ih (fun y hy => hx y (by simp [hy])) F o (p + (x.code p).length) len (fun y hy => hb y (by simp [hy])) h0 h12 (by omega)
    rw [codesP_cons, goods_app, openL_app, tickL_app, g2, g3, k3, sizes_cons]
    exact ⟨⟨g1, k1⟩, k2, by simp⟩
theorem bads_same {F kind : Int} {l : List V} {o : Int} (hk : kind ≠ 5) : ∀ {i : Nat}, bads F kind l i o = 0 → ∀ x ∈ l, x.bad F o = 0 := by
  induction l with
  | nil => intro i _ x hx; simp at hx
  | cons v l ih =>
    intro i h x hx
    obtain ⟨h1, h2⟩ := bads_one h
    rw [opens, if_neg (by omega)] at h1
    rcases List.mem_cons.1 hx with rfl | hx
    · exact h1
    · exact ih h2 x hx
theorem code_good (v : V) : CodeGood v := by
  induction v using V.ind' with
  | h v ih =>
    intro F o p len hb h0 h12 hp
    obtain ⟨hf, hbs⟩ := bad_one hb
    obtain ⟨hk, _, h4, h5⟩ := fault_facts hf
    have tick : Good len p ⟨100, 0, 0⟩ o := good_of (by decide) (fun h => by simp at h) h0 h12 (by decide) (by have := code_pos v p; omega)
    have opn : openI ⟨100, 0, 0⟩ o = o := rfl
    by_cases e5 : v.kind = 5
    · obtain ⟨a, b, hl⟩ := Ok.two ⟨F, o, hb⟩ e5
      have ho := h5 e5
      rw [hl, e5] at hbs
      obtain ⟨ba, hbs⟩ := bads_one hbs
      obtain ⟨bb, _⟩ := bads_one hbs
      rw [opens, if_neg (by omega)] at ba
      rw [opens, if_pos ⟨rfl, rfl⟩] at bb
      rw [code_let e5 hl] at hp ⊢
      unfold letC at hp ⊢
      simp only [List.length_append, List.length_singleton] at hp
      obtain ⟨g1, g2, g3⟩ := ih a (by simp [hl]) F o (p + 1) len ba h0 h12 (by omega)
      obtain ⟨k1, k2, k3⟩ := ih b (by simp [hl]) F (o + 1) (p + 1 + (a.code (p + 1)).length + 1) len bb (by omega) (by omega) (by omega)
      have o1 : openI ⟨101, 0, 0⟩ o = o + 1 := rfl
      have o2 : openI ⟨102, 0, 0⟩ (o + 1) = o := by show o + 1 - 1 = o; omega
      simp only [goods_app, openL_app, tickL_app, Goods, openL, tickL, tickI, g2, g3, k2, k3, opn, o1, o2, List.length_singleton]
      refine ⟨⟨⟨tick, trivial⟩, g1, ⟨good_of (by decide) (fun h => by simp at h) (by rw [o1]; omega) (by rw [o1]; omega) (by decide) (by omega), trivial⟩, k1, good_of (by decide) (fun h => by simp at h) (by rw [o2]; omega) (by rw [o2]; omega) (by decide) (by omega), trivial⟩, ?_⟩
      rw [size_eq v, hl, sizes_cons, sizes_cons, sizes_nil]
      refine ⟨trivial, ?_⟩
      simp
    · by_cases e7 : v.kind = 7
      · obtain ⟨a, b, c, hl⟩ := Ok.three ⟨F, o, hb⟩ e7
        have hall := bads_same e5 hbs
        rw [hl] at hall
        rw [code_if e7 hl] at hp ⊢
        unfold ifC at hp ⊢
        simp only [List.length_append, List.length_singleton] at hp
        have hE : elseAt a b (p + 1) = p + 1 + (a.code (p + 1)).length + 1 + (b.code (p + 1 + (a.code (p + 1)).length + 1)).length + 1 := rfl
        obtain ⟨g1, g2, g3⟩ := ih a (by simp [hl]) F o (p + 1) len (hall a (by simp)) h0 h12 (by omega)
        obtain ⟨k1, k2, k3⟩ := ih b (by simp [hl]) F o (p + 1 + (a.code (p + 1)).length + 1) len (hall b (by simp)) h0 h12 (by omega)
        obtain ⟨m1, m2, m3⟩ := ih c (by simp [hl]) F o (elseAt a b (p + 1)) len (hall c (by simp)) h0 h12 (by omega)
        have o1 : ∀ x, openI ⟨103, x, 0⟩ o = o := fun _ => rfl
        have o2 : ∀ x, openI ⟨104, x, 0⟩ o = o := fun _ => rfl
        simp only [goods_app, openL_app, tickL_app, Goods, openL, tickL, tickI, g2, g3, k2, k3, m2, m3, opn, o1, o2, List.length_singleton]
        refine ⟨⟨⟨tick, trivial⟩, g1, ⟨good_jump (.inl rfl) (by constructor <;> simp only <;> omega) h0 h12 (by omega), trivial⟩, k1, ⟨good_jump (.inr rfl) (by constructor <;> simp only <;> omega) h0 h12 (by omega), trivial⟩, ?_⟩, trivial, ?_⟩
        · rw [show p + 1 + (a.code (p + 1)).length + 1 + (b.code (p + 1 + (a.code (p + 1)).length + 1)).length + 1 = elseAt a b (p + 1) from rfl]; exact m1
        · rw [size_eq v, hl, sizes_cons, sizes_cons, sizes_cons, sizes_nil]
          simp
      · have hall := bads_same e5 hbs
        rw [code_other e5 e7] at hp ⊢
        simp only [List.length_append, List.length_singleton] at hp
        obtain ⟨g1, g2, g3⟩ := codes_good v.l ih F o (p + 1) len hall h0 h12 (by omega)
        have o1 : openI ⟨v.kind, v.k, v.n⟩ o = o := by unfold openI; rw [if_neg (by simp only; omega), if_neg (by simp only; omega)]
        have t1 : tickI ⟨v.kind, v.k, v.n⟩ = 0 := by unfold tickI; rw [if_neg (by simp only; omega)]
        have t0 : tickI ⟨100, 0, 0⟩ = 1 := rfl
        simp only [goods_app, openL_app, tickL_app, Goods, openL, tickL, t0, t1, g2, g3, opn, o1, List.length_singleton]
        refine ⟨⟨⟨tick, trivial⟩, g1, good_of (by simp only; omega) h4 (by rw [o1]; exact h0) (by rw [o1]; exact h12) (by simp only; omega) (by omega), trivial⟩, trivial, ?_⟩
        rw [size_eq v]
        simp
theorem fun_good {v : V} {F : Int} (h : v.bad F 0 = 0) : Goods (funC v).length (funC v) 0 0 ∧ openL (funC v) 0 = 0 ∧ tickL (funC v) = (v.size : Int) := by
  have hl : (funC v).length = (v.code 0).length + 1 := by simp [funC]
  obtain ⟨g1, g2, g3⟩ := code_good v F 0 0 (funC v).length h (by decide) (by decide) (by omega)
  rw [hl] at g1 ⊢
  unfold funC
  simp only [goods_app, openL_app, tickL_app, Goods, openL, tickL, g2, g3]
  refine ⟨⟨g1, ⟨fun h => by simp at h, fun h => by simp at h, by decide, by decide, ⟨fun _ => by omega, fun _ => rfl⟩⟩, trivial⟩, rfl, by simp [tickI]⟩
end Go.Proofs.Ytjcniiojcigefad
