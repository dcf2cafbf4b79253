/- Parts. -/
import Derived.Test.YtkpckmcaeljocaaGreatUE4
namespace Go.Proofs.YtkpckmcaeljocaaGreat.Ex
open Go.ChangeShapes Go.WideShapes Go.ChangeAt Go.RowKit
def great (l : List V) : Bool := decide (20 < l.length) || l.any fun v => decide (600 < v.size)
theorem great_false {l : List V} (h : great l = false) : l.length ≤ 20 ∧ ∀ v ∈ l, v.size ≤ 600 := by
  simp only [great, Bool.or_eq_false_iff, decide_eq_false_iff_not, List.any_eq_false, decide_eq_true_eq] at h
  exact ⟨by omega, fun v hv => by have := h.2 v hv; omega⟩
theorem great_sizes {l : List V} (h : great l = false) : sizes l ≤ 12000 := by
  obtain ⟨h1, h2⟩ := great_false h
  have key : ∀ l : List V, (∀ v ∈ l, v.size ≤ 600) → sizes l ≤ l.length * 600 := by
    intro l
    induction l with
    | nil => intro _; simp [sizes_nil]
    | cons x l ih => intro hx; rw [sizes_cons, List.length_cons]; have := hx x (by simp); have := ih fun v hv => hx v (by simp [hv]); omega
  have := key l h2; omega
set_option maxRecDepth 8000 in
set_option maxHeartbeats 1000000 in
theorem great_any (l : List V) (ao : Option Addr) (cap : Nat) (w : World) (hF : Fo w l ao) :
    Calls Tryz.prog 21 #[.agg #[.slice ao l.length cap]] w fun e w' => e = .returned (.bool (great l)) ∧ Quiet w w' := by
  have hb0 := heap_alloc_new w (.cells #[.slice ao l.length cap] 45)
  by_cases h1 : 20 < l.length
  · have hE := hid (show great l = true by simp [great, h1])
    have h1' : (20 : Int) < (l.length : Int) := by omega
    go_enter Tryz.func21, Tryz.ntmps21
    go_wp2
    go_ret
    exact ⟨by rw [hE.out]; rfl, Kp.alloc _ _⟩
  · have h1' : ¬ (20 : Int) < (l.length : Int) := by omega
    have HG := hid (show great l = l.any fun v => decide (600 < v.size) by simp [great, h1])
    have hl5 : l.length ≤ 20 := by omega
    have HF := hid hF
    clear h1 hF
    go_enter Tryz.func21, Tryz.ntmps21
    go_wp2
    go_loopw [3] (fun i wr => ∃ j : Nat, j ≤ l.length ∧ i = .int .i64 j ∧ ((l.take j).any fun v => decide (600 < v.size)) = false ∧ Quiet w wr ∧ wr.heap[w.heap.size]? = some (.cells #[.slice ao l.length cap] 45 (0, 0))) (fun i _ => l.length - (intOf i).toNat)
    case atStart => exact ⟨0, Nat.zero_le _, rfl, by simp, Kp.alloc _ _, hb0⟩
    case round =>
      rename World => wq
      obtain ⟨j, hj, rfl, hany, q, hb⟩ := hrel
      have x0 := cell_of_one hb
      have HB := hid (And.intro hb hany)
      clear hb hany hb0
      by_cases hlt : j < l.length
      · obtain ⟨b, off, rfl, dh, ai, ci, ds, hci⟩ := (HF.out.quiet q).get j hlt
        obtain ⟨d0, d9, d1⟩ := dh
        have HC := hid (size_any 601 l[j] ai ci 600 wq (by decide) (by decide) hci)
        have HN := hid (take_snoc l j hlt)
        have HM := hid (List.getElem_mem hlt)
        generalize hcu : l[j] = c at *
        clear hcu hci
        by_cases hbig : 600 < c.size
        · have hE := hid (show great l = true by rw [HG.out]; exact List.any_eq_true.2 ⟨c, HM.out, by simpa using hbig⟩)
          go_wp2_with (go_at_call 36; refine HC.out.mono ?_; rintro e w3 ⟨r, rfl, k1, k2, k3, k4, q3⟩; have hr : (600 : Int) < (r : Int) := (by have := k4 hbig; omega); clear k3 k4)
          go_ret
          exact ⟨by rw [hE.out]; rfl, q.trans q3⟩
        · go_wp2_with (go_at_call 36; refine HC.out.mono ?_; rintro e w3 ⟨r, rfl, k1, k2, k3, k4, q3⟩; have hr : ¬ (600 : Int) < (r : Int) := (by have := k3 (by omega); omega); clear k3 k4)
          refine ⟨⟨j + 1, by omega, by go_num, ?_, q.trans q3, (q3.block _ (lt_of_block HB.out.1) fun e => e).trans HB.out.1⟩, by simp [intOf]; omega⟩
          rw [HN.out, List.any_append, HB.out.2]; simp; omega
      · have hjl : j = l.length := by omega
        have hE := hid (show great l = false by have h := HB.out.2; rw [hjl, List.take_length] at h; rw [HG.out]; exact h)
        subst hjl
        go_wp2
        go_ret
        exact ⟨by rw [hE.out]; rfl, q⟩
structure MS (W : World) (h : Nat) (l : List V) (j : Nat) (av : Option Addr) (n cv : Nat) (ps : List Kd) (w : World) : Prop where
  obj : w.heap[h + 2]? = some (.cells #[.slice av n cv] 45 (0, 0))
  row : w.ownsRow (h + 3) 105 4 (.slice av n cv) n (tris ps)
  len : n = ps.length
  all : ∀ p ∈ ps, Hold (h + 3) (Value.slice av n cv).ownBlock w p.1 p.2.1
  map : ps.map (·.1) = l.take j
  low : Below (h + 2) W w
  sz : h + 3 ≤ w.heap.size
theorem funs_ok (F : Int) (l : List V) : ∀ i, (funs F l i).1 = 0 → ∀ v ∈ l, fun1 F v = 0 := by
  induction l with
  | nil => intro i _ v hv; simp at hv
  | cons x l ih =>
    intro i h v hv
    rw [funs] at h
    by_cases h0 : fun1 F x = 0
    · rw [if_pos h0] at h
      rcases List.mem_cons.1 hv with rfl | hv
      · exact h0
      · exact ih _ h v hv
    · rw [if_neg h0] at h; exact absurd h h0
theorem fun1_ok {F : Int} {v : V} (h : fun1 F v = 0) : v.bad F 0 = 0 := by
  unfold fun1 at h
  by_cases h1 : 30 < v.deep
  · rw [if_pos h1] at h; cases h
  · rw [if_neg h1] at h
    by_cases h2 : 120 < v.size
    · rw [if_pos h2] at h; cases h
    · rwa [if_neg h2] at h
theorem modFault_ok {l : List V} (h : (modFault l).1 = 0) : ∀ v ∈ l, Ok v := by
  unfold modFault at h
  by_cases h1 : l.length < 1 ∨ 6 < l.length
  · rw [if_pos h1] at h; cases h
  · rw [if_neg h1] at h
    exact fun v hv => ⟨_, 0, fun1_ok (funs_ok _ l 0 h v hv)⟩
theorem make_any (l : List V) (ao : Option Addr) (cap : Nat) (w : World) (hF : Fo (cln w) l ao) (hS : sizes l ≤ 20000) :
    Calls Tryz.prog 71 #[.agg #[.slice ao l.length cap]] w fun e w' => MakeQ (fun f => f = modFault l) l w e w' := by
  refine make_of l ao cap w hF.unclean hS (fun f => f = modFault l) (fun f hf h0 => modFault_ok (hf ▸ h0)) fun w1 q => ?_
  refine (check_any l ao cap w1 (hF.cleanQ q) hS).mono ?_
  rintro e w' ⟨he, q'⟩
  exact ⟨modFault l, he, rfl, q'⟩
theorem make_z (l : List V) (ao : Option Addr) (cap : Nat) (w : World) (hF : Fo (thw w) l ao) (hS : sizes l ≤ 20000) :
    Calls Tryz.prog 71 #[.agg #[.slice ao l.length cap]] w fun e w' => MakeQ (fun f => f.1 = 0 → 1 ≤ l.length ∧ ∀ v ∈ l, v.bad l.length 0 = 0) l w e w' :=
  make_of l ao cap w hF.unthaw hS _ (fun _ hf h0 v hv => ⟨_, 0, (hf h0).2 v hv⟩) fun w1 q => (check_z l ao cap w1 (hF.thawQ q) hS).mono fun _ _ h => h
theorem Md.get {B : Nat} {w : World} {ao : Option Addr} {n cap : Nat} {ps : List Ls} (h : Md B w (.slice ao n cap) n ps) (j : Nat) (c : List Ik) (hc : (ps.map (·.1))[j]? = some c) :
    ∃ g fa fc, ao = some ⟨g, 0, none⟩ ∧ w.cell? ⟨g, j, none⟩ = some (.slice fa c.length fc) ∧ w.ownsRow B 165 3 (.slice fa c.length fc) c.length (insC c) := by
  rw [List.getElem?_map] at hc
  obtain ⟨p, hp, rfl⟩ : ∃ p, ps[j]? = some p ∧ p.1 = c := by
    cases e : ps[j]? with
    | none => rw [e] at hc; simp at hc
    | some p => rw [e] at hc; exact ⟨p, rfl, by simpa using hc⟩
  obtain ⟨hj, hp2⟩ := List.getElem?_eq_some_iff.1 hp
  have hl := h.len
  obtain ⟨g, e, d⟩ := owns_at h.row (by omega)
  refine ⟨g, p.2.1, p.2.2, e, ?_, h.all p (hp2 ▸ List.getElem_mem hj)⟩
  rw [d j (by omega), List.getElem?_map, hp]; rfl
def cv : V := ⟨2, 0, 5, []⟩
theorem cell_on {w : World} {a : Addr} {x : Value} (h : w.cell? a = some x) (o : Obj) : (w.alloc o).cell? a = some x := (Kp.alloc (F := fun _ => False) w o).cell h fun e => e
end Go.Proofs.YtkpckmcaeljocaaGreat.Ex
namespace Go.Proofs.YtkpckmcaeljocaaGreat.Ex
def openI (x : Ik) (o : Int) : Int := if x.op = 101 then o + 1 else if x.op = 102 then o - 1 else o
def tickI (x : Ik) : Int := if x.op = 100 then 1 else 0
def openL : List Ik → Int → Int
  | [], o => o
  | x :: c, o => openL c (openI x o)
def tickL : List Ik → Int
  | [] => 0
  | x :: c => tickI x + tickL c
structure Good (len i : Nat) (x : Ik) (o : Int) : Prop where
  jump : x.op = 103 ∨ x.op = 104 → (i : Int) < x.k ∧ x.k < (len : Int)
  var : x.op = 4 → x.k < o
  lo : 0 ≤ openI x o
  hi : openI x o ≤ 12
  back : x.op = 105 ↔ i + 1 = len
def Goods (len : Nat) : List Ik → Nat → Int → Prop
  | [], _, _ => True
  | x :: c, i, o => Good len i x o ∧ Goods len c (i + 1) (openI x o)
theorem openL_app (a b : List Ik) : ∀ o, openL (a ++ b) o = openL b (openL a o) := by
  induction a with
  | nil => intro o; rfl
  | cons x a ih => intro o; exact ih _
theorem tickL_app (a b : List Ik) : tickL (a ++ b) = tickL a + tickL b := by
  induction a with
  | nil => simp [tickL]
  | cons x a ih => rw [List.cons_append, tickL, tickL, ih]; omega
theorem goods_app (len : Nat) (a b : List Ik) : ∀ i o, Goods len (a ++ b) i o ↔ Goods len a i o ∧ Goods len b (i + a.length) (openL a o) := by
  induction a with
  | nil => intro i o; simp [Goods, openL]
  | cons x a ih =>
    intro i o
    rw [List.cons_append, Goods, Goods, ih, List.length_cons, openL, show i + 1 + a.length = i + (a.length + 1) by omega]
    exact and_assoc.symm
theorem goods_get (len : Nat) (c : List Ik) : ∀ i o, Goods len c i o → ∀ j (h : j < c.length), Good len (i + j) c[j] (openL (c.take j) o) := by
  induction c with
  | nil => intro i o _ j h; simp at h
  | cons x c ih =>
    intro i o h j hj
    cases j with
    | zero => exact h.1
    | succ j =>
      have := ih (i + 1) (openI x o) h.2 j (by simpa using hj)
      rw [show i + 1 + j = i + (j + 1) by omega] at this
      simpa [openL] using this
theorem good_of {len i : Nat} {x : Ik} {o : Int} (h3 : x.op ≠ 103 ∧ x.op ≠ 104) (h4 : x.op = 4 → x.k < o) (hl : 0 ≤ openI x o) (hh : openI x o ≤ 12) (hb : x.op ≠ 105) (hi : i + 1 < len) : Good len i x o :=
  ⟨fun h => by omega, h4, hl, hh, ⟨fun h => absurd h hb, fun h => by omega⟩⟩
theorem good_jump {len i : Nat} {x : Ik} {o : Int} (h3 : x.op = 103 ∨ x.op = 104) (hk : (i : Int) < x.k ∧ x.k < (len : Int)) (hl : 0 ≤ o) (hh : o ≤ 12) (hi : i + 1 < len) : Good len i x o := by
  have e : openI x o = o := by unfold openI; rw [if_neg (by omega), if_neg (by omega)]
  exact ⟨fun _ => hk, fun h => by omega, by rw [e]; exact hl, by rw [e]; exact hh, ⟨fun h => by omega, fun h => by omega⟩⟩
def CodeGood (v : V) : Prop := ∀ (F o : Int) (p len : Nat), v.bad F o = 0 → 0 ≤ o → o ≤ 12 → p + (v.code p).length < len → Goods len (v.code p) p o ∧ openL (v.code p) o = o ∧ tickL (v.code p) = (v.size : Int)
theorem codes_good (l : List V) : (∀ x ∈ l, CodeGood x) → ∀ (F o : Int) (p len : Nat), (∀ x ∈ l, x.bad F o = 0) → 0 ≤ o → o ≤ 12 → p + (codesP l p).length < len → Goods len (codesP l p) p o ∧ openL (codesP l p) o = o ∧ tickL (codesP l p) = (sizes l : Int) := by
  induction l with
  | nil => intro _ F o p len _ _ _ _; rw [codesP_nil, sizes_nil]; exact ⟨trivial, rfl, rfl⟩
  | cons x l ih =>
    intro hx F o p len hb h0 h12 hp
    rw [codesP_cons, List.length_append] at hp
    obtain ⟨g1, g2, g3⟩ := hx x (by simp) F o p len (hb x (by simp)) h0 h12 (by omega)
    obtain ⟨k1, k2, k3⟩ := ih (fun y hy => hx y (by simp [hy])) F o (p + (x.code p).length) len (fun y hy => hb y (by simp [hy])) h0 h12 (by omega)
    rw [codesP_cons, goods_app, openL_app, tickL_app, g2, g3, k3, sizes_cons]
    exact ⟨⟨g1, k1⟩, k2, by simp⟩
theorem bads_same {F kind : Int} {l : List V} {o : Int} (hk : kind ≠ 5) : ∀ {i : Nat}, bads F kind l i o = 0 → ∀ x ∈ l, x.bad F o = 0 := by
  induction l with
  | nil => intro i _ x hx; simp at hx
  | cons v l ih =>
    intro i h x hx
    obtain ⟨h1, h2⟩ := bads_one h
    rw [opens, if_neg (by omega)] at h1
    rcases List.mem_cons.1 hx with rfl | hx
    · exact h1
    · exact ih h2 x hx
theorem code_good (v : V) : CodeGood v := by
  induction v using V.ind' with
  | h v ih =>
    intro F o p len hb h0 h12 hp
    obtain ⟨hf, hbs⟩ := bad_one hb
    obtain ⟨hk, _, h4, h5⟩ := fault_facts hf
    have tick : Good len p ⟨100, 0, 0⟩ o := good_of (by decide) (fun h => by simp at h) h0 h12 (by decide) (by have := code_pos v p; omega)
    have opn : openI ⟨100, 0, 0⟩ o = o := rfl
    by_cases e5 : v.kind = 5
    · obtain ⟨a, b, hl⟩ := Ok.two ⟨F, o, hb⟩ e5
      have ho := h5 e5
      rw [hl, e5] at hbs
      obtain ⟨ba, hbs⟩ := bads_one hbs
      obtain ⟨bb, _⟩ := bads_one hbs
      rw [opens, if_neg (by omega)] at ba
      rw [opens, if_pos ⟨rfl, rfl⟩] at bb
      rw [code_let e5 hl] at hp ⊢
      unfold letC at hp ⊢
      simp only [List.length_append, List.length_singleton] at hp
      obtain ⟨g1, g2, g3⟩ := ih a (by simp [hl]) F o (p + 1) len ba h0 h12 (by omega)
      obtain ⟨k1, k2, k3⟩ := ih b (by simp [hl]) F (o + 1) (p + 1 + (a.code (p + 1)).length + 1) len bb (by omega) (by omega) (by omega)
      have o1 : openI ⟨101, 0, 0⟩ o = o + 1 := rfl
      have o2 : openI ⟨102, 0, 0⟩ (o + 1) = o := by show o + 1 - 1 = o; omega
      simp only [goods_app, openL_app, tickL_app, Goods, openL, tickL, tickI, g2, g3, k2, k3, opn, o1, o2, List.length_singleton]
      refine ⟨⟨⟨tick, trivial⟩, g1, ⟨good_of (by decide) (fun h => by simp at h) (by rw [o1]; omega) (by rw [o1]; omega) (by decide) (by omega), trivial⟩, k1, good_of (by decide) (fun h => by simp at h) (by rw [o2]; omega) (by rw [o2]; omega) (by decide) (by omega), trivial⟩, ?_⟩
      rw [size_eq v, hl, sizes_cons, sizes_cons, sizes_nil]
      refine ⟨trivial, ?_⟩
      simp
    · by_cases e7 : v.kind = 7
      · obtain ⟨a, b, c, hl⟩ := Ok.three ⟨F, o, hb⟩ e7
        have hall := bads_same e5 hbs
        rw [hl] at hall
        rw [code_if e7 hl] at hp ⊢
        unfold ifC at hp ⊢
        simp only [List.length_append, List.length_singleton] at hp
        have hE : elseAt a b (p + 1) = p + 1 + (a.code (p + 1)).length + 1 + (b.code (p + 1 + (a.code (p + 1)).length + 1)).length + 1 := rfl
        obtain ⟨g1, g2, g3⟩ := ih a (by simp [hl]) F o (p + 1) len (hall a (by simp)) h0 h12 (by omega)
        obtain ⟨k1, k2, k3⟩ := ih b (by simp [hl]) F o (p + 1 + (a.code (p + 1)).length + 1) len (hall b (by simp)) h0 h12 (by omega)
        obtain ⟨m1, m2, m3⟩ := ih c (by simp [hl]) F o (elseAt a b (p + 1)) len (hall c (by simp)) h0 h12 (by omega)
        have o1 : ∀ x, openI ⟨103, x, 0⟩ o = o := fun _ => rfl
        have o2 : ∀ x, openI ⟨104, x, 0⟩ o = o := fun _ => rfl
        simp only [goods_app, openL_app, tickL_app, Goods, openL, tickL, tickI, g2, g3, k2, k3, m2, m3, opn, o1, o2, List.length_singleton]
        refine ⟨⟨⟨tick, trivial⟩, g1, ⟨good_jump (.inl rfl) (by constructor <;> simp only <;> omega) h0 h12 (by omega), trivial⟩, k1, ⟨good_jump (.inr rfl) (by constructor <;> simp only <;> omega) h0 h12 (by omega), trivial⟩, ?_⟩, trivial, ?_⟩
        · rw [show p + 1 + (a.code (p + 1)).length + 1 + (b.code (p + 1 + (a.code (p + 1)).length + 1)).length + 1 = elseAt a b (p + 1) from rfl]; exact m1
        · rw [size_eq v, hl, sizes_cons, sizes_cons, sizes_cons, sizes_nil]
          simp
      · have hall := bads_same e5 hbs
        rw [code_other e5 e7] at hp ⊢
        simp only [List.length_append, List.length_singleton] at hp
        obtain ⟨g1, g2, g3⟩ := codes_good v.l ih F o (p + 1) len hall h0 h12 (by omega)
        have o1 : openI ⟨v.kind, v.k, v.n⟩ o = o := by unfold openI; rw [if_neg (by simp only; omega), if_neg (by simp only; omega)]
        have t1 : tickI ⟨v.kind, v.k, v.n⟩ = 0 := by unfold tickI; rw [if_neg (by simp only; omega)]
        have t0 : tickI ⟨100, 0, 0⟩ = 1 := rfl
        simp only [goods_app, openL_app, tickL_app, Goods, openL, tickL, t0, t1, g2, g3, opn, o1, List.length_singleton]
        refine ⟨⟨⟨tick, trivial⟩, g1, good_of (by simp only; omega) h4 (by rw [o1]; exact h0) (by rw [o1]; exact h12) (by simp only; omega) (by omega), trivial⟩, trivial, ?_⟩
        rw [size_eq v]
        simp
theorem fun_good {v : V} {F : Int} (h : v.bad F 0 = 0) : Goods (funC v).length (funC v) 0 0 ∧ openL (funC v) 0 = 0 ∧ tickL (funC v) = (v.size : Int) := by
  have hl : (funC v).length = (v.code 0).length + 1 := by simp [funC]
  obtain ⟨g1, g2, g3⟩ := code_good v F 0 0 (funC v).length h (by decide) (by decide) (by omega)
  rw [hl] at g1 ⊢
  unfold funC
  simp only [goods_app, openL_app, tickL_app, Goods, openL, tickL, g2, g3]
  refine ⟨⟨g1, ⟨fun h => by simp at h, fun h => by simp at h, by decide, by decide, ⟨fun _ => by omega, fun _ => rfl⟩⟩, trivial⟩, rfl, by simp [tickI]⟩
end Go.Proofs.YtkpckmcaeljocaaGreat.Ex
