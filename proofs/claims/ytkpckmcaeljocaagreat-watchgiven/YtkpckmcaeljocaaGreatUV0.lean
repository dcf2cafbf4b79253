/- Parts. -/
import Derived.Lib.ItoaLen
import Derived.Test.YtkpckmcaeljocaaGreatRows
import Derived.WalkKit
import Derived.ProofKit
import Derived.OpenShut
import Derived.ArgAppend
import Derived.OneCell
import Derived.BigQuiet
import Derived.Deep.AppendLies
import Derived.Deep.Slices
import Derived.Deep.LoopGhost
namespace Go.Proofs.YtkpckmcaeljocaaGreat
structure V where
  kind : Int
  n : Int
  l : List V
theorem V.ind {P : V → Prop} (h : ∀ k n l, (∀ x ∈ l, P x) → P ⟨k, n, l⟩) (v : V) : P v :=
  V.rec (motive_1 := P) (motive_2 := fun l => ∀ x ∈ l, P x) (fun k n l ih => h k n l ih) (by simp) (fun a l h1 h2 => by simp only [List.mem_cons, forall_eq_or_imp]; exact ⟨h1, h2⟩) v
theorem V.ind' {P : V → Prop} (h : ∀ v : V, (∀ x ∈ v.l, P x) → P v) (v : V) : P v := V.ind (fun k n l ih => h ⟨k, n, l⟩ ih) v
def V.size : V → Nat
  | ⟨_, _, l⟩ => 1 + sizes l
  where sizes : List V → Nat
    | [] => 0
    | v :: l => V.size v + sizes l
abbrev sizes (l : List V) : Nat := V.size.sizes l
theorem size_mk (k n : Int) (l : List V) : V.size ⟨k, n, l⟩ = 1 + sizes l := by rw [V.size]
theorem size_eq (v : V) : v.size = 1 + sizes v.l := by cases v; exact size_mk _ _ _
theorem sizes_nil : sizes [] = 0 := by simp only [sizes, V.size.sizes]
theorem sizes_cons (v : V) (l : List V) : sizes (v :: l) = v.size + sizes l := by simp only [sizes, V.size.sizes]
theorem sizes_append (a b : List V) : sizes (a ++ b) = sizes a + sizes b := by
  induction a with
  | nil => simp [sizes_nil]
  | cons x a ih => rw [List.cons_append, sizes_cons, sizes_cons, ih]; omega
theorem size_pos (v : V) : 1 ≤ v.size := by rw [size_eq]; omega
theorem sizes_one (v : V) : sizes [v] = v.size := by rw [sizes_cons, sizes_nil]; rfl
theorem sizes_len (l : List V) : l.length ≤ sizes l := by
  induction l with
  | nil => simp
  | cons x a ih => rw [sizes_cons, List.length_cons]; have := size_pos x; omega
theorem sizes_mem {l : List V} {v : V} (h : v ∈ l) : v.size ≤ sizes l := by
  induction l with
  | nil => simp at h
  | cons x a ih =>
    rw [sizes_cons]
    rcases List.mem_cons.1 h with rfl | h
    · omega
    · have := ih h; omega
theorem size_get (l : List V) (i : Nat) (h : i < l.length) : l[i].size ≤ sizes l := sizes_mem (List.getElem_mem h)
theorem sizes_take (l : List V) (i : Nat) (h : i < l.length) : sizes (l.take (i + 1)) = sizes (l.take i) + l[i].size := by
  rw [List.take_add_one, sizes_append, List.getElem?_eq_getElem h]
  simp [sizes_cons, sizes_nil]
theorem sizes_take_le (l : List V) (i : Nat) : sizes (l.take i) ≤ sizes l := by
  have h : sizes l = sizes (l.take i ++ l.drop i) := by rw [List.take_append_drop]
  rw [h, sizes_append]; omega
def V.same : V → V → Bool
  | ⟨k, n, l⟩, ⟨k', n', l'⟩ => k == k' && n == n' && sames l l'
  where sames : List V → List V → Bool
    | [], [] => true
    | a :: l, b :: l' => V.same a b && sames l l'
    | [], _ :: _ => false
    | _ :: _, [] => false
abbrev sames (a b : List V) : Bool := V.same.sames a b
theorem v_ext {x y : V} : x = y ↔ (x.kind = y.kind ∧ x.n = y.n) ∧ x.l = y.l := by cases x; cases y; simp [and_assoc]
def V.pre : V → List V
  | ⟨k, n, l⟩ => ⟨k, n, l⟩ :: pres l
  where pres : List V → List V
    | [] => []
    | v :: l => V.pre v ++ pres l
abbrev pres (l : List V) : List V := V.pre.pres l
theorem pre_mk (k n : Int) (l : List V) : V.pre ⟨k, n, l⟩ = ⟨k, n, l⟩ :: pres l := by rw [V.pre]
theorem pre_eq (v : V) : v.pre = v :: pres v.l := by cases v; exact pre_mk _ _ _
theorem pres_nil : pres [] = [] := by simp only [pres, V.pre.pres]
theorem pres_cons (v : V) (l : List V) : pres (v :: l) = v.pre ++ pres l := by simp only [pres, V.pre.pres]
theorem pres_append (a b : List V) : pres (a ++ b) = pres a ++ pres b := by
  induction a with
  | nil => simp [pres_nil]
  | cons x a ih => rw [List.cons_append, pres_cons, pres_cons, ih, List.append_assoc]
theorem pres_one (v : V) : pres [v] = v.pre := by rw [pres_cons, pres_nil, List.append_nil]
theorem pres_split (l : List V) (i : Nat) (h : i < l.length) : pres l = pres (l.take i) ++ (l[i].pre ++ pres (l.drop (i + 1))) := by
  rw [← pres_cons, ← pres_append, List.getElem_cons_drop, List.take_append_drop]
def partsB (k : Int) : Option Nat := if k = 2 then some 2 else if k = 3 then some 1 else if k = 0 ∨ k = 1 ∨ k = 4 ∨ k = 5 then some 0 else none
def V.fault1 (v : V) : Int :=
  match partsB v.kind with
  | none => 2
  | some p => if v.l.length ≠ p then 5 else if (v.kind = 0 ∨ v.kind = 2) ∧ v.n ≠ 0 then 5 else if (v.kind = 3 ∨ v.kind = 4 ∨ v.kind = 5) ∧ v.n < 0 then 1 else 0
def first : List V → Int
  | [] => 0
  | v :: l => if v.fault1 = 0 then first l else v.fault1
def V.fault (v : V) : Int := first v.pre
def V.check (v : V) : Int := if 40 < v.size then 3 else v.fault
theorem first_append (a b : List V) : first (a ++ b) = if first a = 0 then first b else first a := by
  induction a with
  | nil => simp [first]
  | cons x a ih =>
    by_cases h : x.fault1 = 0
    · have e : first (x :: a) = first a := by rw [first, if_pos h]
      rw [List.cons_append, first, if_pos h, ih, e]
    · have e : first (x :: a) = x.fault1 := by rw [first, if_neg h]
      rw [List.cons_append, first, if_neg h, e, if_neg h]
theorem fault_eq (v : V) : v.fault = if v.fault1 = 0 then first (pres v.l) else v.fault1 := by rw [V.fault, pre_eq, first]
theorem fault_get {v : V} (h : v.fault = 0) (i : Nat) (hi : i < v.l.length) : v.l[i].fault = 0 := by
  rw [fault_eq] at h
  by_cases h1 : v.fault1 = 0
  · rw [if_pos h1, pres_split v.l i hi, first_append] at h
    by_cases h2 : first (pres (v.l.take i)) = 0
    · rw [if_pos h2, first_append] at h
      by_cases h3 : first v.l[i].pre = 0
      · exact h3
      · rw [if_neg h3] at h; exact h
    · rw [if_neg h2] at h; exact absurd h h2
  · rw [if_neg h1] at h; exact absurd h h1
theorem fault_one {v : V} (h : v.fault = 0) : v.fault1 = 0 := by
  rw [fault_eq] at h
  by_cases h1 : v.fault1 = 0
  · exact h1
  · rw [if_neg h1] at h; exact h
theorem check_size {v : V} (h : v.check = 0) : v.size ≤ 40 := by
  unfold V.check at h
  by_cases h1 : 40 < v.size
  · rw [if_pos h1] at h; simp at h
  · omega
theorem check_fault {v : V} (h : v.check = 0) : v.fault = 0 := by
  have h1 := check_size h
  unfold V.check at h
  rwa [if_neg (by omega)] at h
def capsIn (l : List V) : List Int := l.filterMap fun v => if v.kind = 4 then some v.n else none
def V.caps (v : V) : List Int := capsIn v.pre
def gateIn (l : List V) : Bool := l.any fun v => v.kind == 5
def V.gate (v : V) : Bool := gateIn v.pre
theorem capsIn_append (a b : List V) : capsIn (a ++ b) = capsIn a ++ capsIn b := by simp [capsIn]
theorem gateIn_append (a b : List V) : gateIn (a ++ b) = (gateIn a || gateIn b) := by simp [gateIn]
theorem caps_eq (v : V) : v.caps = (if v.kind = 4 then [v.n] else []) ++ capsIn (pres v.l) := by
  rw [V.caps, pre_eq]
  by_cases h : v.kind = 4 <;> simp [capsIn, h]
theorem gate_eq (v : V) : v.gate = ((v.kind == 5) || gateIn (pres v.l)) := by rw [V.gate, pre_eq]; simp [gateIn]
theorem pre_len (v : V) : v.pre.length = v.size := by
  induction v using V.ind with
  | h k n l ih =>
    rw [pre_mk, size_mk]
    have key : ∀ l : List V, (∀ x ∈ l, x.pre.length = x.size) → (pres l).length = sizes l := by
      intro l
      induction l with
      | nil => intro _; simp [pres_nil, sizes_nil]
      | cons x l ihl => intro hx; rw [pres_cons, sizes_cons, List.length_append, hx x (by simp), ihl fun y hy => hx y (by simp [hy])]
    simp [key l ih]; omega
theorem caps_len (v : V) : v.caps.length ≤ v.size := by
  rw [← pre_len, V.caps, capsIn]; exact List.length_filterMap_le _ _
open Go.ChangeShapes Go.WideShapes Go.ChangeAt Go.RowKit
theorem hid {p : Prop} (h : p) : Hid p := h
theorem owns_mono {w : World} {base base' : Nat} {e : TypeId} {size : Nat} {v : Value} {n : Nat} {xs : List Value} (h : w.ownsRow base e size v n xs) (hb : base' ≤ base) : w.ownsRow base' e size v n xs := by
  refine ⟨h.1, ?_⟩
  rcases h.2 with hn | ⟨g, cap, cur, rfl, hg, rest⟩
  · exact .inl hn
  · exact .inr ⟨g, cap, cur, rfl, Nat.le_trans hb hg, rest⟩
theorem owns_shape {w : World} {base : Nat} {e : TypeId} {size : Nat} {v : Value} {n : Nat} {xs : List Value} (h : w.ownsRow base e size v n xs) : ∃ ao cap, v = .slice ao n cap := by
  rcases h.2 with ⟨rfl, rfl⟩ | ⟨g, cap, cur, rfl, _⟩
  · exact ⟨none, 0, rfl⟩
  · exact ⟨_, cap, rfl⟩
theorem owns_at {w : World} {base : Nat} {e : TypeId} {size : Nat} {ao : Option Addr} {cap n : Nat} {xs : List Value} (h : w.ownsRow base e size (.slice ao n cap) n xs) (hn : 0 < n) :
    ∃ g, ao = some ⟨g, 0, none⟩ ∧ ∀ j, j < n * size → w.cell? ⟨g, j, none⟩ = xs[j]? := by
  rcases h.2 with ⟨h', h0⟩ | ⟨g, cap', cur, h', _⟩
  · omega
  · simp only [Value.slice.injEq] at h'
    obtain ⟨rfl, _, rfl⟩ := h'
    exact ⟨g, rfl, fun j hj => h.cellAt j hj⟩
theorem lies_shape {w : World} {base : Nat} {e : TypeId} {size : Nat} {v : Value} {n : Nat} {xs : List Value} (h : w.ownsRow base e size v n xs) (hn : 0 < n) : ∃ g cap, v = .slice (some ⟨g, 0, none⟩) n cap := by
  rcases h.2 with ⟨_, h0⟩ | ⟨g, cap, cur, rfl, _⟩
  · omega
  · exact ⟨g, cap, rfl⟩
structure Kp (F : Nat → Prop) (w w' : World) : Prop where
  os : w'.os = w.os
  tape : w'.tape = w.tape
  output : w'.output = w.output
  size : w.heap.size ≤ w'.heap.size
  block : ∀ k, k < w.heap.size → ¬ F k → w'.heap[k]? = w.heap[k]?
theorem Kp.refl (F : Nat → Prop) (w : World) : Kp F w w := ⟨rfl, rfl, rfl, Nat.le_refl _, fun _ _ _ => rfl⟩
theorem Kp.trans {F : Nat → Prop} {a b c : World} (h : Kp F a b) (k : Kp F b c) : Kp F a c :=
  ⟨k.os.trans h.os, k.tape.trans h.tape, k.output.trans h.output, Nat.le_trans h.size k.size, fun i hi hF => (k.block i (Nat.lt_of_lt_of_le hi h.size) hF).trans (h.block i hi hF)⟩
theorem Kp.mono {F G : Nat → Prop} {w w' : World} (h : Kp F w w') (hF : ∀ k, k < w.heap.size → F k → G k) : Kp G w w' :=
  ⟨h.os, h.tape, h.output, h.size, fun k hk hG => h.block k hk fun hf => hG (hF k hk hf)⟩
theorem Kp.grown {F : Nat → Prop} {w w' : World} {row : Option Nat} (hg : w.grownBy w' row) (hF : ∀ k, k < w.heap.size → some k = row → F k) : Kp F w w' :=
  ⟨hg.os, hg.tape, hg.output, hg.size, fun k hk hf => hg.block k hk fun e => hf (hF k hk e)⟩
theorem Kp.setCell {F : Nat → Prop} (w : World) (a : Addr) (u : Value) (hF : F a.block) : Kp F w (w.setCell a u) :=
  ⟨rfl, rfl, rfl, by simp [World.setCell], fun _ _ hf => Below.heap_setCell _ _ _ _ fun e => hf (e ▸ hF)⟩
theorem Kp.alloc {F : Nat → Prop} (w : World) (o : Obj) : Kp F w (w.alloc o) :=
  ⟨rfl, rfl, rfl, by simp, fun _ hk _ => Below.heap_alloc w o _ hk⟩
theorem Kp.drew {F : Nat → Prop} (w : World) : Kp F w w.drew := ⟨rfl, rfl, rfl, Nat.le_refl _, fun _ _ _ => rfl⟩
theorem Kp.drewN {F : Nat → Prop} (w : World) (n : Nat) : Kp F w (w.drewN n) := ⟨rfl, rfl, rfl, Nat.le_refl _, fun _ _ _ => rfl⟩
theorem Kp.cell {F : Nat → Prop} {w w' : World} (h : Kp F w w') {a : Addr} {v : Value} (hc : w.cell? a = some v) (hF : ¬ F a.block) : w'.cell? a = some v :=
  (World.cell?_of_block (h.block a.block (World.block_lt_of_cell? w a hc) hF)).trans hc
theorem Kp.row {F : Nat → Prop} {w w' : World} (h : Kp F w w') {base : Nat} {e : TypeId} {size : Nat} {v : Value} {n : Nat} {xs : List Value} (ho : w.ownsRow base e size v n xs) (hF : ∀ k, v.ownBlock = some k → ¬ F k) : w'.ownsRow base e size v n xs := by
  refine ⟨ho.1, ?_⟩
  rcases ho.2 with hn | ⟨g, cap, cur, rfl, hb, hgg, rest⟩
  · exact .inl hn
  · exact .inr ⟨g, cap, cur, rfl, hb, by rw [h.block g (lt_of_block hgg) (hF g rfl)]; exact hgg, rest⟩
theorem Kp.below {F : Nat → Prop} {w w' : World} {B : Nat} (h : Kp F w w') (hB : B ≤ w.heap.size) (hF : ∀ k, F k → B ≤ k) : Below B w w' :=
  ⟨h.os, h.tape, h.output, h.size, fun k hk => h.block k (Nat.lt_of_lt_of_le hk hB) fun hf => by have := hF k hf; omega⟩
theorem Kp.fresh {F : Nat → Prop} {a b c : World} (h : Kp F a b) (k : Kp (fun i => a.heap.size ≤ i) b c) : Kp F a c :=
  ⟨k.os.trans h.os, k.tape.trans h.tape, k.output.trans h.output, Nat.le_trans h.size k.size, fun i hi hF => (k.block i (Nat.lt_of_lt_of_le hi h.size) (by omega)).trans (h.block i hi hF)⟩
abbrev Quiet (w w' : World) : Prop := Kp (fun _ => False) w w'
theorem quiet_of {w w' : World} (h : Below w.heap.size w w') : Quiet w w' := ⟨h.os, h.tape, h.output, h.size, fun k hk _ => h.block k hk⟩
theorem Kp.low {w w' : World} (h : Quiet w w') : Below w.heap.size w w' := h.below (Nat.le_refl _) fun _ h => h.elim
def In64 (z : Int) : Prop := -9223372036854775808 ≤ z ∧ z ≤ 9223372036854775807
def V.fits (v : V) : Prop := In64 v.kind ∧ In64 v.n
def V.head (w : World) (v : V) (b off : Nat) : Prop := w.cell? ⟨b, off, none⟩ = some (.int .i64 v.kind) ∧ w.cell? ⟨b, off + 1, none⟩ = some (.int .i64 v.n)
def V.at (w : World) : V → Nat → Nat → Prop
  | ⟨k, n, l⟩, b, off => V.fits ⟨k, n, l⟩ ∧ V.head w ⟨k, n, l⟩ b off ∧
      ∃ ao cap, w.cell? ⟨b, off + 2, none⟩ = some (.slice ao l.length cap) ∧ (l = [] ∨ ∃ b' off', ao = some ⟨b', off', none⟩ ∧ ats l b' off')
  where ats : List V → Nat → Nat → Prop
    | [], _, _ => True
    | v :: l, b, off => V.at w v b off ∧ ats l b (off + 3)
def Fo (w : World) (l : List V) (ao : Option Addr) : Prop := ∀ i (h : i < l.length), ∃ b off, ao = some ⟨b, off, none⟩ ∧ l[i].at w b (off + i * 3)
structure Is (w : World) (v : V) (ao : Option Addr) : Prop where
  fit : v.fits
  fo : Fo w v.l ao
theorem ats_iff (w : World) (l : List V) (b off : Nat) : V.at.ats w l b off ↔ ∀ i (h : i < l.length), l[i].at w b (off + i * 3) := by
  induction l generalizing off with
  | nil => simp [V.at.ats]
  | cons v l ih =>
    rw [V.at.ats, ih]
    constructor
    · rintro ⟨h0, h1⟩ i hi
      cases i with
      | zero => simpa using h0
      | succ i => have := h1 i (by simpa using hi); rw [show off + 3 + i * 3 = off + (i + 1) * 3 by omega] at this; simpa using this
    · intro h
      refine ⟨h 0 (by simp), fun i hi => ?_⟩
      have := h (i + 1) (by simpa using hi)
      rw [show off + 3 + i * 3 = off + (i + 1) * 3 by omega]; simpa using this
theorem fo_iff (w : World) (l : List V) (ao : Option Addr) : Fo w l ao ↔ (l = [] ∨ ∃ b' off', ao = some ⟨b', off', none⟩ ∧ V.at.ats w l b' off') := by
  constructor
  · intro h
    cases l with
    | nil => exact .inl rfl
    | cons v l =>
      obtain ⟨b, off, e, _⟩ := h 0 (by simp)
      refine .inr ⟨b, off, e, (ats_iff w _ b off).2 fun i hi => ?_⟩
      obtain ⟨b', off', e', h'⟩ := h i hi
      rw [e] at e'; cases e'; exact h'
  · rintro (rfl | ⟨b, off, e, h⟩)
    · intro i hi; simp at hi
    · intro i hi; exact ⟨b, off, e, (ats_iff w l b off).1 h i hi⟩
theorem at_iff (w : World) (v : V) (b off : Nat) : v.at w b off ↔ v.head w b off ∧ ∃ ao cap, w.cell? ⟨b, off + 2, none⟩ = some (.slice ao v.l.length cap) ∧ Is w v ao := by
  obtain ⟨k, n, l⟩ := v
  rw [V.at]
  constructor
  · rintro ⟨hf, hh, ao, cap, c2, h⟩
    exact ⟨hh, ao, cap, c2, hf, (fo_iff w l ao).2 h⟩
  · rintro ⟨hh, ao, cap, c2, hf, h⟩
    exact ⟨hf, hh, ao, cap, c2, (fo_iff w l ao).1 h⟩
theorem Fo.nil (w : World) (ao : Option Addr) : Fo w [] ao := fun i hi => by simp at hi
theorem Fo.get {w : World} {l : List V} {ao : Option Addr} (h : Fo w l ao) (i : Nat) (hi : i < l.length) :
    ∃ b off, ao = some ⟨b, off, none⟩ ∧ l[i].head w b (off + i * 3) ∧ ∃ ai cap, w.cell? ⟨b, off + i * 3 + 2, none⟩ = some (.slice ai l[i].l.length cap) ∧ Is w l[i] ai := by
  obtain ⟨b, off, e, h⟩ := h i hi
  exact ⟨b, off, e, (at_iff w _ _ _).1 h⟩
theorem Is.get {w : World} {v : V} {ao : Option Addr} (h : Is w v ao) (i : Nat) (hi : i < v.l.length) :
    ∃ b off, ao = some ⟨b, off, none⟩ ∧ v.l[i].head w b (off + i * 3) ∧ ∃ ai cap, w.cell? ⟨b, off + i * 3 + 2, none⟩ = some (.slice ai v.l[i].l.length cap) ∧ Is w v.l[i] ai := h.fo.get i hi
theorem head_kept {w w' : World} (hk : ∀ (a : Addr) (x : Value), w.cell? a = some x → w'.cell? a = some x) {v : V} {b off : Nat} (h : v.head w b off) : v.head w' b off :=
  ⟨hk _ _ h.1, hk _ _ h.2⟩
theorem at_kept {w w' : World} (hk : ∀ (a : Addr) (x : Value), w.cell? a = some x → w'.cell? a = some x) (v : V) : ∀ b off, v.at w b off → v.at w' b off := by
  induction v using V.ind' with
  | h v ih =>
    intro b off h
    rw [at_iff] at h ⊢
    obtain ⟨c0, ao, cap, c2, i⟩ := h
    refine ⟨head_kept hk c0, ao, cap, hk _ _ c2, i.fit, fun j hj => ?_⟩
    obtain ⟨b', off', e, h'⟩ := i.fo j hj
    exact ⟨b', off', e, ih _ (List.getElem_mem hj) _ _ h'⟩
theorem Fo.kept {w w' : World} {l : List V} {ao : Option Addr} (h : Fo w l ao) (hk : ∀ (a : Addr) (x : Value), w.cell? a = some x → w'.cell? a = some x) : Fo w' l ao :=
  fun j hj => by obtain ⟨b', off', e, h'⟩ := h j hj; exact ⟨b', off', e, at_kept hk _ _ _ h'⟩
theorem Is.kept {w w' : World} {v : V} {ao : Option Addr} (h : Is w v ao) (hk : ∀ (a : Addr) (x : Value), w.cell? a = some x → w'.cell? a = some x) : Is w' v ao := ⟨h.fit, h.fo.kept hk⟩
theorem low_kept {w w' : World} (hb : Below w.heap.size w w') : ∀ (a : Addr) (x : Value), w.cell? a = some x → w'.cell? a = some x := fun a _ hc => (World.cell?_of_block (hb.block a.block (World.block_lt_of_cell? w a hc))).trans hc
theorem Fo.low {w w' : World} {l : List V} {ao : Option Addr} (h : Fo w l ao) (hb : Below w.heap.size w w') : Fo w' l ao := h.kept (low_kept hb)
theorem Is.low {w w' : World} {v : V} {ao : Option Addr} (h : Is w v ao) (hb : Below w.heap.size w w') : Is w' v ao := h.kept (low_kept hb)
theorem Fo.quiet {w w' : World} {l : List V} {ao : Option Addr} (h : Fo w l ao) (hq : Quiet w w') : Fo w' l ao := h.low hq.low
theorem Is.quiet {w w' : World} {v : V} {ao : Option Addr} (h : Is w v ao) (hq : Quiet w w') : Is w' v ao := h.low hq.low
theorem Is.leaf (w : World) (v : V) (hf : v.fits) (hl : v.l = []) (ao : Option Addr) : Is w v ao := ⟨hf, by rw [hl]; exact Fo.nil w ao⟩
theorem info_parts' {P : Program} {t : TypeId} {z : Value} {s b : Nat} (h : (P.info? t).map (fun i => (i.zero, i.size, i.bytes)) = some (some z, s, b)) : ∃ i, P.info? t = some i ∧ i.zero = some z ∧ i.size = s ∧ i.bytes = b := by
  cases hi : P.info? t with
  | none => simp [hi] at h
  | some i => simp [hi] at h; exact ⟨i, rfl, h.1, h.2.1, h.2.2⟩
theorem Tryz.infoI : (Tryz.prog.info? 3).map (fun i => (i.zero, i.size, i.bytes)) = some (some (.int .i64 0), 1, 8) := by kernel_rfl
theorem Tryz.infoV : (Tryz.prog.info? 38).map (fun i => (i.zero, i.size, i.bytes)) = some (some (.agg #[.int .i64 0, .int .i64 0, .slice none 0 0]), 3, 40) := by kernel_rfl
theorem Tryz.undV : Tryz.prog.underlying 36 = some (.slice 38) := by kernel_rfl
theorem Tryz.infoL : (Tryz.prog.info? 36).map (fun i => (i.zero, i.size, i.bytes)) = some (some (.slice none 0 0), 1, 24) := by kernel_rfl
theorem Tryz.undL : Tryz.prog.underlying 212 = some (.slice 36) := by kernel_rfl
theorem Tryz.undI : Tryz.prog.underlying 130 = some (.slice 3) := by kernel_rfl
theorem news_at (w : World) (l : List Value) (t : TypeId) : ∀ j u, l[j]? = some u → (w.alloc (.cells l.toArray t)).cell? ((⟨w.heap.size, 0, none⟩ : Addr).add j) = some u := by
  intro j u hu
  rw [Addr.add_lit, cell_of_row _ _ _ _ t (0, 0) (heap_alloc_new w _)]
  simpa using hu
theorem heap_two (w : World) (o1 o2 : Obj) : ((w.alloc o1).alloc o2).heap[w.heap.size + 1]? = some o2 := by
  have h := heap_alloc_new (w.alloc o1) o2
  rwa [World.size_alloc] at h
theorem news_from {w : World} {x : Nat} {l : List Value} {t : TypeId} (h : w.heap[x]? = some (.cells l.toArray t (0, 0))) : ∀ j u, l[j]? = some u → w.cell? ((⟨x, 0, none⟩ : Addr).add j) = some u := by
  intro j u hu
  rw [Addr.add_lit, cell_of_row _ _ _ _ t (0, 0) h]
  simpa using hu
theorem grown_quiet {w wr w1 : World} {o : Obj} {e : TypeId} {size : Nat} {v : Value} {n : Nat} {xs : List Value} (hk : Quiet w wr) (hr : wr.ownsRow w.heap.size e size v n xs) (hg : (wr.alloc o).grownBy w1 v.ownBlock) : Quiet w w1 :=
  hk.fresh ((Kp.alloc _ o).trans (Kp.grown hg fun k _ e => (hr.lt k e.symm).1))
def ints (l : List Int) : List Value := l.map (Value.int .i64)
theorem box_cells {w : World} {x : Nat} {a b c : Value} {t : TypeId} (h : w.heap[x]? = some (.cells #[a, b, c] t (0, 0))) : w.cell? ⟨x, 0, none⟩ = some a ∧ w.cell? ⟨x, 1, none⟩ = some b ∧ w.cell? ⟨x, 2, none⟩ = some c := by
  refine ⟨?_, ?_, ?_⟩ <;> simp [World.cell?, h]
theorem owns_pop {w : World} {base : Nat} {e : TypeId} {size g n cap : Nat} {xs ys : List Value} (h : w.ownsRow base e size (.slice (some ⟨g, 0, none⟩) (n + 1) cap) (n + 1) (xs ++ ys)) (hy : ys.length = size) :
    w.ownsRow base e size (.slice (some ⟨g, 0, none⟩) n cap) n xs ∧ ∀ j, j < size → w.cell? ⟨g, n * size + j, none⟩ = ys[j]? := by
  have hl : xs.length = n * size := by
    have := h.1
    rw [List.length_append, hy, Nat.add_mul] at this
    omega
  obtain ⟨g', e', d⟩ := owns_at h (by omega)
  cases e'
  refine ⟨⟨hl, ?_⟩, fun j hj => ?_⟩
  · rcases h.2 with ⟨h', _⟩ | ⟨g', cap', cur, h', hb, hg, hc, hm, hs, ht⟩
    · simp at h'
    · simp only [Value.slice.injEq, Option.some.injEq, Addr.mk.injEq, true_and] at h'
      obtain ⟨⟨rfl, _⟩, rfl⟩ := h'
      refine .inr ⟨g, cap, cur, rfl, hb, hg, by omega, hm, hs, ?_⟩
      have h2 := congrArg (List.take (n * size)) ht
      rw [List.take_take, Nat.min_eq_left (by rw [Nat.add_mul]; omega), List.take_append_of_le_length (by omega), show xs.take (n * size) = xs from List.take_of_length_le (by omega)] at h2
      exact h2
  · rw [d _ (by rw [Nat.add_mul]; omega), List.getElem?_append_right (by omega)]
    congr 1; omega
theorem owns_cap {w : World} {base : Nat} {e : TypeId} {size g n cap : Nat} {xs : List Value} (h : w.ownsRow base e size (.slice (some ⟨g, 0, none⟩) n cap) n xs) : n ≤ cap := by
  rcases h.2 with ⟨h', _⟩ | ⟨g', cap', cur, h', hb, hg, hc, _⟩
  · simp at h'
  · simp only [Value.slice.injEq, Option.some.injEq, Addr.mk.injEq, true_and] at h'
    omega
theorem low_cell {B : Nat} {w w' : World} (hb : Below B w w') {a : Addr} {x : Value} (hc : w.cell? a = some x) (ha : a.block < B) : w'.cell? a = some x :=
  (World.cell?_of_block (hb.block a.block ha)).trans hc
theorem low_of {B : Nat} {W a b : World} (h : Below B W a) (q : Quiet a b) (hB : B ≤ a.heap.size) : Below B W b := h.trans (q.below hB fun _ e => e.elim)
theorem row_one (w : World) (t : TypeId) (x : Value) : (w.alloc (.cells #[x] t)).ownsRow w.heap.size t 1 (.slice (some ⟨w.heap.size, 0, none⟩) 1 1) 1 [x] :=
  ⟨by simp, .inr ⟨w.heap.size, 1, #[x], rfl, Nat.le_refl _, heap_alloc_new w _, Nat.le_refl _, by decide, by simp, by simp⟩⟩
theorem take_snoc {α : Type} (l : List α) (k : Nat) (hk : k < l.length) : l.take (k + 1) = l.take k ++ [l[k]] := by
  rw [List.take_add_one]; simp [hk]
theorem grown_undrew {w w1 : World} {r : Option Nat} (h : w.drew.grownBy w1 r) : w.grownBy w1 r := ⟨h.os, h.tape, h.output, h.size, h.block⟩
abbrev Pl := List V × Option Addr × Nat
def slv (x : Pl) : Value := .slice x.2.1 x.1.length x.2.2
def tsz (ts : List Pl) : Nat := (ts.map fun x => 1 + sizes x.1).sum
theorem tsz_nil : tsz [] = 0 := rfl
theorem tsz_app (a b : List Pl) : tsz (a ++ b) = tsz a + tsz b := by simp [tsz]
theorem tsz_one (x : Pl) : tsz [x] = 1 + sizes x.1 := by simp [tsz]
theorem tsz_len (ts : List Pl) : ts.length ≤ tsz ts := by
  induction ts with
  | nil => simp [tsz]
  | cons x ts ih => simp [tsz] at ih ⊢; omega
def trs (ts : List Pl) : Nat := (ts.map fun x => sizes x.1 - x.1.length).sum
theorem trs_nil : trs [] = 0 := rfl
theorem trs_app (a b : List Pl) : trs (a ++ b) = trs a + trs b := by simp [trs]
theorem trs_one (x : Pl) : trs [x] = sizes x.1 - x.1.length := by simp [trs]
def Lie (w : World) (ts : List Pl) : Prop := ∀ x ∈ ts, Fo w x.1 x.2.1
theorem Lie.app {w : World} {a b : List Pl} (h : Lie w a) (k : Lie w b) : Lie w (a ++ b) := by
  intro x hx
  rcases List.mem_append.1 hx with h' | h'
  · exact h x h'
  · exact k x h'
theorem push_row {W wr w1 : World} {B n : Nat} {x : Pl} {ts : List Pl} {sv : Value} {g cap : Nat} {o : Obj} (hB : Below B W wr) (hBB : B ≤ wr.heap.size) (hr : wr.ownsRow B 36 1 sv n (ts.map slv)) (hn : n = ts.length)
    (hr1 : w1.ownsRow B 36 1 (.slice (some ⟨g, 0, none⟩) (n + 1) cap) (n + 1) (ts.map slv ++ [slv x])) (hg : (wr.alloc o).grownBy w1 sv.ownBlock) :
    w1.ownsRow B 36 1 (.slice (some ⟨g, 0, none⟩) (n + 1) cap) (ts ++ [x]).length ((ts ++ [x]).map slv) ∧ Below B W w1 := by
  subst hn
  refine ⟨by simpa using hr1, hB.trans ?_⟩
  refine ((Below.refl _ _).alloc hBB o).trans ?_
  refine (Kp.grown (F := fun k => B ≤ k) hg fun k _ e => (hr.lt k e.symm).1).below (by simp; omega) fun k hk => hk
theorem inside_any (v : V) (ao : Option Addr) (cap : Nat) (w : World) : Calls Tryz.prog 126 #[.agg #[.int .i64 v.kind, .int .i64 v.n, .slice ao v.l.length cap]] w fun e w' => e = .returned (.slice ao v.l.length cap) ∧ Quiet w w' := by
  go_enter Tryz.func126, Tryz.ntmps126
  go_wp2
  go_ret
  exact ⟨rfl, Kp.alloc _ _⟩
theorem kp_set (w : World) (b o : Nat) (y : Value) : Kp (fun k => k = b) w (w.setCell ⟨b, o, none⟩ y) := Kp.setCell w ⟨b, o, none⟩ y rfl
def Hold (lo : Nat) (row : Option Nat) (w : World) (v : V) (ao : Option Addr) : Prop :=
  ∀ w' : World, (∀ k c t, lo ≤ k → row ≠ some k → w.heap[k]? = some (.cells c t (0, 0)) → w'.heap[k]? = some (.cells c t (0, 0))) → Is w' v ao
theorem Hold.is {lo : Nat} {row : Option Nat} {w : World} {v : V} {ao : Option Addr} (h : Hold lo row w v ao) : Is w v ao := h w fun _ _ _ _ _ h => h
theorem Hold.step {lo : Nat} {row row' : Option Nat} {w w' : World} {v : V} {ao : Option Addr} (h : Hold lo row w v ao) (hk : ∀ k, lo ≤ k → k < w.heap.size → row ≠ some k → w'.heap[k]? = w.heap[k]?)
    (hr : row' = row ∨ ∃ g, row' = some g ∧ w.heap.size ≤ g) : Hold lo row' w' v ao := by
  intro w2 h2
  refine h w2 fun k c t h1 h4 hc => h2 k c t h1 ?_ ((hk k h1 (lt_of_block hc) h4).trans hc)
  rcases hr with rfl | ⟨g, rfl, hg⟩
  · exact h4
  · intro e; simp at e; have := lt_of_block hc; omega
theorem Hold.drew {lo : Nat} {row : Option Nat} {w : World} {v : V} {ao : Option Addr} (h : Hold lo row w v ao) : Hold lo row w.drew v ao := h
abbrev Kd := V × Option Addr × Nat
def tri (p : Kd) : List Value := [.int .i64 p.1.kind, .int .i64 p.1.n, .slice p.2.1 p.1.l.length p.2.2]
def tris (ps : List Kd) : List Value := ps.flatMap tri
theorem tris_len (ps : List Kd) : (tris ps).length = ps.length * 3 := by
  induction ps with
  | nil => rfl
  | cons p ps ih => simp only [tris, List.flatMap_cons, List.length_append] at ih ⊢; rw [ih]; simp [tri]; omega
theorem tris_app (a b : List Kd) : tris (a ++ b) = tris a ++ tris b := by simp [tris]
theorem tris_one (p : Kd) : tris [p] = tri p := by simp [tris]
theorem tris_at (ps : List Kd) (k j : Nat) (hk : k < ps.length) (hj : j < 3) : (tris ps)[k * 3 + j]? = (tri ps[k])[j]? := by
  induction ps generalizing k with
  | nil => simp at hk
  | cons e es ih =>
    cases k with
    | zero => simp only [tris, List.flatMap_cons]; rw [List.getElem?_append_left (by simp [tri]; omega)]; simp
    | succ k =>
      simp only [tris, List.flatMap_cons]
      rw [List.getElem?_append_right (by simp [tri]; omega)]
      have := ih k (by simpa using hk)
      simp only [tris] at this
      rw [show (k + 1) * 3 + j - (tri e).length = k * 3 + j by simp [tri]; omega, this]
      simp
theorem tri_one (p : Kd) : ∀ u ∈ tri p, u.oneCell' = true := by
  intro u hu
  simp only [tri, List.mem_cons, List.not_mem_nil, or_false] at hu
  rcases hu with rfl | rfl | rfl <;> rfl
theorem tris_onec (ps : List Kd) : ∀ u ∈ tris ps, u.oneCell' = true := by
  intro u hu
  simp only [tris, List.mem_flatMap] at hu
  obtain ⟨e, _, he⟩ := hu
  exact tri_one e u he
theorem tri_at {w : World} {g off : Nat} {p : Kd} (c : ∀ j, j < 3 → w.cell? ⟨g, off + j, none⟩ = (tri p)[j]?) (hp : Is w p.1 p.2.1) : p.1.at w g off := by
  rw [at_iff]
  exact ⟨⟨c 0 (by decide), c 1 (by decide)⟩, _, _, c 2 (by decide), hp⟩
theorem fo_row {w : World} {B : Nat} {ao : Option Addr} {n cap : Nat} {ps : List Kd} (h : w.ownsRow B 38 3 (.slice ao n cap) n (tris ps)) (hn : n = ps.length) (hp : ∀ p ∈ ps, Is w p.1 p.2.1) : Fo w (ps.map (·.1)) ao := by
  subst hn
  intro i hi
  have hi' : i < ps.length := by simpa using hi
  obtain ⟨g, rfl, d⟩ := owns_at h (by omega)
  refine ⟨g, 0, rfl, ?_⟩
  have e : (ps.map (·.1))[i] = ps[i].1 := by simp
  rw [e, Nat.zero_add]
  exact tri_at (fun j hj => by rw [d _ (by omega), tris_at ps i j hi' hj]) (hp _ (List.getElem_mem hi'))
def HoldL (lo : Nat) (w : World) (l : List V) (ao : Option Addr) : Prop :=
  ∀ w' : World, (∀ k c t, lo ≤ k → w.heap[k]? = some (.cells c t (0, 0)) → w'.heap[k]? = some (.cells c t (0, 0))) → Fo w' l ao
theorem HoldL.fo {lo : Nat} {w : World} {l : List V} {ao : Option Addr} (h : HoldL lo w l ao) : Fo w l ao := h w fun _ _ _ _ h => h
end Go.Proofs.YtkpckmcaeljocaaGreat
