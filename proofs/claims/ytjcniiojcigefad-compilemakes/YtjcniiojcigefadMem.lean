/- Things in memory: some cells each, what is in one in a row of its own; what may have turned between two worlds. -/
import Derived.Test.YtjcniiojcigefadRows
import Derived.Test.YtjcniiojcigefadTree
import Derived.WalkKit
import Derived.ProofKit
import Derived.OpenShut
import Derived.ArgAppend
import Derived.OneCell
import Derived.BigQuiet
import Derived.Deep.AppendLies
import Derived.Deep.Slices
namespace Go.Proofs.Ytjcniiojcigefad
open Go.ChangeShapes Go.WideShapes Go.ChangeAt Go.RowKit
theorem hid {p : Prop} (h : p) : Hid p := h
theorem owns_mono {w : World} {base base' : Nat} {e : TypeId} {size : Nat} {v : Value} {n : Nat} {xs : List Value} (h : w.ownsRow base e size v n xs) (hb : base' ≤ base) : w.ownsRow base' e size v n xs := by
  refine ⟨h.1, ?_⟩
  rcases h.2 with hn | ⟨g, cap, cur, rfl, hg, rest⟩
  · exact .inl hn
  · exact .inr ⟨g, cap, cur, rfl, Nat.le_trans hb hg, rest⟩
theorem owns_shape {w : World} {base : Nat} {e : TypeId} {size : Nat} {v : Value} {n : Nat} {xs : List Value} (h : w.ownsRow base e size v n xs) : ∃ ao cap, v = .slice ao n cap := by
  rcases h.2 with ⟨rfl, rfl⟩ | ⟨g, cap, cur, rfl, _⟩
  · exact ⟨none, 0, rfl⟩
  · exact ⟨_, cap, rfl⟩
theorem owns_at {w : World} {base : Nat} {e : TypeId} {size : Nat} {ao : Option Addr} {cap n : Nat} {xs : List Value} (h : w.ownsRow base e size (.slice ao n cap) n xs) (hn : 0 < n) :
    ∃ g, ao = some ⟨g, 0, none⟩ ∧ ∀ j, j < n * size → w.cell? ⟨g, j, none⟩ = xs[j]? := by
  rcases h.2 with ⟨h', h0⟩ | ⟨g, cap', cur, h', _⟩
  · omega
  · simp only [Value.slice.injEq] at h'
    obtain ⟨rfl, _, rfl⟩ := h'
    exact ⟨g, rfl, fun j hj => h.cellAt j hj⟩
theorem lies_shape {w : World} {base : Nat} {e : TypeId} {size : Nat} {v : Value} {n : Nat} {xs : List Value} (h : w.ownsRow base e size v n xs) (hn : 0 < n) : ∃ g cap, v = .slice (some ⟨g, 0, none⟩) n cap := by
  rcases h.2 with ⟨_, h0⟩ | ⟨g, cap, cur, rfl, _⟩
  · omega
  · exact ⟨g, cap, rfl⟩
/-- What may have turned between two worlds: blocks of F, and new ones. -/
structure Kp (F : Nat → Prop) (w w' : World) : Prop where
  os : w'.os = w.os
  tape : w'.tape = w.tape
  output : w'.output = w.output
  size : w.heap.size ≤ w'.heap.size
  block : ∀ k, k < w.heap.size → ¬ F k → w'.heap[k]? = w.heap[k]?
theorem Kp.refl (F : Nat → Prop) (w : World) : Kp F w w := ⟨rfl, rfl, rfl, Nat.le_refl _, fun _ _ _ => rfl⟩
theorem Kp.trans {F : Nat → Prop} {a b c : World} (h : Kp F a b) (k : Kp F b c) : Kp F a c :=
  ⟨k.os.trans h.os, k.tape.trans h.tape, k.output.trans h.output, Nat.le_trans h.size k.size, fun i hi hF => (k.block i (Nat.lt_of_lt_of_le hi h.size) hF).trans (h.block i hi hF)⟩
theorem Kp.mono {F G : Nat → Prop} {w w' : World} (h : Kp F w w') (hF : ∀ k, k < w.heap.size → F k → G k) : Kp G w w' :=
  ⟨h.os, h.tape, h.output, h.size, fun k hk hG => h.block k hk fun hf => hG (hF k hk hf)⟩
theorem Kp.grown {F : Nat → Prop} {w w' : World} {row : Option Nat} (hg : w.grownBy w' row) (hF : ∀ k, k < w.heap.size → some k = row → F k) : Kp F w w' :=
  ⟨hg.os, hg.tape, hg.output, hg.size, fun k hk hf => hg.block k hk fun e => hf (hF k hk e)⟩
theorem Kp.setCell {F : Nat → Prop} (w : World) (a : Addr) (u : Value) (hF : F a.block) : Kp F w (w.setCell a u) :=
  ⟨rfl, rfl, rfl, by simp [World.setCell], fun _ _ hf => Below.heap_setCell _ _ _ _ fun e => hf (e ▸ hF)⟩
theorem Kp.alloc {F : Nat → Prop} (w : World) (o : Obj) : Kp F w (w.alloc o) :=
  ⟨rfl, rfl, rfl, by simp, fun _ hk _ => Below.heap_alloc w o _ hk⟩
theorem Kp.drew {F : Nat → Prop} (w : World) : Kp F w w.drew := ⟨rfl, rfl, rfl, Nat.le_refl _, fun _ _ _ => rfl⟩
theorem Kp.drewN {F : Nat → Prop} (w : World) (n : Nat) : Kp F w (w.drewN n) := ⟨rfl, rfl, rfl, Nat.le_refl _, fun _ _ _ => rfl⟩
theorem Kp.cell {F : Nat → Prop} {w w' : World} (h : Kp F w w') {a : Addr} {v : Value} (hc : w.cell? a = some v) (hF : ¬ F a.block) : w'.cell? a = some v :=
  (World.cell?_of_block (h.block a.block (World.block_lt_of_cell? w a hc) hF)).trans hc
theorem Kp.row {F : Nat → Prop} {w w' : World} (h : Kp F w w') {base : Nat} {e : TypeId} {size : Nat} {v : Value} {n : Nat} {xs : List Value} (ho : w.ownsRow base e size v n xs) (hF : ∀ k, v.ownBlock = some k → ¬ F k) : w'.ownsRow base e size v n xs := by
  refine ⟨ho.1, ?_⟩
  rcases ho.2 with hn | ⟨g, cap, cur, rfl, hb, hgg, rest⟩
  · exact .inl hn
  · exact .inr ⟨g, cap, cur, rfl, hb, by rw [h.block g (lt_of_block hgg) (hF g rfl)]; exact hgg, rest⟩
theorem Kp.below {F : Nat → Prop} {w w' : World} {B : Nat} (h : Kp F w w') (hB : B ≤ w.heap.size) (hF : ∀ k, F k → B ≤ k) : Below B w w' :=
  ⟨h.os, h.tape, h.output, h.size, fun k hk => h.block k (Nat.lt_of_lt_of_le hk hB) fun hf => by have := hF k hf; omega⟩
/-- What is made in new memory only: the new blocks may turn again. -/
theorem Kp.fresh {F : Nat → Prop} {a b c : World} (h : Kp F a b) (k : Kp (fun i => a.heap.size ≤ i) b c) : Kp F a c :=
  ⟨k.os.trans h.os, k.tape.trans h.tape, k.output.trans h.output, Nat.le_trans h.size k.size, fun i hi hF => (k.block i (Nat.lt_of_lt_of_le hi h.size) (by omega)).trans (h.block i hi hF)⟩
abbrev Quiet (w w' : World) : Prop := Kp (fun _ => False) w w'
theorem quiet_of {w w' : World} (h : Below w.heap.size w w') : Quiet w w' := ⟨h.os, h.tape, h.output, h.size, fun k hk _ => h.block k hk⟩
theorem Kp.low {w w' : World} (h : Quiet w w') : Below w.heap.size w w' := h.below (Nat.le_refl _) fun _ h => h.elim

def In64 (z : Int) : Prop := -9223372036854775808 ≤ z ∧ z ≤ 9223372036854775807
/-- A thing's numbers fit. -/
def V.fits (v : V) : Prop := In64 v.kind ∧ In64 v.k ∧ In64 v.n
/-- A thing's numbers lie there. -/
def V.head (w : World) (v : V) (b off : Nat) : Prop := w.cell? ⟨b, off, none⟩ = some (.int .i64 v.kind) ∧ w.cell? ⟨b, off + 1, none⟩ = some (.int .i64 v.k) ∧ w.cell? ⟨b, off + 2, none⟩ = some (.int .i64 v.n)
/-- A thing lies there. -/
def V.at (w : World) : V → Nat → Nat → Prop
  | ⟨k, kk, n, l⟩, b, off => V.fits ⟨k, kk, n, l⟩ ∧ V.head w ⟨k, kk, n, l⟩ b off ∧
      ∃ ao cap, w.cell? ⟨b, off + 3, none⟩ = some (.slice ao l.length cap) ∧ (l = [] ∨ ∃ b' off', ao = some ⟨b', off', none⟩ ∧ ats l b' off')
  where ats : List V → Nat → Nat → Prop
    | [], _, _ => True
    | v :: l, b, off => V.at w v b off ∧ ats l b (off + 4)
/-- Several lie in a row. -/
def Fo (w : World) (l : List V) (ao : Option Addr) : Prop := ∀ i (h : i < l.length), ∃ b off, ao = some ⟨b, off, none⟩ ∧ l[i].at w b (off + i * 4)
/-- A thing that is held: its list lies there. -/
structure Is (w : World) (v : V) (ao : Option Addr) : Prop where
  fit : v.fits
  fo : Fo w v.l ao
theorem ats_iff (w : World) (l : List V) (b off : Nat) : V.at.ats w l b off ↔ ∀ i (h : i < l.length), l[i].at w b (off + i * 4) := by
  induction l generalizing off with
  | nil => simp [V.at.ats]
  | cons v l ih =>
    rw [V.at.ats, ih]
    constructor
    · rintro ⟨h0, h1⟩ i hi
      cases i with
      | zero => simpa using h0
      | succ i => have := h1 i (by simpa using hi); rw [show off + 4 + i * 4 = off + (i + 1) * 4 by omega] at this; simpa using this
    · intro h
      refine ⟨h 0 (by simp), fun i hi => ?_⟩
      have := h (i + 1) (by simpa using hi)
      rw [show off + 4 + i * 4 = off + (i + 1) * 4 by omega]; simpa using this
theorem fo_iff (w : World) (l : List V) (ao : Option Addr) : Fo w l ao ↔ (l = [] ∨ ∃ b' off', ao = some ⟨b', off', none⟩ ∧ V.at.ats w l b' off') := by
  constructor
  · intro h
    cases l with
    | nil => exact .inl rfl
    | cons v l =>
      obtain ⟨b, off, e, _⟩ := h 0 (by simp)
      refine .inr ⟨b, off, e, (ats_iff w _ b off).2 fun i hi => ?_⟩
      obtain ⟨b', off', e', h'⟩ := h i hi
      rw [e] at e'; cases e'; exact h'
  · rintro (rfl | ⟨b, off, e, h⟩)
    · intro i hi; simp at hi
    · intro i hi; exact ⟨b, off, e, (ats_iff w l b off).1 h i hi⟩
theorem at_iff (w : World) (v : V) (b off : Nat) : v.at w b off ↔ v.head w b off ∧ ∃ ao cap, w.cell? ⟨b, off + 3, none⟩ = some (.slice ao v.l.length cap) ∧ Is w v ao := by
  obtain ⟨k, kk, n, l⟩ := v
  rw [V.at]
  constructor
  · rintro ⟨hf, hh, ao, cap, c2, h⟩
    exact ⟨hh, ao, cap, c2, hf, (fo_iff w l ao).2 h⟩
  · rintro ⟨hh, ao, cap, c2, hf, h⟩
    exact ⟨hf, hh, ao, cap, c2, (fo_iff w l ao).1 h⟩
theorem Fo.nil (w : World) (ao : Option Addr) : Fo w [] ao := fun i hi => by simp at hi
/-- The element of a list that lies there. -/
theorem Fo.get {w : World} {l : List V} {ao : Option Addr} (h : Fo w l ao) (i : Nat) (hi : i < l.length) :
    ∃ b off, ao = some ⟨b, off, none⟩ ∧ l[i].head w b (off + i * 4) ∧ ∃ ai cap, w.cell? ⟨b, off + i * 4 + 3, none⟩ = some (.slice ai l[i].l.length cap) ∧ Is w l[i] ai := by
  obtain ⟨b, off, e, h⟩ := h i hi
  exact ⟨b, off, e, (at_iff w _ _ _).1 h⟩
theorem Is.get {w : World} {v : V} {ao : Option Addr} (h : Is w v ao) (i : Nat) (hi : i < v.l.length) :
    ∃ b off, ao = some ⟨b, off, none⟩ ∧ v.l[i].head w b (off + i * 4) ∧ ∃ ai cap, w.cell? ⟨b, off + i * 4 + 3, none⟩ = some (.slice ai v.l[i].l.length cap) ∧ Is w v.l[i] ai := h.fo.get i hi
theorem head_kept {w w' : World} (hk : ∀ (a : Addr) (x : Value), w.cell? a = some x → w'.cell? a = some x) {v : V} {b off : Nat} (h : v.head w b off) : v.head w' b off :=
  ⟨hk _ _ h.1, hk _ _ h.2.1, hk _ _ h.2.2⟩
/-- The memory of a thing stays: so does the thing. -/
theorem at_kept {w w' : World} (hk : ∀ (a : Addr) (x : Value), w.cell? a = some x → w'.cell? a = some x) (v : V) : ∀ b off, v.at w b off → v.at w' b off := by
  induction v using V.ind' with
  | h v ih =>
    intro b off h
    rw [at_iff] at h ⊢
    obtain ⟨c0, ao, cap, c2, i⟩ := h
    refine ⟨head_kept hk c0, ao, cap, hk _ _ c2, i.fit, fun j hj => ?_⟩
    obtain ⟨b', off', e, h'⟩ := i.fo j hj
    exact ⟨b', off', e, ih _ (List.getElem_mem hj) _ _ h'⟩
theorem Fo.kept {w w' : World} {l : List V} {ao : Option Addr} (h : Fo w l ao) (hk : ∀ (a : Addr) (x : Value), w.cell? a = some x → w'.cell? a = some x) : Fo w' l ao :=
  fun j hj => by obtain ⟨b', off', e, h'⟩ := h j hj; exact ⟨b', off', e, at_kept hk _ _ _ h'⟩
theorem Is.kept {w w' : World} {v : V} {ao : Option Addr} (h : Is w v ao) (hk : ∀ (a : Addr) (x : Value), w.cell? a = some x → w'.cell? a = some x) : Is w' v ao := ⟨h.fit, h.fo.kept hk⟩
theorem low_kept {w w' : World} (hb : Below w.heap.size w w') : ∀ (a : Addr) (x : Value), w.cell? a = some x → w'.cell? a = some x := fun a _ hc => (World.cell?_of_block (hb.block a.block (World.block_lt_of_cell? w a hc))).trans hc
theorem Fo.low {w w' : World} {l : List V} {ao : Option Addr} (h : Fo w l ao) (hb : Below w.heap.size w w') : Fo w' l ao := h.kept (low_kept hb)
theorem Is.low {w w' : World} {v : V} {ao : Option Addr} (h : Is w v ao) (hb : Below w.heap.size w w') : Is w' v ao := h.kept (low_kept hb)
theorem Fo.quiet {w w' : World} {l : List V} {ao : Option Addr} (h : Fo w l ao) (hq : Quiet w w') : Fo w' l ao := h.low hq.low
theorem Is.quiet {w w' : World} {v : V} {ao : Option Addr} (h : Is w v ao) (hq : Quiet w w') : Is w' v ao := h.low hq.low
theorem at_quiet {w w' : World} {v : V} {b off : Nat} (h : v.at w b off) (hq : Quiet w w') : v.at w' b off := at_kept (low_kept hq.low) v b off h
theorem Is.leaf (w : World) (v : V) (hf : v.fits) (hl : v.l = []) (ao : Option Addr) : Is w v ao := ⟨hf, by rw [hl]; exact Fo.nil w ao⟩
theorem info_parts' {P : Program} {t : TypeId} {z : Value} {s b : Nat} (h : (P.info? t).map (fun i => (i.zero, i.size, i.bytes)) = some (some z, s, b)) : ∃ i, P.info? t = some i ∧ i.zero = some z ∧ i.size = s ∧ i.bytes = b := by
  cases hi : P.info? t with
  | none => simp [hi] at h
  | some i => simp [hi] at h; exact ⟨i, rfl, h.1, h.2.1, h.2.2⟩
end Go.Proofs.Ytjcniiojcigefad
