/- Memory: what may have turned between two worlds; tokens in a row of their own. -/
import Derived.Test.YtoadfodpjnhbmacDoorRows
import Derived.Test.YtoadfodpjnhbmacDoorTMath
import Derived.WalkKit
import Derived.ProofKit
import Derived.OpenShut
import Derived.ArgAppend
import Derived.OneCell
import Derived.BigQuiet
import Derived.Deep.AppendLies
import Derived.Deep.Slices
import Derived.Lib.OthersKept
namespace Go.Proofs.YtoadfodpjnhbmacDoor
open Go.ChangeShapes Go.WideShapes Go.ChangeAt Go.RowKit
theorem hid {p : Prop} (h : p) : Hid p := h
theorem owns_mono {w : World} {base base' : Nat} {e : TypeId} {size : Nat} {v : Value} {n : Nat} {xs : List Value} (h : w.ownsRow base e size v n xs) (hb : base' ≤ base) : w.ownsRow base' e size v n xs := by
  refine ⟨h.1, ?_⟩
  rcases h.2 with hn | ⟨g, cap, cur, rfl, hg, rest⟩
  · exact .inl hn
  · exact .inr ⟨g, cap, cur, rfl, Nat.le_trans hb hg, rest⟩
theorem owns_shape {w : World} {base : Nat} {e : TypeId} {size : Nat} {v : Value} {n : Nat} {xs : List Value} (h : w.ownsRow base e size v n xs) : ∃ ao cap, v = .slice ao n cap := by
  rcases h.2 with ⟨rfl, rfl⟩ | ⟨g, cap, cur, rfl, _⟩
  · exact ⟨none, 0, rfl⟩
  · exact ⟨_, cap, rfl⟩
theorem owns_at {w : World} {base : Nat} {e : TypeId} {size : Nat} {ao : Option Addr} {cap n : Nat} {xs : List Value} (h : w.ownsRow base e size (.slice ao n cap) n xs) (hn : 0 < n) :
    ∃ g, ao = some ⟨g, 0, none⟩ ∧ ∀ j, j < n * size → w.cell? ⟨g, j, none⟩ = xs[j]? := by
  rcases h.2 with ⟨h', h0⟩ | ⟨g, cap', cur, h', _⟩
  · omega
  · simp only [Value.slice.injEq] at h'
    obtain ⟨rfl, _, rfl⟩ := h'
    exact ⟨g, rfl, fun j hj => h.cellAt j hj⟩
theorem lies_shape {w : World} {base : Nat} {e : TypeId} {size : Nat} {v : Value} {n : Nat} {xs : List Value} (h : w.ownsRow base e size v n xs) (hn : 0 < n) : ∃ g cap, v = .slice (some ⟨g, 0, none⟩) n cap := by
  rcases h.2 with ⟨_, h0⟩ | ⟨g, cap, cur, rfl, _⟩
  · omega
  · exact ⟨g, cap, rfl⟩
/-- What may have turned between two worlds: blocks of F, and new ones. -/
structure Kp (F : Nat → Prop) (w w' : World) : Prop where
  os : w'.os = w.os
  tape : w'.tape = w.tape
  output : w'.output = w.output
  size : w.heap.size ≤ w'.heap.size
  block : ∀ k, k < w.heap.size → ¬ F k → w'.heap[k]? = w.heap[k]?
theorem Kp.refl (F : Nat → Prop) (w : World) : Kp F w w := ⟨rfl, rfl, rfl, Nat.le_refl _, fun _ _ _ => rfl⟩
theorem Kp.trans {F : Nat → Prop} {a b c : World} (h : Kp F a b) (k : Kp F b c) : Kp F a c :=
  ⟨k.os.trans h.os, k.tape.trans h.tape, k.output.trans h.output, Nat.le_trans h.size k.size, fun i hi hF => (k.block i (Nat.lt_of_lt_of_le hi h.size) hF).trans (h.block i hi hF)⟩
theorem Kp.mono {F G : Nat → Prop} {w w' : World} (h : Kp F w w') (hF : ∀ k, k < w.heap.size → F k → G k) : Kp G w w' :=
  ⟨h.os, h.tape, h.output, h.size, fun k hk hG => h.block k hk fun hf => hG (hF k hk hf)⟩
theorem Kp.grown {F : Nat → Prop} {w w' : World} {row : Option Nat} (hg : w.grownBy w' row) (hF : ∀ k, k < w.heap.size → some k = row → F k) : Kp F w w' :=
  ⟨hg.os, hg.tape, hg.output, hg.size, fun k hk hf => hg.block k hk fun e => hf (hF k hk e)⟩
theorem Kp.setCell {F : Nat → Prop} (w : World) (a : Addr) (u : Value) (hF : F a.block) : Kp F w (w.setCell a u) :=
  ⟨rfl, rfl, rfl, by simp [World.setCell], fun _ _ hf => Below.heap_setCell _ _ _ _ fun e => hf (e ▸ hF)⟩
theorem Kp.alloc {F : Nat → Prop} (w : World) (o : Obj) : Kp F w (w.alloc o) :=
  ⟨rfl, rfl, rfl, by simp, fun _ hk _ => Below.heap_alloc w o _ hk⟩
theorem Kp.drew {F : Nat → Prop} (w : World) : Kp F w w.drew := ⟨rfl, rfl, rfl, Nat.le_refl _, fun _ _ _ => rfl⟩
theorem Kp.drewN {F : Nat → Prop} (w : World) (n : Nat) : Kp F w (w.drewN n) := ⟨rfl, rfl, rfl, Nat.le_refl _, fun _ _ _ => rfl⟩
theorem Kp.cell {F : Nat → Prop} {w w' : World} (h : Kp F w w') {a : Addr} {v : Value} (hc : w.cell? a = some v) (hF : ¬ F a.block) : w'.cell? a = some v :=
  (World.cell?_of_block (h.block a.block (World.block_lt_of_cell? w a hc) hF)).trans hc
theorem Kp.row {F : Nat → Prop} {w w' : World} (h : Kp F w w') {base : Nat} {e : TypeId} {size : Nat} {v : Value} {n : Nat} {xs : List Value} (ho : w.ownsRow base e size v n xs) (hF : ∀ k, v.ownBlock = some k → ¬ F k) : w'.ownsRow base e size v n xs := by
  refine ⟨ho.1, ?_⟩
  rcases ho.2 with hn | ⟨g, cap, cur, rfl, hb, hgg, rest⟩
  · exact .inl hn
  · exact .inr ⟨g, cap, cur, rfl, hb, by rw [h.block g (lt_of_block hgg) (hF g rfl)]; exact hgg, rest⟩
theorem Kp.below {F : Nat → Prop} {w w' : World} {B : Nat} (h : Kp F w w') (hB : B ≤ w.heap.size) (hF : ∀ k, F k → B ≤ k) : Below B w w' :=
  ⟨h.os, h.tape, h.output, h.size, fun k hk => h.block k (Nat.lt_of_lt_of_le hk hB) fun hf => by have := hF k hf; omega⟩
/-- What is made in new memory only: the new blocks may turn again. -/
theorem Kp.fresh {F : Nat → Prop} {a b c : World} (h : Kp F a b) (k : Kp (fun i => a.heap.size ≤ i) b c) : Kp F a c :=
  ⟨k.os.trans h.os, k.tape.trans h.tape, k.output.trans h.output, Nat.le_trans h.size k.size, fun i hi hF => (k.block i (Nat.lt_of_lt_of_le hi h.size) (by omega)).trans (h.block i hi hF)⟩
abbrev Quiet (w w' : World) : Prop := Kp (fun _ => False) w w'
theorem quiet_of {w w' : World} (h : Below w.heap.size w w') : Quiet w w' := ⟨h.os, h.tape, h.output, h.size, fun k hk _ => h.block k hk⟩
theorem Kp.low {w w' : World} (h : Quiet w w') : Below w.heap.size w w' := h.below (Nat.le_refl _) fun _ h => h.elim

def In64 (z : Int) : Prop := -9223372036854775808 ≤ z ∧ z ≤ 9223372036854775807
theorem info_parts' {P : Program} {t : TypeId} {z : Value} {s b : Nat} (h : (P.info? t).map (fun i => (i.zero, i.size, i.bytes)) = some (some z, s, b)) : ∃ i, P.info? t = some i ∧ i.zero = some z ∧ i.size = s ∧ i.bytes = b := by
  cases hi : P.info? t with
  | none => simp [hi] at h
  | some i => simp [hi] at h; exact ⟨i, rfl, h.1, h.2.1, h.2.2⟩
theorem news_at (w : World) (l : List Value) (t : TypeId) : ∀ j u, l[j]? = some u → (w.alloc (.cells l.toArray t)).cell? ((⟨w.heap.size, 0, none⟩ : Addr).add j) = some u := by
  intro j u hu
  rw [Addr.add_lit, cell_of_row _ _ _ _ t (0, 0) (heap_alloc_new w _)]
  simpa using hu
theorem heap_two (w : World) (o1 o2 : Obj) : ((w.alloc o1).alloc o2).heap[w.heap.size + 1]? = some o2 := by
  have h := heap_alloc_new (w.alloc o1) o2
  rwa [World.size_alloc] at h
theorem news_from {w : World} {x : Nat} {l : List Value} {t : TypeId} (h : w.heap[x]? = some (.cells l.toArray t (0, 0))) : ∀ j u, l[j]? = some u → w.cell? ((⟨x, 0, none⟩ : Addr).add j) = some u := by
  intro j u hu
  rw [Addr.add_lit, cell_of_row _ _ _ _ t (0, 0) h]
  simpa using hu
theorem grown_quiet {w wr w1 : World} {o : Obj} {e : TypeId} {size : Nat} {v : Value} {n : Nat} {xs : List Value} (hk : Quiet w wr) (hr : wr.ownsRow w.heap.size e size v n xs) (hg : (wr.alloc o).grownBy w1 v.ownBlock) : Quiet w w1 :=
  hk.fresh ((Kp.alloc _ o).trans (Kp.grown hg fun k _ e => (hr.lt k e.symm).1))
theorem low_cell {B : Nat} {w w' : World} (hb : Below B w w') {a : Addr} {x : Value} (hc : w.cell? a = some x) (ha : a.block < B) : w'.cell? a = some x :=
  (World.cell?_of_block (hb.block a.block ha)).trans hc
theorem low_of {B : Nat} {W a b : World} (h : Below B W a) (q : Quiet a b) (hB : B ≤ a.heap.size) : Below B W b := h.trans (q.below hB fun _ e => e.elim)
theorem take_snoc {α : Type} (l : List α) (k : Nat) (hk : k < l.length) : l.take (k + 1) = l.take k ++ [l[k]] := by
  rw [List.take_add_one]; simp [hk]
theorem grown_undrew {w w1 : World} {r : Option Nat} (h : w.drew.grownBy w1 r) : w.grownBy w1 r := ⟨h.os, h.tape, h.output, h.size, h.block⟩
/-- A box of the call's own stays while nothing old turns. -/
theorem box_stays {w w' : World} {o : Obj} (q : Quiet (w.alloc o) w') : w'.heap[w.heap.size]? = some o := by
  rw [q.block w.heap.size (by simp) (fun h => h)]; exact heap_alloc_new w o
theorem box4 {w : World} {x : Nat} {a b c d : Value} {t : TypeId} (h : w.heap[x]? = some (.cells #[a, b, c, d] t (0, 0))) : w.cell? ⟨x, 0, none⟩ = some a ∧ w.cell? ⟨x, 1, none⟩ = some b ∧ w.cell? ⟨x, 2, none⟩ = some c ∧ w.cell? ⟨x, 3, none⟩ = some d := by
  refine ⟨?_, ?_, ?_, ?_⟩ <;> simp [World.cell?, h]
theorem box2 {w : World} {x : Nat} {a b : Value} {t : TypeId} (h : w.heap[x]? = some (.cells #[a, b] t (0, 0))) : w.cell? ⟨x, 0, none⟩ = some a ∧ w.cell? ⟨x, 1, none⟩ = some b := by
  refine ⟨?_, ?_⟩ <;> simp [World.cell?, h]
theorem box_free {w : World} {x : Nat} {cs : Array Value} {t : TypeId} (h : w.heap[x]? = some (.cells cs t (0, 0))) : ∀ j, w.frozen? ⟨x, j, none⟩ = false := fun j => Lib.frozen_of_heap h j
theorem set1 (w : World) (x j : Nat) (a : Value) : Kp (fun i => x ≤ i) w (w.setCell ⟨x, j, none⟩ a) := Kp.setCell w ⟨x, j, none⟩ a (Nat.le_refl x)
theorem set4 {w w' : World} {o : Obj} (q : Quiet (w.alloc o) w') (a b c d : Value) : Quiet w ((((w'.setCell ⟨w.heap.size, 0, none⟩ a).setCell ⟨w.heap.size, 1, none⟩ b).setCell ⟨w.heap.size, 2, none⟩ c).setCell ⟨w.heap.size, 3, none⟩ d) :=
  ((Kp.alloc w o).trans q).fresh (((((set1 _ _ 0 a).trans (set1 _ _ 1 b)).trans (set1 _ _ 2 c)).trans (set1 _ _ 3 d)))
theorem set2 {w w' : World} {o : Obj} (q : Quiet (w.alloc o) w') (a b : Value) : Quiet w ((w'.setCell ⟨w.heap.size, 0, none⟩ a).setCell ⟨w.heap.size, 1, none⟩ b) :=
  ((Kp.alloc w o).trans q).fresh ((set1 _ _ 0 a).trans (set1 _ _ 1 b))
/-- A token's cells. -/
def Tk.cells (t : Tk) : List Value := [.int .i64 t.pos, .string ⟨t.text.toArray⟩, .bool t.num, .int .i64 t.n]
def cellsOf (ts : List Tk) : List Value := ts.flatMap Tk.cells
theorem cellsOf_app (a b : List Tk) : cellsOf (a ++ b) = cellsOf a ++ cellsOf b := by simp [cellsOf]
theorem cellsOf_one (t : Tk) : cellsOf [t] = t.cells := by simp [cellsOf]
theorem cellsOf_len (ts : List Tk) : (cellsOf ts).length = ts.length * 4 := by
  induction ts with
  | nil => rfl
  | cons t ts ih => rw [show t :: ts = [t] ++ ts from rfl, cellsOf_app, List.length_append, ih, cellsOf_one]; simp [Tk.cells]; omega
theorem cellsOf_get (ts : List Tk) (i j : Nat) (hi : i < ts.length) (hj : j < 4) : (cellsOf ts)[i * 4 + j]? = ts[i].cells[j]? := by
  induction ts generalizing i with
  | nil => simp at hi
  | cons t ts ih =>
    rw [show cellsOf (t :: ts) = t.cells ++ cellsOf ts from rfl]
    have h4 : t.cells.length = 4 := rfl
    cases i with
    | zero => rw [List.getElem?_append_left (by omega)]; simp
    | succ i =>
      rw [List.getElem?_append_right (by omega), h4, show (i + 1) * 4 + j - 4 = i * 4 + j by omega]
      simpa using ih i (by simpa using hi)
/-- Tokens in a row of the call's own. -/
def Toks (w : World) (B : Nat) (e : TypeId) (v : Value) (ts : List Tk) : Prop := w.ownsRow B e 4 v ts.length (cellsOf ts)
theorem Toks.quiet {w w' : World} {B : Nat} {e : TypeId} {v : Value} {ts : List Tk} (h : Toks w B e v ts) (q : Quiet w w') : Toks w' B e v ts := q.row h fun _ _ h => h
theorem Toks.shape {w : World} {B : Nat} {e : TypeId} {v : Value} {ts : List Tk} (h : Toks w B e v ts) : ∃ ao cap, v = .slice ao ts.length cap := owns_shape h
theorem Toks.part {w : World} {B : Nat} {e : TypeId} {v : Value} {ts : List Tk} (h : Toks w B e v ts) : ∃ ao m cap, v = .slice ao m cap ∧ ts.length = m ∧ w.ownsRow B e 4 (.slice ao m cap) m (cellsOf ts) := by
  obtain ⟨ao, cap, rfl⟩ := h.shape
  exact ⟨ao, _, cap, rfl, rfl, h⟩
theorem Toks.at {w : World} {B : Nat} {e : TypeId} {ao : Option Addr} {cap : Nat} {ts : List Tk} (h : Toks w B e (.slice ao ts.length cap) ts) (i : Nat) (hi : i < ts.length) :
    ∃ g, ao = some ⟨g, 0, none⟩ ∧ w.cell? ⟨g, i * 4, none⟩ = some (.int .i64 ts[i].pos) ∧ w.cell? ⟨g, i * 4 + 1, none⟩ = some (.string ⟨ts[i].text.toArray⟩) ∧ w.cell? ⟨g, i * 4 + 2, none⟩ = some (.bool ts[i].num) ∧ w.cell? ⟨g, i * 4 + 3, none⟩ = some (.int .i64 ts[i].n) := by
  obtain ⟨g, e, h⟩ := owns_at h (by omega)
  refine ⟨g, e, ?_, ?_, ?_, ?_⟩
  · rw [h (i * 4) (by omega), show i * 4 = i * 4 + 0 from rfl, cellsOf_get ts i 0 hi (by omega)]; rfl
  · rw [h _ (by omega), cellsOf_get ts i 1 hi (by omega)]; rfl
  · rw [h _ (by omega), cellsOf_get ts i 2 hi (by omega)]; rfl
  · rw [h _ (by omega), cellsOf_get ts i 3 hi (by omega)]; rfl
theorem Toks.tok {w : World} {B : Nat} {e : TypeId} {ao : Option Addr} {m cap : Nat} {ts : List Tk} (h : Toks w B e (.slice ao m cap) ts) (hm : ts.length = m) (i : Nat) (t : Tk) (ht : ts[i]? = some t) :
    ∃ g, ao = some ⟨g, 0, none⟩ ∧ w.cell? ⟨g, i * 4, none⟩ = some (.int .i64 t.pos) ∧ w.cell? ⟨g, i * 4 + 1, none⟩ = some (.string ⟨t.text.toArray⟩) ∧ w.cell? ⟨g, i * 4 + 2, none⟩ = some (.bool t.num) ∧ w.cell? ⟨g, i * 4 + 3, none⟩ = some (.int .i64 t.n) := by
  subst hm
  obtain ⟨hi, rfl⟩ := List.getElem?_eq_some_iff.1 ht
  exact h.at i hi
theorem Toks.nil (w : World) (B : Nat) (e : TypeId) : Toks w B e (.slice none 0 0) [] := ⟨rfl, .inl ⟨rfl, rfl⟩⟩
end Go.Proofs.YtoadfodpjnhbmacDoor
