/- Memory of the call's own: an append that tells where its row lies; the object of package world, and its log. -/
import Derived.Test.YtjgeheggdoghiaaRows
import Derived.WalkKit
import Derived.ProofKit
import Derived.OpenShut
import Derived.ArgAppend
namespace Go.Proofs.Ytjgeheggdoghiaa
open Go.ChangeShapes Go.WideShapes Go.ChangeAt Go.RowKit
theorem hid {p : Prop} (h : p) : Hid p := h

theorem owns_mono {w : World} {base base' : Nat} {e : TypeId} {size : Nat} {v : Value} {n : Nat} {xs : List Value} (h : w.ownsRow base e size v n xs) (hb : base' ≤ base) : w.ownsRow base' e size v n xs := by
  refine ⟨h.1, ?_⟩
  rcases h.2 with hn | ⟨g, cap, cur, rfl, hg, rest⟩
  · exact .inl hn
  · exact .inr ⟨g, cap, cur, rfl, Nat.le_trans hb hg, rest⟩

/-- Where the row lies behind an append: where it lay, or in new memory. -/
def Near (w : World) (v v' : Value) : Prop := v'.ownBlock = v.ownBlock ∨ ∀ k, v'.ownBlock = some k → w.heap.size ≤ k

theorem run_append_near {P : Program} (w : World) (base : Nat) (t ty e : TypeId) (i : TypeInfo) (z : Value) (size bytes : Nat) (ht : P.underlying t = some (.slice e)) (hi : P.info? e = some i) (hz : i.zero = some z)
    (hsize : i.size = size) (hby : i.bytes = bytes) (hzs : z.cells.size = size) (hsz : 0 < size)
    (v : Value) (n : Nat) (xs : List Value) (hown : w.ownsRow base e size v n xs)
    (a : Addr) (m c : Nat) (news : List Value) (hl : news.length = m * size) (hnews : ∀ j u, news[j]? = some u → w.cell? (a.add j) = some u) (h1 : ∀ u ∈ news, u.oneCell' = true)
    (h63 : n + m ≤ maxLen) (hbytes : (n + m) * bytes ≤ 140737488355328) (hbase : base ≤ w.heap.size) :
    ∃ v' w', (Builtin.append_ #[t, t] ty #[v, .slice (some a) m c]).run P w = .ok v' w' ∧ w'.ownsRow base e size v' (n + m) (xs ++ news) ∧ w.grownBy w' v.ownBlock ∧ Near w v v' := by
  rcases hown.2 with ⟨rfl, rfl⟩ | ⟨g, cap, cur, rfl, hbg, hg, hnc, hcm, hcs, htake⟩
  · obtain rfl : xs = [] := List.eq_nil_of_length_eq_zero (by simpa using hown.1)
    obtain ⟨v', w', hr, h2, h3, _⟩ := run_append_own (P := P) w w.heap.size t ty e i z size bytes ht hi hz hsize hby hzs hsz (.slice none 0 0) 0 [] (World.ownsRow_nil w _ e size) a m c news hl hnews h1 h63 hbytes (Nat.le_refl _)
    exact ⟨v', w', hr, owns_mono h2 hbase, h3, .inr fun k hk => (h2.lt k hk).1⟩
  · by_cases hroom : n + m ≤ cap
    · obtain ⟨w', hr, h2, h3⟩ := run_append_fits (P := P) w base t ty e i size ht hi hsize g n cap xs hown a m c news hl hnews h1 hroom
      exact ⟨_, w', hr, h2, h3, .inl rfl⟩
    · obtain ⟨v', w', hr, h2, h3⟩ := run_append_arg_grows (P := P) w t ty e i z size bytes ht hi hz hsize hby hzs hsz ⟨g, 0, none⟩ n cap xs hown.1 (hown.cells (g := g) rfl) a m c news hl hnews (by omega) h63 hbytes
      exact ⟨v', w', hr, owns_mono h2 hbase, ⟨h3.os, h3.tape, h3.output, h3.size, fun k hk _ => h3.block k hk (by simp)⟩, .inr fun k hk => (h2.lt k hk).1⟩

theorem wpList_append_near {P : Program} (w : World) {ops : Array Oper} {rest : List Oper} {o : Oper} {a : Act} {Q : Exit → Act → World → Prop} (hgd : o.guard = none) (s x : Operand) (t : TypeId)
    (ho : o.op = .call { callee := .builtin .append, args := #[s, x], argTypes := #[t, t] })
    (base : Nat) (e : TypeId) (i : TypeInfo) (z : Value) (size bytes : Nat) (ht : P.underlying t = some (.slice e)) (hi : P.info? e = some i) (hz : i.zero = some z)
    (hsize : i.size = size) (hby : i.bytes = bytes) (hzs : z.cells.size = size) (hsz : 0 < size)
    (v : Value) (n : Nat) (xs : List Value) (hs : a.eval s = v) (hown : w.ownsRow base e size v n xs)
    (ad : Addr) (m c : Nat) (news : List Value) (hx : a.eval x = .slice (some ad) m c) (hl : news.length = m * size) (hnews : ∀ j u, news[j]? = some u → w.cell? (ad.add j) = some u) (h1 : ∀ u ∈ news, u.oneCell' = true)
    (h63 : n + m ≤ maxLen) (hbytes : (n + m) * bytes ≤ 140737488355328) (hbase : base ≤ w.heap.size)
    (h : ∀ v' w', w'.ownsRow base e size v' (n + m) (xs ++ news) → w.grownBy w' v.ownBlock → Near w v v' → wpList P ops Q rest (a.put o.dst v') w') : wpList P ops Q (o :: rest) a w := by
  refine wpList_plain hgd fun K hK => ?_
  obtain ⟨v', w', hr, h2, h3, h4⟩ := run_append_near (P := P) w base t o.type e i z size bytes ht hi hz hsize hby hzs hsz v n xs hown ad m c news hl hnews h1 h63 hbytes hbase
  unfold Oper.wp execOp
  simp only [ho, resolve, invoke, builtin, Sem.run_bind, Sem.run_pure, Result.andThen_ok, List.map_toArray, List.map_cons, List.map_nil, hs, hx, hr]
  exact hK _ _ (h v' w' h2 h3 h4)

/-- What may have turned between two worlds: blocks of F, and new ones. -/
structure Kp (F : Nat → Prop) (w w' : World) : Prop where
  os : w'.os = w.os
  tape : w'.tape = w.tape
  output : w'.output = w.output
  size : w.heap.size ≤ w'.heap.size
  block : ∀ k, k < w.heap.size → ¬ F k → w'.heap[k]? = w.heap[k]?

theorem Kp.refl (F : Nat → Prop) (w : World) : Kp F w w := ⟨rfl, rfl, rfl, Nat.le_refl _, fun _ _ _ => rfl⟩
theorem Kp.trans {F : Nat → Prop} {a b c : World} (h : Kp F a b) (k : Kp F b c) : Kp F a c :=
  ⟨k.os.trans h.os, k.tape.trans h.tape, k.output.trans h.output, Nat.le_trans h.size k.size, fun i hi hF => (k.block i (Nat.lt_of_lt_of_le hi h.size) hF).trans (h.block i hi hF)⟩
theorem Kp.mono {F G : Nat → Prop} {w w' : World} (h : Kp F w w') (hF : ∀ k, k < w.heap.size → F k → G k) : Kp G w w' :=
  ⟨h.os, h.tape, h.output, h.size, fun k hk hG => h.block k hk fun hf => hG (hF k hk hf)⟩
theorem Kp.grown {F : Nat → Prop} {w w' : World} {row : Option Nat} (hg : w.grownBy w' row) (hF : ∀ k, k < w.heap.size → some k = row → F k) : Kp F w w' :=
  ⟨hg.os, hg.tape, hg.output, hg.size, fun k hk hf => hg.block k hk fun e => hf (hF k hk e)⟩
theorem Kp.setCell {F : Nat → Prop} (w : World) (a : Addr) (u : Value) (hF : F a.block) : Kp F w (w.setCell a u) :=
  ⟨rfl, rfl, rfl, by simp [World.setCell], fun _ _ hf => Below.heap_setCell _ _ _ _ fun e => hf (e ▸ hF)⟩
theorem Kp.alloc {F : Nat → Prop} (w : World) (o : Obj) : Kp F w (w.alloc o) :=
  ⟨rfl, rfl, rfl, by simp, fun _ hk _ => Below.heap_alloc w o _ hk⟩
theorem Kp.drew {F : Nat → Prop} (w : World) : Kp F w w.drew := ⟨rfl, rfl, rfl, Nat.le_refl _, fun _ _ _ => rfl⟩
theorem Kp.cell {F : Nat → Prop} {w w' : World} (h : Kp F w w') {a : Addr} {v : Value} (hc : w.cell? a = some v) (hF : ¬ F a.block) : w'.cell? a = some v :=
  (World.cell?_of_block (h.block a.block (World.block_lt_of_cell? w a hc) hF)).trans hc
theorem Kp.row {F : Nat → Prop} {w w' : World} (h : Kp F w w') {base : Nat} {e : TypeId} {size : Nat} {v : Value} {n : Nat} {xs : List Value} (ho : w.ownsRow base e size v n xs) (hF : ∀ k, v.ownBlock = some k → ¬ F k) : w'.ownsRow base e size v n xs := by
  refine ⟨ho.1, ?_⟩
  rcases ho.2 with hn | ⟨g, cap, cur, rfl, hb, hgg, rest⟩
  · exact .inl hn
  · exact .inr ⟨g, cap, cur, rfl, hb, by rw [h.block g (lt_of_block hgg) (hF g rfl)]; exact hgg, rest⟩
theorem Kp.below {F : Nat → Prop} {w w' : World} {B : Nat} (h : Kp F w w') (hB : B ≤ w.heap.size) (hF : ∀ k, F k → B ≤ k) : Below B w w' :=
  ⟨h.os, h.tape, h.output, h.size, fun k hk => h.block k (Nat.lt_of_lt_of_le hk hB) fun hf => by have := hF k hf; omega⟩

structure Ent where
  plugin : Int
  cell : Int
  right : Int
  node : Int
def Ent.cells (e : Ent) : List Value := [.int .i64 e.plugin, .int .i64 e.cell, .int .i64 e.right, .int .i64 e.node]
def entCells (es : List Ent) : List Value := es.flatMap Ent.cells
theorem entCells_snoc (es : List Ent) (e : Ent) : entCells (es ++ [e]) = entCells es ++ e.cells := by simp [entCells]
theorem entCells_len (es : List Ent) : (entCells es).length = es.length * 4 := by
  induction es with
  | nil => rfl
  | cons e es ih => simp only [entCells, List.flatMap_cons, List.length_append, List.length_cons] at ih ⊢; rw [ih]; simp [Ent.cells]; omega
theorem entCells_at (es : List Ent) (k j : Nat) (hk : k < es.length) (hj : j < 4) : (entCells es)[k * 4 + j]? = (es[k]).cells[j]? := by
  induction es generalizing k with
  | nil => simp at hk
  | cons e es ih =>
    cases k with
    | zero => simp only [entCells, List.flatMap_cons]; rw [List.getElem?_append_left (by simp [Ent.cells]; omega)]; simp
    | succ k =>
      simp only [entCells, List.flatMap_cons]
      rw [List.getElem?_append_right (by simp [Ent.cells]; omega)]
      have := ih k (by simpa using hk)
      simp only [entCells] at this
      rw [show (k + 1) * 4 + j - e.cells.length = k * 4 + j by simp [Ent.cells]; omega, this]
      simp
theorem entCells_one (es : List Ent) : ∀ u ∈ entCells es, u.oneCell' = true := by
  intro u hu
  simp only [entCells, List.mem_flatMap] at hu
  obtain ⟨e, _, he⟩ := hu
  simp only [Ent.cells, List.mem_cons, List.not_mem_nil, or_false] at he
  rcases he with rfl | rfl | rfl | rfl <;> rfl

/-- The object: twelve cells, and the log's slice. -/
structure Wobj (w : World) (b : Nat) (cs : List Int) (v : Value) : Prop where
  len : cs.length = 12
  block : w.heap[b]? = some (.cells ((cs.map (Value.int .i64)) ++ [v]).toArray 55 (0, 0))
theorem Wobj.cell {w : World} {b : Nat} {cs : List Int} {v : Value} (h : Wobj w b cs v) (j : Nat) (hj : j < 12) : w.cell? ⟨b, j, none⟩ = some (.int .i64 (cs.getD j 0)) := by
  have hl := h.len
  simp only [World.cell?, h.block]
  simp [List.getElem?_append, hl, hj]
theorem Wobj.log {w : World} {b : Nat} {cs : List Int} {v : Value} (h : Wobj w b cs v) : w.cell? ⟨b, 12, none⟩ = some v := by
  have hl := h.len
  simp only [World.cell?, h.block]
  simp [hl]
theorem Wobj.free {w : World} {b : Nat} {cs : List Int} {v : Value} (h : Wobj w b cs v) (j : Nat) : w.frozen? ⟨b, j, none⟩ = false := frozen_of_row w b j _ 55 h.block
theorem Wobj.lt {w : World} {b : Nat} {cs : List Int} {v : Value} (h : Wobj w b cs v) : b < w.heap.size := lt_of_block h.block
theorem Wobj.setLog {w : World} {b : Nat} {cs : List Int} {v : Value} (h : Wobj w b cs v) (u : Value) : Wobj (w.setCell ⟨b, 12, none⟩ u) b cs u := by
  refine ⟨h.len, ?_⟩
  have hl := h.len
  rw [heap_setCell_same w b 12 _ 55 u h.block]
  congr 2
  apply Array.ext'
  simp [hl]
theorem Wobj.setAt {w : World} {b : Nat} {cs : List Int} {v : Value} (h : Wobj w b cs v) (j : Nat) (hj : j < 12) (x : Int) : Wobj (w.setCell ⟨b, j, none⟩ (.int .i64 x)) b (cs.set j x) v := by
  have hl := h.len
  refine ⟨by simp [hl], ?_⟩
  rw [heap_setCell_same w b j _ 55 _ h.block]
  congr 2
  apply Array.ext'
  simp [hl, hj, List.map_set]
theorem Wobj.kept {w w' : World} {b : Nat} {cs : List Int} {v : Value} {F : Nat → Prop} (h : Wobj w b cs v) (hk : Kp F w w') (hF : ¬ F b) : Wobj w' b cs v :=
  ⟨h.len, (hk.block b h.lt hF).trans h.block⟩

/-- The object with its log's row. -/
structure WS (B : Nat) (w : World) (b : Nat) (cs : List Int) (v : Value) (es : List Ent) : Prop where
  obj : Wobj w b cs v
  row : w.ownsRow B 43 4 v es.length (entCells es)
  ne : v.ownBlock ≠ some b
  lo : B ≤ b
/-- Its memory. -/
def Own (b : Nat) (v : Value) (k : Nat) : Prop := k = b ∨ v.ownBlock = some k
theorem WS.kept {B : Nat} {w w' : World} {b : Nat} {cs : List Int} {v : Value} {es : List Ent} {F : Nat → Prop} (h : WS B w b cs v es) (hk : Kp F w w') (hF : ∀ k, Own b v k → ¬ F k) : WS B w' b cs v es :=
  ⟨h.obj.kept hk (hF b (.inl rfl)), hk.row h.row (fun k e => hF k (.inr e)), h.ne, h.lo⟩
theorem WS.own_lt {B : Nat} {w : World} {b : Nat} {cs : List Int} {v : Value} {es : List Ent} (h : WS B w b cs v es) (k : Nat) (hk : Own b v k) : B ≤ k ∧ k < w.heap.size := by
  rcases hk with rfl | e
  · exact ⟨h.lo, h.obj.lt⟩
  · exact h.row.lt k e
/-- A new list of entries, or cells, in the same object. -/
structure Goes (b : Nat) (v : Value) (w : World) (v' : Value) (w' : World) : Prop where
  kp : Kp (Own b v) w w'
  near : Near w v v'
theorem Goes.own {b : Nat} {v v' : Value} {w w' : World} (h : Goes b v w v' w') (k : Nat) (hk : Own b v' k) : Own b v k ∨ w.heap.size ≤ k := by
  rcases hk with rfl | e
  · exact .inl (.inl rfl)
  · rcases h.near with hn | hn
    · exact .inl (.inr (hn ▸ e))
    · exact .inr (hn k e)
end Go.Proofs.Ytjgeheggdoghiaa
