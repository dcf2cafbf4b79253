/- Parts. -/
import Derived.Test.YtkpckmcaeljocaaGreatUV0
import Derived.Deep.RegionLaw
namespace Go.Proofs.YtkpckmcaeljocaaGreat.Gr
open Go.ChangeShapes Go.WideShapes Go.ChangeAt Go.RowKit
theorem hid {p : Prop} (h : p) : Hid p := h
structure Nd where
  parent : Int
  gate : Int
  rights : Int
  cell : Int
  plugin : Int
  func : Int
def nd0 : Nd := ⟨0, 0, 0, 0, 0, 0⟩
def thereB (n : Nat) (k : Int) : Bool := decide (0 ≤ k ∧ k < n)
theorem there_yes {n : Nat} {k : Int} (h : thereB n k = true) : ∃ j : Nat, k = j ∧ j < n := by
  simp [thereB] at h
  exact ⟨k.toNat, by omega, by omega⟩
theorem there_nat {n j : Nat} (h : j < n) : thereB n j = true := by simp [thereB]; omega
def openB (os : List Bool) (k : Int) : Bool := thereB os.length k && os.getD k.toNat false
structure NdOk (g k : Nat) (n : Nd) : Prop where
  p0 : -1 ≤ n.parent
  p1 : n.parent < k
  g0 : n.gate = -1 ∨ thereB g n.gate = true
  r0 : 0 ≤ n.rights
  r1 : n.rights ≤ 15
  c0 : 0 ≤ n.cell
  c1 : n.cell < 12
  l0 : -1 ≤ n.plugin
  l1 : n.plugin < 4
  f0 : 0 ≤ n.func
  f1 : n.func < 6
theorem NdOk.more {g g' k : Nat} {n : Nd} (h : NdOk g k n) (hg : g ≤ g') : NdOk g' k n := by
  refine { h with g0 := ?_ }
  rcases h.g0 with e | e
  · exact .inl e
  · simp [thereB] at e ⊢; omega
def Wf (ns : List Nd) (g : Nat) : Prop := ∀ k (h : k < ns.length), NdOk g k ns[k]
theorem Wf.nil (g : Nat) : Wf [] g := fun k h => absurd h (by simp)
theorem Wf.snoc {ns : List Nd} {g : Nat} (h : Wf ns g) {n : Nd} (hn : NdOk g ns.length n) : Wf (ns ++ [n]) g := by
  intro k hk
  by_cases e : k < ns.length
  · rw [List.getElem_append_left e]; exact h k e
  · have : k = ns.length := by simp at hk; omega
    subst this
    simpa using hn
theorem Wf.more {ns : List Nd} {g g' : Nat} (h : Wf ns g) (hg : g ≤ g') : Wf ns g' := fun k hk => (h k hk).more hg
def wayF (ns : List Nd) : Nat → Int → List Nd
  | 0, _ => []
  | f + 1, n => if thereB ns.length n then ns.getD n.toNat nd0 :: wayF ns f (ns.getD n.toNat nd0).parent else []
def wayOf (ns : List Nd) (n : Int) : List Nd := wayF ns (n.toNat + 1) n
theorem wayF_no {ns : List Nd} {n : Int} (h : thereB ns.length n = false) (f : Nat) : wayF ns f n = [] := by
  cases f <;> simp [wayF, h]
theorem way_no {ns : List Nd} {n : Int} (h : thereB ns.length n = false) : wayOf ns n = [] := wayF_no h _
theorem getD_of {ns : List Nd} {k : Nat} (h : k < ns.length) : ns.getD k nd0 = ns[k] := by simp [h]
theorem wayF_same {ns : List Nd} {g : Nat} (hw : Wf ns g) : ∀ f f' (n : Int), n.toNat < f → n.toNat < f' → wayF ns f n = wayF ns f' n := by
  intro f
  induction f with
  | zero => intro f' n h _; omega
  | succ f ih =>
    intro f' n h1 h2
    cases f' with
    | zero => omega
    | succ f' =>
      simp only [wayF]
      cases ht : thereB ns.length n with
      | false => simp
      | true =>
        obtain ⟨j, rfl, hj⟩ := there_yes ht
        simp only [Int.toNat_natCast, if_true] at h1 h2 ⊢
        have hk := hw j hj
        rw [getD_of hj]
        congr 1
        have p0 := hk.p0
        have p1 := hk.p1
        by_cases hp : ns[j].parent < 0
        · have e : thereB ns.length ns[j].parent = false := by simp [thereB]; omega
          rw [wayF_no e, wayF_no e]
        · exact ih f' _ (by omega) (by omega)
theorem way_yes {ns : List Nd} {g : Nat} (hw : Wf ns g) {j : Nat} (hj : j < ns.length) : wayOf ns j = ns[j] :: wayOf ns ns[j].parent := by
  have hk := hw j hj
  have p0 := hk.p0
  have p1 := hk.p1
  have e : wayOf ns j = ns[j] :: wayF ns j ns[j].parent := by
    simp only [wayOf, wayF, there_nat hj, if_true, Int.toNat_natCast, getD_of hj]
  rw [e]
  congr 1
  by_cases hp : ns[j].parent < 0
  · have e : thereB ns.length ns[j].parent = false := by simp [thereB]; omega
    rw [wayF_no e, way_no e]
  · exact wayF_same hw _ _ _ (by omega) (by omega)
theorem way_len {ns : List Nd} {g : Nat} (hw : Wf ns g) (n : Int) : (wayOf ns n).length ≤ ns.length := by
  cases ht : thereB ns.length n with
  | false => rw [way_no ht]; simp
  | true =>
    obtain ⟨j, rfl, hj⟩ := there_yes ht
    have : ∀ m j, j < m → j < ns.length → (wayOf ns (j : Int)).length ≤ j + 1 := by
      intro m
      induction m with
      | zero => intro j h _; omega
      | succ m ih =>
        intro j hm hj
        rw [way_yes hw hj]
        have hk := hw j hj
        have p0 := hk.p0
        have p1 := hk.p1
        by_cases hp : ns[j].parent < 0
        · have e : thereB ns.length ns[j].parent = false := by simp [thereB]; omega
          rw [way_no e]; simp
        · obtain ⟨q, hq⟩ : ∃ q : Nat, ns[j].parent = q := ⟨ns[j].parent.toNat, by omega⟩
          rw [hq] at p1 ⊢
          have := ih q (by omega) (by omega)
          simp only [List.length_cons]; omega
    have := this (j + 1) j (by omega) hj
    omega
theorem way_mem {ns : List Nd} {g : Nat} (hw : Wf ns g) (n : Int) : ∀ x ∈ wayOf ns n, ∃ k, NdOk g k x := by
  cases ht : thereB ns.length n with
  | false => rw [way_no ht]; simp
  | true =>
    obtain ⟨j, rfl, hj⟩ := there_yes ht
    have : ∀ m j, j < m → j < ns.length → ∀ x ∈ wayOf ns (j : Int), ∃ k, NdOk g k x := by
      intro m
      induction m with
      | zero => intro j h _; omega
      | succ m ih =>
        intro j hm hj x hx
        rw [way_yes hw hj] at hx
        have hk := hw j hj
        have p0 := hk.p0
        have p1 := hk.p1
        rcases List.mem_cons.1 hx with rfl | hx
        · exact ⟨j, hk⟩
        · by_cases hp : ns[j].parent < 0
          · have e : thereB ns.length ns[j].parent = false := by simp [thereB]; omega
            rw [way_no e] at hx; simp at hx
          · obtain ⟨q, hq⟩ : ∃ q : Nat, ns[j].parent = q := ⟨ns[j].parent.toNat, by omega⟩
            rw [hq] at p1 hx
            exact ih q (by omega) (by omega) x hx
    exact this (j + 1) j (by omega) hj
def passB (os : List Bool) (n : Nd) : Bool := n.gate == -1 || openB os n.gate
def meetW (r : Nat) (ws : List Nd) : Nat := ws.foldl (fun r n => r &&& n.rights.toNat) r
def rightsN (ns : List Nd) (os : List Bool) (n : Int) : Nat := if thereB ns.length n && (wayOf ns n).all (passB os) then meetW 15 (wayOf ns n) else 0
def gatesW (ws : List Nd) : List Int := (ws.map Nd.gate).filter (· != -1)
def gatesOf (ns : List Nd) (n : Int) : List Int := gatesW (wayOf ns n)
def targetOf (ns : List Nd) (n : Int) : Nd := (wayOf ns n).getLastD nd0
theorem and_small (a b : Nat) (ha : a ≤ 15) (hb : b ≤ 15) : bits .and .i64 (a : Int) (b : Int) = ((a &&& b : Nat) : Int) := by
  have h : ∀ r : Fin 16, ∀ m : Fin 16, bits .and .i64 (r.val : Int) (m.val : Int) = ((r.val &&& m.val : Nat) : Int) := by decide +kernel
  exact h ⟨a, by omega⟩ ⟨b, by omega⟩
theorem and_le15 (a b : Nat) (ha : a ≤ 15) : a &&& b ≤ 15 := Nat.le_trans Nat.and_le_left ha
theorem meet_le : ∀ (ws : List Nd) (r : Nat), r ≤ 15 → meetW r ws ≤ 15
  | [], _, h => h
  | _ :: ws, _, h => meet_le ws _ (and_le15 _ _ h)
theorem rights_le (ns : List Nd) (os : List Bool) (n : Int) : rightsN ns os n ≤ 15 := by
  unfold rightsN
  split
  · exact meet_le _ _ (Nat.le_refl _)
  · omega
theorem rights_no {ns : List Nd} {os : List Bool} {n : Int} (h : thereB ns.length n = false) : rightsN ns os n = 0 := by simp [rightsN, h]
structure Res where
  num : Int
  code : Int
  ns : List Nd
  os : List Bool
def addOf (ns : List Nd) (os : List Bool) (n : Nd) : Res :=
  if ¬ (0 ≤ n.rights ∧ n.rights ≤ 15) then ⟨0, 1, ns, os⟩
  else if n.gate ≠ -1 ∧ thereB os.length n.gate = false then ⟨0, 8, ns, os⟩
  else if ns.length = 80 then ⟨0, 11, ns, os⟩
  else ⟨ns.length, 0, ns ++ [n], os⟩
def gateOf (ns : List Nd) (os : List Bool) : Res := if os.length = 20 then ⟨0, 11, ns, os⟩ else ⟨os.length, 0, ns, os ++ [true]⟩
def cutOf (ns : List Nd) (os : List Bool) (k : Int) : Res := if thereB os.length k then ⟨0, 0, ns, os.set k.toNat false⟩ else ⟨0, 8, ns, os⟩
def cellB (c : Int) : Bool := decide (0 ≤ c ∧ c < 12)
def cellOf (ns : List Nd) (os : List Bool) (c r g : Int) : Res := if cellB c then addOf ns os ⟨-1, g, r, c, -1, 0⟩ else ⟨0, 1, ns, os⟩
def funcB (p f : Int) : Bool := decide (0 ≤ p ∧ p < 4 ∧ 0 ≤ f ∧ f < 6)
def funcOf (ns : List Nd) (os : List Bool) (p f r g : Int) : Res := if funcB p f then addOf ns os ⟨-1, g, r, 0, p, f⟩ else ⟨0, 1, ns, os⟩
def deriveOf (ns : List Nd) (os : List Bool) (p r g : Int) : Res := if thereB ns.length p then addOf ns os ⟨p, g, r, 0, -1, 0⟩ else ⟨0, 8, ns, os⟩
structure Grows (ns : List Nd) (os : List Bool) (ns' : List Nd) (os' : List Bool) : Prop where
  nodes : ns' = ns ∨ ∃ n, ns' = ns ++ [n]
  gates : os.length ≤ os'.length
  shut : ∀ k : Nat, k < os.length → os.getD k false = false → os'.getD k false = false
  wf : Wf ns os.length → Wf ns' os'.length
theorem Grows.refl (ns : List Nd) (os : List Bool) : Grows ns os ns os := ⟨.inl rfl, Nat.le_refl _, fun _ _ h => h, id⟩
theorem owns_mono {w : World} {base base' : Nat} {e : TypeId} {size : Nat} {v : Value} {n : Nat} {xs : List Value} (h : w.ownsRow base e size v n xs) (hb : base' ≤ base) : w.ownsRow base' e size v n xs := by
  refine ⟨h.1, ?_⟩
  rcases h.2 with hn | ⟨g, cap, cur, rfl, hg, rest⟩
  · exact .inl hn
  · exact .inr ⟨g, cap, cur, rfl, Nat.le_trans hb hg, rest⟩
def Nd.cells (n : Nd) : List Value := [.int .i64 n.parent, .int .i64 n.gate, .int .i64 n.rights, .int .i64 n.cell, .int .i64 n.plugin, .int .i64 n.func]
def Nd.agg (n : Nd) : Value := .agg #[.int .i64 n.parent, .int .i64 n.gate, .int .i64 n.rights, .int .i64 n.cell, .int .i64 n.plugin, .int .i64 n.func]
def ndCells (ns : List Nd) : List Value := ns.flatMap Nd.cells
theorem ndCells_snoc (ns : List Nd) (n : Nd) : ndCells (ns ++ [n]) = ndCells ns ++ n.cells := by simp [ndCells]
theorem ndCells_len (ns : List Nd) : (ndCells ns).length = ns.length * 6 := by
  induction ns with
  | nil => rfl
  | cons e es ih => simp only [ndCells, List.flatMap_cons, List.length_append, List.length_cons] at ih ⊢; rw [ih]; simp [Nd.cells]; omega
theorem ndCells_at (ns : List Nd) (k j : Nat) (hk : k < ns.length) (hj : j < 6) : (ndCells ns)[k * 6 + j]? = (ns[k]).cells[j]? := by
  induction ns generalizing k with
  | nil => simp at hk
  | cons e es ih =>
    cases k with
    | zero => simp only [ndCells, List.flatMap_cons]; rw [List.getElem?_append_left (by simp [Nd.cells]; omega)]; simp
    | succ k =>
      simp only [ndCells, List.flatMap_cons]
      rw [List.getElem?_append_right (by simp [Nd.cells]; omega)]
      have := ih k (by simpa using hk)
      simp only [ndCells] at this
      rw [show (k + 1) * 6 + j - e.cells.length = k * 6 + j by simp [Nd.cells]; omega, this]
      simp
theorem nd_one (n : Nd) : ∀ u ∈ n.cells, u.oneCell' = true := by
  intro u hu
  simp only [Nd.cells, List.mem_cons, List.not_mem_nil, or_false] at hu
  rcases hu with rfl | rfl | rfl | rfl | rfl | rfl <;> rfl
theorem ndCells_one (ns : List Nd) : ∀ u ∈ ndCells ns, u.oneCell' = true := by
  intro u hu
  simp only [ndCells, List.mem_flatMap] at hu
  obtain ⟨e, _, he⟩ := hu
  exact nd_one e u he
def bools (os : List Bool) : List Value := os.map Value.bool
theorem owns_shape {w : World} {base : Nat} {e : TypeId} {size : Nat} {v : Value} {n : Nat} {xs : List Value} (h : w.ownsRow base e size v n xs) : ∃ ao cap, v = .slice ao n cap := by
  rcases h.2 with ⟨rfl, rfl⟩ | ⟨g, cap, cur, rfl, _⟩
  · exact ⟨none, 0, rfl⟩
  · exact ⟨_, cap, rfl⟩
theorem owns_at {w : World} {base : Nat} {e : TypeId} {size : Nat} {ao : Option Addr} {cap n : Nat} {xs : List Value} (h : w.ownsRow base e size (.slice ao n cap) n xs) (hn : 0 < n) :
    ∃ g, ao = some ⟨g, 0, none⟩ ∧ ∀ j, j < n * size → w.cell? ⟨g, j, none⟩ = xs[j]? := by
  rcases h.2 with ⟨h', h0⟩ | ⟨g, cap', cur, h', _⟩
  · omega
  · simp only [Value.slice.injEq] at h'
    obtain ⟨rfl, _, rfl⟩ := h'
    exact ⟨g, rfl, fun j hj => h.cellAt j hj⟩
theorem owns_free {w : World} {base : Nat} {e : TypeId} {size g cap n : Nat} {xs : List Value} (h : w.ownsRow base e size (.slice (some ⟨g, 0, none⟩) n cap) n xs) (j : Nat) : w.frozen? ⟨g, j, none⟩ = false := by
  rcases h.2 with ⟨h', _⟩ | ⟨g', cap', cur, h', _, hg, _⟩
  · simp at h'
  · simp only [Value.slice.injEq, Option.some.injEq, Addr.mk.injEq] at h'
    obtain ⟨⟨rfl, _⟩, _, rfl⟩ := h'
    exact frozen_of_row w _ j _ e hg
theorem nd_cells {w : World} {g : Nat} {ns : List Nd} (h : ∀ j, j < ns.length * 6 → w.cell? ⟨g, j, none⟩ = (ndCells ns)[j]?) (k : Nat) (hk : k < ns.length) :
    w.cell? ⟨g, k * 6, none⟩ = some (.int .i64 ns[k].parent) ∧ w.cell? ⟨g, k * 6 + 1, none⟩ = some (.int .i64 ns[k].gate) ∧ w.cell? ⟨g, k * 6 + 2, none⟩ = some (.int .i64 ns[k].rights) ∧ w.cell? ⟨g, k * 6 + 3, none⟩ = some (.int .i64 ns[k].cell) ∧ w.cell? ⟨g, k * 6 + 4, none⟩ = some (.int .i64 ns[k].plugin) ∧ w.cell? ⟨g, k * 6 + 5, none⟩ = some (.int .i64 ns[k].func) := by
  refine ⟨?_, ?_, ?_, ?_, ?_, ?_⟩
  · rw [h _ (by omega), show k * 6 = k * 6 + 0 from rfl, ndCells_at ns k 0 hk (by decide)]; rfl
  · rw [h _ (by omega), ndCells_at ns k 1 hk (by decide)]; rfl
  · rw [h _ (by omega), ndCells_at ns k 2 hk (by decide)]; rfl
  · rw [h _ (by omega), ndCells_at ns k 3 hk (by decide)]; rfl
  · rw [h _ (by omega), ndCells_at ns k 4 hk (by decide)]; rfl
  · rw [h _ (by omega), ndCells_at ns k 5 hk (by decide)]; rfl
theorem bool_at {w : World} {g : Nat} {os : List Bool} (h : ∀ j, j < os.length * 1 → w.cell? ⟨g, j, none⟩ = (bools os)[j]?) (k : Nat) (hk : k < os.length) : w.cell? ⟨g, k, none⟩ = some (.bool (os.getD k false)) := by
  rw [h k (by omega)]; simp [bools, hk]
structure GS (t : TypeId) (B : Nat) (w : World) (b : Nat) (vn vo : Value) (ns : List Nd) (os : List Bool) : Prop where
  obj : w.heap[b]? = some (.cells #[vn, vo] t (0, 0))
  rn : w.ownsRow B 72 6 vn ns.length (ndCells ns)
  ro : w.ownsRow B 4 1 vo os.length (bools os)
  nb : vn.ownBlock ≠ some b
  ob : vo.ownBlock ≠ some b
  no : ∀ g, vn.ownBlock = some g → vo.ownBlock ≠ some g
  lo : B ≤ b
  ln : ns.length ≤ 80
  lg : os.length ≤ 20
def Own (b : Nat) (vn vo : Value) (k : Nat) : Prop := k = b ∨ vn.ownBlock = some k ∨ vo.ownBlock = some k
section
variable {t : TypeId} {B : Nat} {w w' : World} {b : Nat} {vn vo : Value} {ns : List Nd} {os : List Bool}
theorem GS.lt (h : GS t B w b vn vo ns os) : b < w.heap.size := lt_of_block h.obj
theorem GS.size (h : GS t B w b vn vo ns os) : B ≤ w.heap.size := by have := h.lt; have := h.lo; omega
theorem GS.cell0 (h : GS t B w b vn vo ns os) : w.cell? ⟨b, 0, none⟩ = some vn := by simp [World.cell?, h.obj]
theorem GS.cell1 (h : GS t B w b vn vo ns os) : w.cell? ⟨b, 1, none⟩ = some vo := by simp [World.cell?, h.obj]
theorem GS.free (h : GS t B w b vn vo ns os) (j : Nat) : w.frozen? ⟨b, j, none⟩ = false := frozen_of_row w b j _ t h.obj
theorem GS.own (h : GS t B w b vn vo ns os) (k : Nat) (hk : Own b vn vo k) : B ≤ k ∧ k < w.heap.size := by
  rcases hk with rfl | e | e
  · exact ⟨h.lo, h.lt⟩
  · exact h.rn.lt k e
  · exact h.ro.lt k e
theorem GS.kept {F : Nat → Prop} (h : GS t B w b vn vo ns os) (hk : Kp F w w') (hF : ∀ k, Own b vn vo k → ¬ F k) : GS t B w' b vn vo ns os :=
  { h with obj := (hk.block b h.lt (hF b (.inl rfl))).trans h.obj, rn := hk.row h.rn fun k e => hF k (.inr (.inl e)), ro := hk.row h.ro fun k e => hF k (.inr (.inr e)) }
theorem GS.quiet (h : GS t B w b vn vo ns os) (hk : Quiet w w') : GS t B w' b vn vo ns os := h.kept hk fun _ _ e => e
structure Goes (b : Nat) (vn vo : Value) (w : World) (vn' vo' : Value) (w' : World) : Prop where
  kp : Kp (Own b vn vo) w w'
  own : ∀ k, Own b vn' vo' k → Own b vn vo k ∨ w.heap.size ≤ k
theorem Goes.refl (b : Nat) (vn vo : Value) (w : World) : Goes b vn vo w vn vo w := ⟨Kp.refl _ _, fun _ h => .inl h⟩
theorem Goes.quiet (b : Nat) (vn vo : Value) (hk : Quiet w w') : Goes b vn vo w vn vo w' := ⟨hk.mono fun _ _ h => h.elim, fun _ h => .inl h⟩
theorem Goes.trans {v1 o1 v2 o2 v3 o3 : Value} {w1 w2 w3 : World} (h : Goes b v1 o1 w1 v2 o2 w2) (k : Goes b v2 o2 w2 v3 o3 w3) : Goes b v1 o1 w1 v3 o3 w3 := by
  refine ⟨⟨k.kp.os.trans h.kp.os, k.kp.tape.trans h.kp.tape, k.kp.output.trans h.kp.output, Nat.le_trans h.kp.size k.kp.size, fun i hi hF => ?_⟩, fun i hi => ?_⟩
  · refine (k.kp.block i (Nat.lt_of_lt_of_le hi h.kp.size) fun e => ?_).trans (h.kp.block i hi hF)
    rcases h.own i e with e | e
    · exact hF e
    · omega
  · rcases k.own i hi with e | e
    · exact h.own i e
    · exact .inr (Nat.le_trans h.kp.size e)
theorem Goes.below {w0 : World} {vn' vo' : Value} (hg : Goes b vn vo w vn' vo' w') (h : GS t B w b vn vo ns os) (h0 : Below B w0 w) : Below B w0 w' :=
  h0.trans (hg.kp.below h.size fun k hk => (h.own k hk).1)
theorem Goes.block {vn' vo' : Value} (hg : Goes b vn vo w vn' vo' w') {x : Nat} {o : Obj} (hx : w.heap[x]? = some o) (hn : ¬ Own b vn vo x) : w'.heap[x]? = some o ∧ ¬ Own b vn' vo' x := by
  refine ⟨(hg.kp.block x (lt_of_block hx) hn).trans hx, fun e => ?_⟩
  rcases hg.own x e with e | e
  · exact hn e
  · have := lt_of_block hx; omega
theorem Goes.row {vn' vo' : Value} (hg : Goes b vn vo w vn' vo' w') {base : Nat} {e : TypeId} {size : Nat} {v : Value} {n : Nat} {xs : List Value} (ho : w.ownsRow base e size v n xs) (hn : ∀ x, v.ownBlock = some x → ¬ Own b vn vo x) :
    w'.ownsRow base e size v n xs ∧ ∀ x, v.ownBlock = some x → ¬ Own b vn' vo' x := by
  refine ⟨hg.kp.row ho fun k e => hn k e, fun x hx e => ?_⟩
  rcases hg.own x e with e | e
  · exact hn x hx e
  · have := (ho.lt x hx).2; omega
def Beside (b : Nat) (vn vo : Value) (b2 : Nat) (vn2 vo2 : Value) : Prop := ∀ k, Own b vn vo k → ¬ Own b2 vn2 vo2 k
theorem Beside.symm {b2 : Nat} {vn2 vo2 : Value} (h : Beside b vn vo b2 vn2 vo2) : Beside b2 vn2 vo2 b vn vo := fun k h2 h1 => h k h1 h2
theorem Goes.beside {vn' vo' : Value} {t2 : TypeId} {B2 b2 : Nat} {vn2 vo2 : Value} {ns2 : List Nd} {os2 : List Bool} (hg : Goes b vn vo w vn' vo' w') (h2 : GS t2 B2 w b2 vn2 vo2 ns2 os2) (hb : Beside b vn vo b2 vn2 vo2) :
    GS t2 B2 w' b2 vn2 vo2 ns2 os2 ∧ Beside b vn' vo' b2 vn2 vo2 := by
  refine ⟨h2.kept hg.kp fun k e e2 => hb k e2 e, fun k e e2 => ?_⟩
  rcases hg.own k e with e | e
  · exact hb k e e2
  · have := (h2.own k e2).2; omega
theorem GS.new {B : Nat} (w : World) (t : TypeId) (hB : B ≤ w.heap.size) : GS t B (w.alloc (.cells #[.slice none 0 0, .slice none 0 0] t)) w.heap.size (.slice none 0 0) (.slice none 0 0) [] [] :=
  ⟨heap_alloc_new w _, World.ownsRow_nil _ _ _ _, World.ownsRow_nil _ _ _ _, by simp [Value.ownBlock], by simp [Value.ownBlock], by simp [Value.ownBlock], hB, by simp, by simp⟩
theorem GS.gated {o : Obj} {w1 : World} {g cap : Nat} {x : Bool} (h : GS t B w b vn vo ns os) (hl : os.length < 20) (hr : w1.ownsRow B 4 1 (.slice (some ⟨g, 0, none⟩) (os.length + 1) cap) (os.length + 1) (bools os ++ [.bool x])) (hg : (w.alloc o).grownBy w1 vo.ownBlock) (hat : vo.ownBlock = some g ∨ g = w.heap.size + 1) :
    w1.heap[b]? = some (.cells #[vn, vo] t (0, 0)) ∧ GS t B (w1.setCell ⟨b, 1, none⟩ (.slice (some ⟨g, 0, none⟩) (os.length + 1) cap)) b vn (.slice (some ⟨g, 0, none⟩) (os.length + 1) cap) ns (os ++ [x]) ∧ Goes b vn vo w vn (.slice (some ⟨g, 0, none⟩) (os.length + 1) cap) (w1.setCell ⟨b, 1, none⟩ (.slice (some ⟨g, 0, none⟩) (os.length + 1) cap)) := by
  have k2 : Kp (fun k => vo.ownBlock = some k) w w1 := (Kp.alloc w o).trans (Kp.grown hg fun k _ e => e.symm)
  have hobj : w1.heap[b]? = some (.cells #[vn, vo] t (0, 0)) := (k2.block b h.lt h.ob).trans h.obj
  have hb := h.lt
  have hgb : g ≠ b := by rintro rfl; rcases hat with e | e; exact h.ob e; omega
  have hng : ∀ k, vn.ownBlock = some k → k ≠ g := by
    rintro k e rfl
    rcases hat with e2 | e2
    · exact h.no k e e2
    · have := (h.rn.lt k e).2; omega
  refine ⟨hobj, ⟨?_, ?_, ?_, h.nb, by simpa [Value.ownBlock] using hgb, ?_, h.lo, h.ln, by simp; omega⟩, ?_, ?_⟩
  · rw [heap_setCell_same w1 b 1 _ t _ hobj]; simp
  · exact ownsRow_setCell_other (k2.row h.rn fun k e e2 => h.no k e e2) (a := ⟨b, 1, none⟩) h.nb _
  · have := ownsRow_setCell_other hr (a := ⟨b, 1, none⟩) (by simpa [Value.ownBlock] using hgb) (.slice (some ⟨g, 0, none⟩) (os.length + 1) cap)
    simpa [bools] using this
  · intro k e; simp only [Value.ownBlock, ne_eq, Option.some.injEq]; exact fun e2 => hng k e e2.symm
  · exact (k2.mono fun k _ e => .inr (.inr e)).trans (Kp.setCell _ _ _ (.inl rfl))
  · intro k e
    rcases e with e | e | e
    · exact .inl (.inl e)
    · exact .inl (.inr (.inl e))
    · simp only [Value.ownBlock, Option.some.injEq] at e
      subst e
      rcases hat with e | e
      · exact .inl (.inr (.inr e))
      · right; omega
theorem GS.added {w0 w1 : World} {g cap H : Nat} {n : Nd} (h : GS t B w b vn vo ns os) (hl : ns.length < 80) (hq : Quiet w w0) (hr : w1.ownsRow B 72 6 (.slice (some ⟨g, 0, none⟩) (ns.length + 1) cap) (ns.length + 1) (ndCells ns ++ n.cells)) (hg : w0.grownBy w1 vn.ownBlock) (hat : vn.ownBlock = some g ∨ g = H) (hH : w.heap.size ≤ H) :
    w1.heap[b]? = some (.cells #[vn, vo] t (0, 0)) ∧ GS t B (w1.setCell ⟨b, 0, none⟩ (.slice (some ⟨g, 0, none⟩) (ns.length + 1) cap)) b (.slice (some ⟨g, 0, none⟩) (ns.length + 1) cap) vo (ns ++ [n]) os ∧ Goes b vn vo w (.slice (some ⟨g, 0, none⟩) (ns.length + 1) cap) vo (w1.setCell ⟨b, 0, none⟩ (.slice (some ⟨g, 0, none⟩) (ns.length + 1) cap)) := by
  have k2 : Kp (fun k => vn.ownBlock = some k) w w1 := (hq.mono fun _ _ e => e.elim).trans (Kp.grown hg fun k _ e => e.symm)
  have hobj : w1.heap[b]? = some (.cells #[vn, vo] t (0, 0)) := (k2.block b h.lt h.nb).trans h.obj
  have hb := h.lt
  have hgb : g ≠ b := by rintro rfl; rcases hat with e | e; exact h.nb e; omega
  have hng : ∀ k, vo.ownBlock = some k → k ≠ g := by
    rintro k e rfl
    rcases hat with e2 | e2
    · exact h.no k e2 e
    · have := (h.ro.lt k e).2; omega
  refine ⟨hobj, ⟨?_, ?_, ?_, by simpa [Value.ownBlock] using hgb, h.ob, ?_, h.lo, by simp; omega, h.lg⟩, ?_, ?_⟩
  · rw [heap_setCell_same w1 b 0 _ t _ hobj]; simp
  · have := ownsRow_setCell_other hr (a := ⟨b, 0, none⟩) (by simpa [Value.ownBlock] using hgb) (.slice (some ⟨g, 0, none⟩) (ns.length + 1) cap)
    rw [ndCells_snoc]; simpa using this
  · exact ownsRow_setCell_other (k2.row h.ro fun k e e2 => h.no k e2 e) (a := ⟨b, 0, none⟩) h.ob _
  · intro k e; simp only [Value.ownBlock, Option.some.injEq] at e; subst e; intro e; exact hng _ e rfl
  · exact (k2.mono fun k _ e => .inr (.inl e)).trans (Kp.setCell _ _ _ (.inl rfl))
  · intro k e
    rcases e with e | e | e
    · exact .inl (.inl e)
    · simp only [Value.ownBlock, Option.some.injEq] at e
      subst e
      rcases hat with e | e
      · exact .inl (.inr (.inl e))
      · right; omega
    · exact .inl (.inr (.inr e))
theorem owns_set {w : World} {base : Nat} {e : TypeId} {g cap n : Nat} {xs : List Value} (h : w.ownsRow base e 1 (.slice (some ⟨g, 0, none⟩) n cap) n xs) (k : Nat) (u : Value) : (w.setCell ⟨g, k, none⟩ u).ownsRow base e 1 (.slice (some ⟨g, 0, none⟩) n cap) n (xs.set k u) := by
  refine ⟨by simpa using h.1, ?_⟩
  rcases h.2 with ⟨h', _⟩ | ⟨g', cap', cur, h', hb, hg, hnc, hcm, hcs, htake⟩
  · simp at h'
  · simp only [Value.slice.injEq, Option.some.injEq, Addr.mk.injEq] at h'
    obtain ⟨⟨rfl, _⟩, _, rfl⟩ := h'
    refine .inr ⟨g, cap, cur.set! k u, rfl, hb, ?_, hnc, hcm, by simpa using hcs, ?_⟩
    · rw [heap_setCell_same w g k cur e u hg]; simp
    · simp only [Array.set!_eq_setIfInBounds, Array.toList_setIfInBounds]
      rw [List.take_set, htake]
theorem GS.cut (h : GS t B w b vn vo ns os) {g cap k : Nat} (hv : vo = .slice (some ⟨g, 0, none⟩) os.length cap) (x : Bool) :
    GS t B (w.setCell ⟨g, k, none⟩ (.bool x)) b vn vo ns (os.set k x) ∧ Goes b vn vo w vn vo (w.setCell ⟨g, k, none⟩ (.bool x)) := by
  have hgo : vo.ownBlock = some g := by rw [hv]; rfl
  have k1 : Kp (fun i => i = g) w (w.setCell ⟨g, k, none⟩ (.bool x)) := Kp.setCell _ _ _ rfl
  have hgb : b ≠ g := fun e => h.ob (e ▸ hgo)
  refine ⟨{ h with obj := (k1.block b h.lt hgb).trans h.obj, rn := k1.row h.rn fun i e e2 => h.no i e (e2 ▸ hgo), ro := ?_, lg := by simpa using h.lg }, k1.mono fun i _ e => .inr (.inr (e ▸ hgo)), fun _ e => .inl e⟩
  have hr := h.ro
  rw [hv] at hr ⊢
  have := owns_set hr k (.bool x)
  simpa [bools, List.map_set] using this
end
theorem Tryz.infoN : (Tryz.prog.info? 72).map (fun i => (i.zero, i.size, i.bytes)) = some (some (.agg #[.int .i64 0, .int .i64 0, .int .i64 0, .int .i64 0, .int .i64 0, .int .i64 0]), 6, 48) := by kernel_rfl
theorem Tryz.infoB : (Tryz.prog.info? 4).map (fun i => (i.zero, i.size, i.bytes)) = some (some (.bool false), 1, 1) := by kernel_rfl
theorem Tryz.infoI : (Tryz.prog.info? 3).map (fun i => (i.zero, i.size, i.bytes)) = some (some (.int .i64 0), 1, 8) := by kernel_rfl
theorem Tryz.undN : Tryz.prog.underlying 75 = some (.slice 72) := by kernel_rfl
theorem Tryz.undB : Tryz.prog.underlying 99 = some (.slice 4) := by kernel_rfl
theorem Tryz.undI : Tryz.prog.underlying 130 = some (.slice 3) := by kernel_rfl
theorem news_at (w : World) (l : List Value) (t : TypeId) : ∀ j u, l[j]? = some u → (w.alloc (.cells l.toArray t)).cell? ((⟨w.heap.size, 0, none⟩ : Addr).add j) = some u := by
  intro j u hu
  rw [Addr.add_lit, cell_of_row _ _ _ _ t (0, 0) (heap_alloc_new w _)]
  simpa using hu
theorem check_any (a : Int) (w : World) :
    Calls Tryz.prog 124 #[.int .i64 a] w fun e w' => e = .returned (.bool (decide (0 ≤ a ∧ a ≤ 15))) ∧ w' = w := by
  by_cases h0 : 0 ≤ a
  · by_cases h1 : a ≤ 15
    · go_enter Tryz.func124, Tryz.ntmps124
      go_wp2
      go_ret
      exact ⟨by simp [*], rfl⟩
    · go_enter Tryz.func124, Tryz.ntmps124
      go_wp2
      go_ret
      exact ⟨by simp [*], rfl⟩
  · have hd : decide (0 ≤ a) = false := by simpa using h0
    go_enter Tryz.func124, Tryz.ntmps124
    go_wp2
    go_ret
    exact ⟨by simp [*], rfl⟩
theorem whas_any (a : Int) (w : World) :
    Calls Tryz.prog 103 #[.int .i64 a] w fun e w' => e = .returned (.bool (cellB a)) ∧ w' = w := by
  unfold cellB
  by_cases h0 : 0 ≤ a
  · by_cases h1 : a < 12
    · go_enter Tryz.func103, Tryz.ntmps103
      go_wp2
      go_ret
      exact ⟨by simp [*], rfl⟩
    · go_enter Tryz.func103, Tryz.ntmps103
      go_wp2
      go_ret
      exact ⟨by simp [*], rfl⟩
  · have hd : decide (0 ≤ a) = false := by simpa using h0
    go_enter Tryz.func103, Tryz.ntmps103
    go_wp2
    go_ret
    exact ⟨by simp [*], rfl⟩
theorem meet_any (a b : Nat) (ha : a ≤ 15) (hb : b ≤ 15) (w : World) :
    Calls Tryz.prog 182 #[.int .i64 a, .int .i64 b] w fun e w' => e = .returned (.int .i64 ((a &&& b : Nat) : Int)) ∧ w' = w := by
  have hE := hid (and_small a b ha hb)
  go_enter Tryz.func182, Tryz.ntmps182
  go_wp2
  go_ret
  exact ⟨by rw [← hE.out]; rfl, rfl⟩
theorem new_any (B : Nat) (w : World) (hB : B ≤ w.heap.size) :
    Calls Tryz.prog 69 #[] w fun e w' => e = .returned (.pointer (some ⟨w.heap.size, 0, none⟩)) ∧ GS 101 B w' w.heap.size (.slice none 0 0) (.slice none 0 0) [] [] ∧ Quiet w w' := by
  have hw := hid (GS.new w 101 hB)
  go_enter Tryz.func69, Tryz.ntmps69
  go_wp2
  go_ret
  exact ⟨rfl, hw.out, Kp.alloc w _⟩
section
variable {B : Nat} {w : World} {b : Nat} {vn vo : Value} {ns : List Nd} {os : List Bool}
theorem has_any (h : GS 101 B w b vn vo ns os) (k : Int) :
    Calls Tryz.prog 74 #[.pointer (some ⟨b, 0, none⟩), .int .i64 k] w fun e w' => e = .returned (.bool (thereB os.length k)) ∧ w' = w := by
  have c1 := h.cell1
  obtain ⟨ao, cap, rfl⟩ := owns_shape h.ro
  clear h
  unfold thereB
  by_cases h0 : 0 ≤ k
  · by_cases h1 : k < os.length
    · go_enter Tryz.func74, Tryz.ntmps74
      go_wp2
      go_ret
      exact ⟨by simp [*], rfl⟩
    · go_enter Tryz.func74, Tryz.ntmps74
      go_wp2
      go_ret
      exact ⟨by simp [*], rfl⟩
  · have hd : decide (0 ≤ k) = false := by simpa using h0
    go_enter Tryz.func74, Tryz.ntmps74
    go_wp2
    go_ret
    exact ⟨by simp [*], rfl⟩
theorem there_any (h : GS 101 B w b vn vo ns os) (k : Int) :
    Calls Tryz.prog 61 #[.pointer (some ⟨b, 0, none⟩), .int .i64 k] w fun e w' => e = .returned (.bool (thereB ns.length k)) ∧ w' = w := by
  have c1 := h.cell0
  obtain ⟨ao, cap, rfl⟩ := owns_shape h.rn
  clear h
  unfold thereB
  by_cases h0 : 0 ≤ k
  · by_cases h1 : k < ns.length
    · go_enter Tryz.func61, Tryz.ntmps61
      go_wp2
      go_ret
      exact ⟨by simp [*], rfl⟩
    · go_enter Tryz.func61, Tryz.ntmps61
      go_wp2
      go_ret
      exact ⟨by simp [*], rfl⟩
  · have hd : decide (0 ≤ k) = false := by simpa using h0
    go_enter Tryz.func61, Tryz.ntmps61
    go_wp2
    go_ret
    exact ⟨by simp [*], rfl⟩
theorem open_any (h : GS 101 B w b vn vo ns os) (k : Int) :
    Calls Tryz.prog 181 #[.pointer (some ⟨b, 0, none⟩), .int .i64 k] w fun e w' => e = .returned (.bool (openB os k)) ∧ w' = w := by
  have c1 := h.cell1
  cases ht : thereB os.length k with
  | false =>
    have hE := hid (show openB os k = false by simp [openB, ht])
    go_enter Tryz.func181, Tryz.ntmps181
    go_wp2_with (go_at_call 74; refine (has_any h _).mono ?_; rintro e w' ⟨rfl, rfl⟩)
    go_ret
    exact ⟨by rw [hE.out]; rfl, rfl⟩
  | true =>
    have hE := hid (show openB os k = os.getD k.toNat false by simp [openB, ht])
    obtain ⟨j, rfl, hj⟩ := there_yes ht
    have hro := h.ro
    obtain ⟨ao, cap, rfl⟩ := owns_shape hro
    obtain ⟨g, rfl, d⟩ := owns_at hro (by omega)
    have cj := bool_at d j hj
    clear hro d
    go_enter Tryz.func181, Tryz.ntmps181
    go_wp2_with (go_at_call 74; refine (has_any h _).mono ?_; rintro e w' ⟨rfl, rfl⟩)
    go_ret
    exact ⟨by rw [hE.out]; simp [hj], rfl⟩
theorem cut_any (h : GS 101 B w b vn vo ns os) (k : Int) :
    Calls Tryz.prog 48 #[.pointer (some ⟨b, 0, none⟩), .int .i64 k] w fun e w' => e = .returned (.int .i64 (cutOf ns os k).code) ∧ GS 101 B w' b vn vo (cutOf ns os k).ns (cutOf ns os k).os ∧ Goes b vn vo w vn vo w' := by
  have c1 := h.cell1
  cases ht : thereB os.length k with
  | false =>
    have hE := hid (show cutOf ns os k = ⟨0, 8, ns, os⟩ by simp [cutOf, ht])
    go_enter Tryz.func48, Tryz.ntmps48
    go_wp2_with (go_at_call 74; refine (has_any h _).mono ?_; rintro e w' ⟨rfl, rfl⟩)
    go_ret
    rw [hE.out]
    exact ⟨rfl, h, Goes.refl _ _ _ _⟩
  | true =>
    have hE := hid (show cutOf ns os k = ⟨0, 0, ns, os.set k.toNat false⟩ by simp [cutOf, ht])
    obtain ⟨j, rfl, hj⟩ := there_yes ht
    have hro := h.ro
    obtain ⟨ao, cap, rfl⟩ := owns_shape hro
    obtain ⟨g, rfl, d⟩ := owns_at hro (by omega)
    have cj := bool_at d j hj
    have fj := owns_free hro j
    have hD := hid (h.cut rfl false (k := j))
    clear hro d
    go_enter Tryz.func48, Tryz.ntmps48
    go_wp2_with (go_at_call 74; refine (has_any h _).mono ?_; rintro e w' ⟨rfl, rfl⟩)
    go_ret
    rw [hE.out]
    exact ⟨rfl, hD.out.1, hD.out.2⟩
set_option maxRecDepth 8000 in
set_option maxHeartbeats 1000000 in
theorem gate_any (h : GS 101 B w b vn vo ns os) :
    Calls Tryz.prog 49 #[.pointer (some ⟨b, 0, none⟩)] w fun e w' => e = .returned (.tuple #[.int .i64 (gateOf ns os).num, .int .i64 (gateOf ns os).code]) ∧ ∃ vo', GS 101 B w' b vn vo' (gateOf ns os).ns (gateOf ns os).os ∧ Goes b vn vo w vn vo' w' := by
  have c1 := h.cell1
  have hB := h.size
  obtain ⟨i0, hi, hz0, hz1, hz2⟩ := info_parts Tryz.infoB
  by_cases hl : os.length = 20
  · have hE := hid (show gateOf ns os = ⟨0, 11, ns, os⟩ by simp [gateOf, hl])
    have hro := h.ro
    obtain ⟨ao, cap, rfl⟩ := owns_shape hro
    rw [hl] at c1
    have hq := hid h
    clear h hro
    go_enter Tryz.func49, Tryz.ntmps49
    go_wp2
    go_ret2
    rw [hE.out]
    refine ⟨rfl, _, hq.out, Goes.refl _ _ _ _⟩
  · have hE := hid (show gateOf ns os = ⟨os.length, 0, ns, os ++ [true]⟩ by simp [gateOf, hl])
    have hlg := h.lg
    have hl2 : os.length < 20 := by omega
    have hro := h.ro
    obtain ⟨ao, cap, hv⟩ := owns_shape hro
    subst hv
    go_enter Tryz.func49, Tryz.ntmps49
    go_wp2_with (at_builtin; refine wpList_append_lies _ rfl (.tmp 14) (.tmp 15) 99 rfl B 4 i0 _ 1 1 Tryz.undB hi hz0 hz1 hz2 rfl (by decide) _ os.length (bools os) rfl (hro.alloc _) ⟨w.heap.size, 0, none⟩ 1 1 [.bool true] rfl rfl (news_at w _ 4) (by simp [Value.oneCell']) (by decide) (by unfold maxLen; omega) (by omega) (by simp; omega) (w.heap.size + 1) (by simp) ?_; intro g cap2 w1 hr hg hat hlt; have hD0 := GS.gated h hl2 hr hg hat; have cc : w1.cell? ⟨b, 1, none⟩ = some (.slice ao os.length cap) := (by simp [World.cell?, hD0.1]); have ff := frozen_of_row w1 b 1 _ 101 hD0.1; have hD := hid hD0.2; clear hr hg hat hlt hD0)
    go_ret2
    rw [hE.out]
    exact ⟨by simp, _, hD.out.1, hD.out.2⟩
end
section
variable {B : Nat} {w : World} {b : Nat} {vn vo : Value} {ns : List Nd} {os : List Bool}
theorem add_range {n : Nd} (h : decide (0 ≤ n.rights ∧ n.rights ≤ 15) = false) : addOf ns os n = ⟨0, 1, ns, os⟩ := by
  unfold addOf; rw [if_pos (by simpa using h)]
theorem add_none {n : Nd} (h : decide (0 ≤ n.rights ∧ n.rights ≤ 15) = true) (h1 : n.gate ≠ -1) (h2 : thereB os.length n.gate = false) : addOf ns os n = ⟨0, 8, ns, os⟩ := by
  have h' : 0 ≤ n.rights ∧ n.rights ≤ 15 := by simpa using h
  unfold addOf; rw [if_neg (by simpa using h'), if_pos ⟨h1, h2⟩]
theorem add_full {n : Nd} (h : decide (0 ≤ n.rights ∧ n.rights ≤ 15) = true) (h1 : n.gate = -1 ∨ thereB os.length n.gate = true) (hl : ns.length = 80) : addOf ns os n = ⟨0, 11, ns, os⟩ := by
  have h' : 0 ≤ n.rights ∧ n.rights ≤ 15 := by simpa using h
  unfold addOf
  rw [if_neg (by simpa using h'), if_neg (by rintro ⟨a, c⟩; rcases h1 with e | e; exact a e; rw [c] at e; cases e), if_pos hl]
theorem add_yes {n : Nd} (h : decide (0 ≤ n.rights ∧ n.rights ≤ 15) = true) (h1 : n.gate = -1 ∨ thereB os.length n.gate = true) (hl : ns.length ≠ 80) : addOf ns os n = ⟨ns.length, 0, ns ++ [n], os⟩ := by
  have h' : 0 ≤ n.rights ∧ n.rights ≤ 15 := by simpa using h
  unfold addOf
  rw [if_neg (by simpa using h'), if_neg (by rintro ⟨a, c⟩; rcases h1 with e | e; exact a e; rw [c] at e; cases e), if_neg hl]
theorem news_of {w : World} {x : Nat} {l : List Value} {t : TypeId} (h : w.heap[x]? = some (.cells l.toArray t (0, 0))) : ∀ j u, l[j]? = some u → w.cell? ((⟨x, 0, none⟩ : Addr).add j) = some u := by
  intro j u hu
  rw [Addr.add_lit, cell_of_row _ _ _ _ t (0, 0) h]
  simpa using hu
theorem new_two (w : World) (o1 o2 : Obj) : ((w.alloc o1).alloc o2).drew.heap[w.heap.size + 1]? = some o2 := by
  have := heap_alloc_new (w.alloc o1) o2
  rw [show (w.alloc o1).heap.size = w.heap.size + 1 by simp] at this
  exact this
theorem two_quiet (w : World) (o1 o2 : Obj) : Quiet w ((w.alloc o1).alloc o2).drew := ((Kp.alloc w o1).trans (Kp.alloc _ o2)).trans (Kp.drew _)
def addP (t : TypeId) (B b : Nat) (vn vo : Value) (ns : List Nd) (os : List Bool) (n : Nd) (w : World) (e : Ending) (w' : World) : Prop :=
  e = .returned (.tuple #[.int .i64 (addOf ns os n).num, .int .i64 (addOf ns os n).code]) ∧ ∃ vn', GS t B w' b vn' vo (addOf ns os n).ns (addOf ns os n).os ∧ Goes b vn vo w vn' vo w'
set_option maxRecDepth 8000 in
set_option maxHeartbeats 4000000 in
theorem add_any (h : GS 101 B w b vn vo ns os) (n : Nd) :
    Calls Tryz.prog 102 #[.pointer (some ⟨b, 0, none⟩), n.agg] w (addP 101 B b vn vo ns os n w) := by
  have q1 : Quiet w (w.alloc (.cells n.cells.toArray 72)) := Kp.alloc w _
  have h1 := h.quiet q1
  have c0 := h1.cell0
  obtain ⟨i0, hi, hz0, hz1, hz2⟩ := info_parts Tryz.infoN
  obtain ⟨np, ng, nr, nc, nl, nf⟩ := n
  simp only [Nd.agg, Nd.cells] at *
  cases hr : decide (0 ≤ nr ∧ nr ≤ 15) with
  | false =>
    have hE := hid (add_range (ns := ns) (os := os) (n := ⟨np, ng, nr, nc, nl, nf⟩) hr)
    go_enter Tryz.func102, Tryz.ntmps102
    go_wp2_with ((go_at_call 124; refine (check_any _ _).mono ?_; rintro e w' ⟨rfl, rfl⟩; rw [hr]))
    go_ret2
    unfold addP
    rw [hE.out]
    exact ⟨rfl, _, h1, Goes.quiet _ _ _ q1⟩
  | true =>
    by_cases hg : ng = -1
    · subst hg
      by_cases hl : ns.length = 80
      · have hE := hid (add_full (ns := ns) (os := os) (n := ⟨np, -1, nr, nc, nl, nf⟩) hr (.inl rfl) hl)
        obtain ⟨ao, cap, rfl⟩ := owns_shape h1.rn
        rw [hl] at c0
        go_enter Tryz.func102, Tryz.ntmps102
        go_wp2_with (go_at_call 124; refine (check_any _ _).mono ?_; rintro e w' ⟨rfl, rfl⟩; rw [hr])
        go_ret2
        unfold addP
        rw [hE.out]
        exact ⟨rfl, _, h1, Goes.quiet _ _ _ q1⟩
      · have hE := hid (add_yes (ns := ns) (os := os) (n := ⟨np, -1, nr, nc, nl, nf⟩) hr (.inl rfl) hl)
        have hl2 : ns.length < 80 := by have := h1.ln; omega
        have hrn := h1.rn
        obtain ⟨ao, cap, hv⟩ := owns_shape hrn
        subst hv
        go_enter Tryz.func102, Tryz.ntmps102
        go_wp2_with (go_at_call 124; refine (check_any _ _).mono ?_; rintro e w' ⟨rfl, rfl⟩; rw [hr])
        have c00 := (h1.quiet (Kp.alloc _ (.cells #[.int .i64 np, .int .i64 (-1), .int .i64 nr, .int .i64 nc, .int .i64 nl, .int .i64 nf] 72))).cell0
        go_region_law ((refine step_append_lies _ (by rfl) _ _ _ (by rfl) B 72 i0 _ 6 48 Tryz.undN hi hz0 hz1 hz2 rfl (by omega) (.slice ao ns.length cap) ns.length (ndCells ns) (by rfl) ((hrn.alloc _).drew) ⟨w.heap.size + 1, 0, none⟩ 1 1 [.int .i64 np, .int .i64 (-1), .int .i64 nr, .int .i64 nc, .int .i64 nl, .int .i64 nf] (by rfl) (by rfl) (news_of (t := 72) (new_two w _ _)) (nd_one ⟨np, -1, nr, nc, nl, nf⟩) (by omega) (by unfold maxLen; omega) (by omega) (by have := h.size; simp; omega) (w.heap.size + 2) (by simp) ?_; intro gg cap2 w1 hown1 hgrow hat hlt; have hD0 := GS.added (n := ⟨np, -1, nr, nc, nl, nf⟩) h hl2 (two_quiet w _ _) hown1 hgrow hat (by omega); have cc : w1.cell? ⟨b, 0, none⟩ = some (.slice ao ns.length cap) := (by simp [World.cell?, hD0.1]); have ff := frozen_of_row w1 b 0 _ 101 hD0.1; have hD := hid hD0.2; clear hown1 hgrow hat hlt hD0))
        all_goals (go_wp2; go_ret2; unfold addP; rw [hE.out]; exact ⟨by simp, _, hD.out.1, hD.out.2⟩)
    · have hgd : decide (ng = -1) = false := by simpa using hg
      cases ht : thereB os.length ng with
      | false =>
        have hE := hid (add_none (ns := ns) (os := os) (n := ⟨np, ng, nr, nc, nl, nf⟩) hr hg ht)
        go_enter Tryz.func102, Tryz.ntmps102
        go_wp2_with (first | (go_at_call 124; refine (check_any _ _).mono ?_; rintro e w' ⟨rfl, rfl⟩; rw [hr]) | (go_at_call 74; refine (has_any h1 _).mono ?_; rintro e w' ⟨rfl, rfl⟩; rw [ht]))
        go_ret2
        unfold addP
        rw [hE.out]
        exact ⟨rfl, _, h1, Goes.quiet _ _ _ q1⟩
      | true =>
        by_cases hl : ns.length = 80
        · have hE := hid (add_full (ns := ns) (os := os) (n := ⟨np, ng, nr, nc, nl, nf⟩) hr (.inr ht) hl)
          obtain ⟨ao, cap, rfl⟩ := owns_shape h1.rn
          rw [hl] at c0
          go_enter Tryz.func102, Tryz.ntmps102
          go_wp2_with (first | (go_at_call 124; refine (check_any _ _).mono ?_; rintro e w' ⟨rfl, rfl⟩; rw [hr]) | (go_at_call 74; refine (has_any h1 _).mono ?_; rintro e w' ⟨rfl, rfl⟩; rw [ht]))
          go_ret2
          unfold addP
          rw [hE.out]
          exact ⟨rfl, _, h1, Goes.quiet _ _ _ q1⟩
        · have hE := hid (add_yes (ns := ns) (os := os) (n := ⟨np, ng, nr, nc, nl, nf⟩) hr (.inr ht) hl)
          have hl2 : ns.length < 80 := by have := h1.ln; omega
          have hrn := h1.rn
          obtain ⟨ao, cap, hv⟩ := owns_shape hrn
          subst hv
          go_enter Tryz.func102, Tryz.ntmps102
          go_wp2_with (first | (go_at_call 124; refine (check_any _ _).mono ?_; rintro e w' ⟨rfl, rfl⟩; rw [hr]) | (go_at_call 74; refine (has_any h1 _).mono ?_; rintro e w' ⟨rfl, rfl⟩; rw [ht]))
          have c00 := (h1.quiet (Kp.alloc _ (.cells #[.int .i64 np, .int .i64 ng, .int .i64 nr, .int .i64 nc, .int .i64 nl, .int .i64 nf] 72))).cell0
          go_region_law ((refine step_append_lies _ (by rfl) _ _ _ (by rfl) B 72 i0 _ 6 48 Tryz.undN hi hz0 hz1 hz2 rfl (by omega) (.slice ao ns.length cap) ns.length (ndCells ns) (by rfl) ((hrn.alloc _).drew) ⟨w.heap.size + 1, 0, none⟩ 1 1 [.int .i64 np, .int .i64 ng, .int .i64 nr, .int .i64 nc, .int .i64 nl, .int .i64 nf] (by rfl) (by rfl) (news_of (t := 72) (new_two w _ _)) (nd_one ⟨np, ng, nr, nc, nl, nf⟩) (by omega) (by unfold maxLen; omega) (by omega) (by have := h.size; simp; omega) (w.heap.size + 2) (by simp) ?_; intro gg cap2 w1 hown1 hgrow hat hlt; have hD0 := GS.added (n := ⟨np, ng, nr, nc, nl, nf⟩) h hl2 (two_quiet w _ _) hown1 hgrow hat (by omega); have cc : w1.cell? ⟨b, 0, none⟩ = some (.slice ao ns.length cap) := (by simp [World.cell?, hD0.1]); have ff := frozen_of_row w1 b 0 _ 101 hD0.1; have hD := hid hD0.2; clear hown1 hgrow hat hlt hD0))
          all_goals (go_wp2; go_ret2; unfold addP; rw [hE.out]; exact ⟨by simp, _, hD.out.1, hD.out.2⟩)
end
end Go.Proofs.YtkpckmcaeljocaaGreat.Gr
