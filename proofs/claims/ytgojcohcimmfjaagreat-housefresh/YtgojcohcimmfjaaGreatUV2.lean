/- A house in memory: a box, and what each plugin was given; what may turn in it; what is asked of New, Do, Hand and Kept. Steps that are handed in, in memory; none of their modules is great. The arguments of the laws of a house, opened: a step, and a list of steps. How much a step of a house may add: entries, things in a hand. The contracts of package vals that look at a part by itself: partsOf, fault. The search among values: those that are still to be looked at, in a row. The contract of Search with the question of Gates. -/
import Derived.Test.YtgojcohcimmfjaaGreatUB0
import Derived.Test.YtgojcohcimmfjaaGreatUE5
import Derived.Deep.Slices
import Derived.Test.YtgojcohcimmfjaaGreatUV1
import Derived.Test.YtgojcohcimmfjaaGreatUV0
namespace Go.Proofs.YtgojcohcimmfjaaGreat
open Go.ChangeShapes Go.WideShapes Go.ChangeAt Go.RowKit
open Gr (Nd Res nd0 thereB openB deriveOf addOf gateOf cutOf cellB cellOf funcB funcOf rightsN wayOf gatesOf gatesW targetOf Wf NdOk GS IntsAt)
/-- Where a house lies. -/
structure Hx where
  B : Nat
  hb : Nat
  bb : Nat
  g : Nat
  wd : Nat
/-- What of it may lie elsewhere later on: rows of capabilities, gates, entries; the hands. -/
structure Hq where
  n : Value
  o : Value
  l : Value
  r : Nat → Option Addr × Nat
def handV (q : Hq) (h : Hs) (p : Nat) : Value := .slice (q.r p).1 (h.hs.getD p []).length (q.r p).2
/-- Things without others in them, in a row. -/
def hd (l : List V) : List Kd := l.map fun v => (v, none, 0)
/-- The blocks of the hands, and the house's own. -/
def OwnX (M : Hx) (q : Hq) (k : Nat) : Prop := k = M.hb ∨ ∃ p, p < 4 ∧ (Value.slice (q.r p).1 0 0).ownBlock = some k
/-- The memory of a house. -/
def OwnH (M : Hx) (q : Hq) (k : Nat) : Prop := OwnB M.bb M.g M.wd q.n q.o q.l k ∨ OwnX M q k
theorem own_len (a : Option Addr) (n c n' c' : Nat) : (Value.slice a n c).ownBlock = (Value.slice a n' c').ownBlock := by cases a <;> rfl
/-- A house in a state; what it keeps hangs on no block of X. -/
structure HouseS (X : Nat → Prop) (M : Hx) (q : Hq) (h : Hs) (w : World) : Prop where
  box : BoxX (fun k => OwnX M q k ∨ X k) M.B w M.bb M.g M.wd q.n q.o q.l h.ms h.s
  obj : w.heap[M.hb]? = some (.cells #[.pointer (some ⟨M.bb, 0, none⟩), handV q h 0, handV q h 1, handV q h 2, handV q h 3] 46 (0, 0))
  row : ∀ p, p < 4 → w.ownsRow M.B 31 3 (handV q h p) (h.hs.getD p []).length (tris (hd (h.hs.getD p [])))
  ap : ∀ p p', p < 4 → p' < 4 → p ≠ p' → ∀ k, (Value.slice (q.r p).1 0 0).ownBlock = some k → (Value.slice (q.r p').1 0 0).ownBlock ≠ some k
  leaf : ∀ p, p < 4 → ∀ v ∈ h.hs.getD p [], v.l = [] ∧ v.fits
  ok : HOk h
  fit : FitsM h.ms
  ci : ∀ c ∈ h.s.cs, In64 c
  lo : M.B ≤ M.hb
  xo : ∀ k, X k → k < w.heap.size ∧ ¬ OwnH M q k
/-- What a step of a house may do. -/
structure GoesH (M : Hx) (q : Hq) (w : World) (q' : Hq) (w' : World) : Prop where
  kp : Kp (OwnH M q) w w'
  own : ∀ k, OwnH M q' k → OwnH M q k ∨ w.heap.size ≤ k
section
variable {M : Hx} {q q' q2 : Hq} {h h' : Hs} {w w' w2 : World} {X X' : Nat → Prop}
theorem GoesH.refl (M : Hx) (q : Hq) (w : World) : GoesH M q w q w := ⟨Kp.refl _ _, fun _ e => .inl e⟩
theorem GoesH.quiet (M : Hx) (q : Hq) (k : Quiet w w') : GoesH M q w q w' := ⟨k.mono fun _ _ e => e.elim, fun _ e => .inl e⟩
theorem GoesH.trans (a : GoesH M q w q' w') (b : GoesH M q' w' q2 w2) : GoesH M q w q2 w2 := by
  refine ⟨⟨b.kp.os.trans a.kp.os, b.kp.tape.trans a.kp.tape, b.kp.output.trans a.kp.output, Nat.le_trans a.kp.size b.kp.size, fun i hi hF => ?_⟩, fun i hi => ?_⟩
  · refine (b.kp.block i (Nat.lt_of_lt_of_le hi a.kp.size) fun e => ?_).trans (a.kp.block i hi hF)
    rcases a.own i e with e | e
    · exact hF e
    · omega
  · rcases b.own i hi with e | e
    · exact a.own i e
    · exact .inr (Nat.le_trans a.kp.size e)
theorem GoesH.fresh (a : GoesH M q w q' w') (k : Kp (fun i => w.heap.size ≤ i) w' w2) : GoesH M q w q' w2 := ⟨a.kp.fresh k, a.own⟩
theorem GoesH.after (k : Quiet w w2) (a : GoesH M q w2 q' w') : GoesH M q w q' w' := (GoesH.quiet M q k).trans a
theorem GoesH.safe {P : World → Prop} (a : GoesH M q w q' w') (hs : SafeF (fun k => OwnH M q k ∨ X k) P w) : SafeF (fun k => OwnH M q' k ∨ X k) P w' :=
  hs.step (a.kp.mono fun _ _ e => .inl e) fun k hk e => by
    rcases e with e | e
    · rcases a.own k e with e | e
      · exact .inl e
      · omega
    · exact .inr e
theorem GoesH.block (a : GoesH M q w q' w') {x : Nat} {o : Obj} (hx : w.heap[x]? = some o) (hn : ¬ OwnH M q x) : w'.heap[x]? = some o ∧ ¬ OwnH M q' x := by
  have hl : x < w.heap.size := (Array.getElem?_eq_some_iff.1 hx).1
  refine ⟨(a.kp.block x hl hn).trans hx, fun e => ?_⟩
  rcases a.own x e with e | e
  · exact hn e
  · omega
theorem HouseS.own (H : HouseS X M q h w) (k : Nat) (hk : OwnH M q k) : M.B ≤ k ∧ k < w.heap.size := by
  rcases hk with e | e | ⟨p, hp, e⟩
  · obtain ⟨a, b, c, d, hb⟩ := H.box.is
    exact hb.own k e
  · rw [e]; exact ⟨H.lo, lt_of_block H.obj⟩
  · exact (H.row p hp).lt k ((own_len _ _ _ _ _).trans e)
theorem HouseS.new (H : HouseS X M q h w) (k : Nat) (hk : w.heap.size ≤ k) : ¬ OwnH M q k := fun e => by have := (H.own k e).2; omega
theorem HouseS.old (H : HouseS X M q h w) (k : Nat) (hk : k < M.B) : ¬ OwnH M q k := fun e => by have := (H.own k e).1; omega
/-- A block of another type is not the house's. -/
theorem HouseS.free (H : HouseS X M q h w) {k : Nat} {cs : Array Value} {t : TypeId} (hk : w.heap[k]? = some (.cells cs t (0, 0))) (h0 : t ≠ 54) (h1 : t ≠ 104) (h2 : t ≠ 101) (h3 : t ≠ 4) (h4 : t ≠ 96) (h5 : t ≠ 98) (h6 : t ≠ 46) (h7 : t ≠ 31) : ¬ OwnH M q k := by
  rintro (e | e | ⟨p, hp, e⟩)
  · obtain ⟨a, b, c, d, hb⟩ := H.box.is
    exact hb.free hk h0 h1 h2 h3 h4 h5 e
  · rw [e, H.obj] at hk; simp at hk; exact h6 hk.2.symm
  · obtain ⟨cs', hc⟩ := row_type (H.row p hp) ((own_len _ _ _ _ _).trans e)
    rw [hc] at hk; simp at hk; exact h7 hk.2.symm
/-- New memory alone; other blocks are to stay. -/
theorem HouseS.step (H : HouseS X M q h w) (k : Quiet w w') (hX : ∀ i, i < w.heap.size → X' i → X i) (xo : ∀ i, X' i → i < w'.heap.size) : HouseS X' M q h w' :=
  ⟨H.box.step k fun i hi e => by
      rcases e with e | e
      · exact .inl e
      · exact .inr (hX i hi e), (k.block _ (lt_of_block H.obj) fun e => e).trans H.obj, fun p hp => k.row (H.row p hp) fun _ _ e => e, H.ap, H.leaf, H.ok, H.fit, H.ci, H.lo, fun i hi => ⟨xo i hi, fun e => by
      have hl := (H.own i e).2
      exact (H.xo i (hX i hl hi)).2 e⟩⟩
theorem HouseS.quiet (H : HouseS X M q h w) (k : Quiet w w') : HouseS X M q h w' := H.step k (fun _ _ e => e) fun i e => Nat.lt_of_lt_of_le (H.xo i e).1 k.size
/-- Blocks of X turn. -/
theorem HouseS.turn {F : Nat → Prop} (H : HouseS X M q h w) (k : Kp F w w') (hX : ∀ i, F i → X i) (hI : ∀ (i : Nat) (cs : Array Value) (t : TypeId), w.heap[i]? = some (.cells cs t (0, 0)) → t = 133 ∨ t = 127 → ¬ F i) : HouseS X M q h w' := by
  have hn : ∀ i, OwnH M q i → ¬ F i := fun i hi e => (H.xo i (hX i e)).2 hi
  exact ⟨H.box.beside k (fun i e => .inr (hX i e)) (fun i hi => hn i (.inl hi)) hI, (k.block _ (lt_of_block H.obj) (hn _ (.inr (.inl rfl)))).trans H.obj, fun p hp => k.row (H.row p hp) fun i e => hn i (.inr (.inr ⟨p, hp, (own_len _ _ _ _ _).trans e⟩)), H.ap, H.leaf, H.ok, H.fit, H.ci, H.lo, fun i hi => ⟨Nat.lt_of_lt_of_le (H.xo i hi).1 k.size, (H.xo i hi).2⟩⟩
theorem HouseS.below {B : Nat} {w0 : World} (H : HouseS X M q h w) (hB : B ≤ M.B) (h0 : Below B w0 w) (g : GoesH M q w q' w') : Below B w0 w' :=
  h0.trans (g.kp.below (by have := lt_of_block H.obj; have := H.lo; omega) fun k hk => Nat.le_trans hB (H.own k hk).1)
theorem HouseS.cells (H : HouseS X M q h w) : w.cell? ⟨M.hb, 0, none⟩ = some (.pointer (some ⟨M.bb, 0, none⟩)) ∧ w.cell? ⟨M.bb, 0, none⟩ = some (.pointer (some ⟨M.g, 0, none⟩)) ∧ w.cell? ⟨M.bb, 1, none⟩ = some (.pointer (some ⟨M.wd, 0, none⟩)) := by
  obtain ⟨a, b, c, d, hb⟩ := H.box.is
  exact ⟨by simp [World.cell?, H.obj], by simp [World.cell?, hb.obj, boxC], by simp [World.cell?, hb.obj, boxC]⟩
theorem HouseS.gs (H : HouseS X M q h w) : GS 104 M.B w M.g q.n q.o h.s.ns h.s.os := by
  obtain ⟨a, b, c, d, hb⟩ := H.box.is
  exact hb.gs
theorem HouseS.ws (H : HouseS X M q h w) : Wo.WS M.B w M.wd h.s.cs q.l h.s.es := by
  obtain ⟨a, b, c, d, hb⟩ := H.box.is
  exact hb.ws
end
/-- What a plugin was given; what it keeps. -/
def handOf (h : Hs) (p : Int) : List V := if 0 ≤ p ∧ p < 4 then h.hs.getD p.toNat [] else []
def keptOf (h : Hs) (p : Int) : V := if 0 ≤ p ∧ p < 4 then h.s.ks.getD p.toNat v0 else v0
/-- A step, as it is handed in. -/
structure Sx where
  kind : Int
  p : Int
  q : Int
  k : Int
  h : Int
  r : Int
  g : Int
  n : Int
  fs : List Ex.V
  fa : Option Addr
  fc : Nat
def Sx.vals (x : Sx) : Array Value := #[.int .i64 x.kind, .int .i64 x.p, .int .i64 x.q, .int .i64 x.k, .int .i64 x.h, .int .i64 x.r, .int .i64 x.g, .int .i64 x.n, .slice x.fa x.fs.length x.fc]
def Sx.sp (x : Sx) (code : Int) : Sp := ⟨x.kind, x.p, x.q, x.k, x.h, x.r, x.g, x.n, code, x.fs⟩
structure Sx.Fit (x : Sx) : Prop where
  kind : In64 x.kind
  p : In64 x.p
  q : In64 x.q
  k : In64 x.k
  h : In64 x.h
  r : In64 x.r
  g : In64 x.g
  n : In64 x.n
  ins : ∀ v ∈ x.fs, ∀ i ∈ Ex.funC v, In64 i.n
/-- The contract of Make there, whatever is told. -/
def MakeAt (P : Int × Int → Prop) (x : Sx) (w : World) : Prop := (∀ f, P f → f.1 = 0 → ∀ v ∈ x.fs, v.bad x.fs.length 0 = 0) ∧ ∀ w1, Quiet w w1 → Calls Tryz.prog 49 #[.agg #[.slice x.fa x.fs.length x.fc]] w1 fun e w' => Ex.MakeQ P x.fs w1 e w'
/-- What a step comes to. -/
def HDoQ (X : Nat → Prop) (M : Hx) (q : Hq) (r : Evt × Hs) (w : World) (e : Ending) (w' : World) : Prop :=
  ∃ q' ao cap, e = .returned (.agg #[.int .i64 r.1.code, .int .i64 r.1.fuel, .int .i64 r.1.v.kind, .int .i64 r.1.v.n, .slice ao r.1.v.l.length cap]) ∧ HouseS X M q' r.2 w' ∧ GoesH M q w q' w' ∧ SafeF (fun k => OwnH M q' k ∨ X k) (fun w => Is w r.1.v ao) w'
/-- No hand has very many things. -/
def FewH (h : Hs) : Prop := ∀ p, (h.hs.getD p []).length ≤ 100000
theorem few_of {h : Hs} (hl : ∀ x ∈ h.hs, x.length ≤ 100000) : FewH h := fun p => by
  rw [List.getD_eq_getElem?_getD]
  cases e : h.hs[p]? with
  | none => simp
  | some x => exact hl x (List.mem_of_getElem? e)
def HNewC : Prop := ∀ (X : Nat → Prop) (B : Nat) (w : World), (∀ k, X k → k < w.heap.size) → B ≤ w.heap.size → Calls Tryz.prog 9 #[] w fun e w' => ∃ M q, M.B = B ∧ e = .returned (.pointer (some ⟨M.hb, 0, none⟩)) ∧ HouseS X M q h00 w' ∧ (∀ k, OwnH M q k → w.heap.size ≤ k) ∧ Quiet w w'
def HDoC : Prop := ∀ (X : Nat → Prop) (M : Hx) (q : Hq) (h : Hs) (w : World) (x : Sx) (P : Int × Int → Prop), HouseS X M q h w → x.Fit → h.s.es.length ≤ 900000 → FewH h → MakeAt P x w →
    Calls Tryz.prog 11 #[.pointer (some ⟨M.hb, 0, none⟩), .agg x.vals] w fun e w' => ∃ c, (x.kind = 1 → plugB x.p = true → ∃ f, P f ∧ f.1 = c) ∧ HDoQ X M q (stepH h (x.sp c)) w e w'
def HHandC : Prop := ∀ (X : Nat → Prop) (M : Hx) (q : Hq) (h : Hs) (w : World) (p : Int), HouseS X M q h w → FewH h → In64 p →
    Calls Tryz.prog 20 #[.pointer (some ⟨M.hb, 0, none⟩), .int .i64 p] w fun e w' => ∃ ao cap, e = .returned (.slice ao (handOf h p).length cap) ∧ SafeF (fun k => OwnH M q k ∨ X k) (fun w => Fo w (handOf h p) ao) w' ∧ Quiet w w'
def HKeptC : Prop := ∀ (X : Nat → Prop) (M : Hx) (q : Hq) (h : Hs) (w : World) (p : Int), HouseS X M q h w → In64 p →
    Calls Tryz.prog 22 #[.pointer (some ⟨M.hb, 0, none⟩), .int .i64 p] w fun e w' => ∃ ao cap, e = .returned (.agg #[.int .i64 (keptOf h p).kind, .int .i64 (keptOf h p).n, .slice ao (keptOf h p).l.length cap]) ∧ SafeF (fun k => OwnH M q k ∨ X k) (fun w => Is w (keptOf h p) ao) w' ∧ Quiet w w'
end Go.Proofs.YtgojcohcimmfjaaGreat
namespace Go.Proofs.YtgojcohcimmfjaaGreat
open Go.ChangeShapes Go.WideShapes Go.ChangeAt Go.RowKit
/-- A step's module lies there, and its numbers fit. -/
structure SxIs (w : World) (x : Sx) : Prop where
  fit : x.Fit
  fo : Ex.Fo (Ex.thw w) x.fs x.fa
/-- Steps lie in a row. -/
def StepsAt (w : World) (xs : List Sx) (sa : Option Addr) : Prop := ∀ i (h : i < xs.length), ∃ b off, sa = some ⟨b, off, none⟩ ∧ (∀ j, j < 9 → w.cell? ⟨b, off + i * 9 + j, none⟩ = xs[i].vals[j]?) ∧ SxIs w xs[i]
theorem thw_low {w w' : World} (h : Below w.heap.size w w') : ∀ (a : Addr) (x : Value), (Ex.thw w).cell? a = some x → (Ex.thw w').cell? a = some x := by
  intro a x hx
  have hl : a.block < w.heap.size := by
    cases e : w.heap[a.block]? with
    | none => simp [World.cell?, Ex.thw, e] at hx
    | some o => exact (Array.getElem?_eq_some_iff.1 e).1
  have hb := Ex.thw_block (h.block a.block hl)
  unfold World.cell? at *
  rw [hb]; exact hx
theorem cell_in {w : World} {a : Addr} {x : Value} (h : w.cell? a = some x) : a.block < w.heap.size := by
  cases e : w.heap[a.block]? with
  | none => simp [World.cell?, e] at h
  | some o => exact (Array.getElem?_eq_some_iff.1 e).1
theorem SxIs.low {w w' : World} {x : Sx} (h : SxIs w x) (k : Below w.heap.size w w') : SxIs w' x := ⟨h.fit, h.fo.kept (thw_low k)⟩
theorem SxIs.quiet {w w' : World} {x : Sx} (h : SxIs w x) (k : Quiet w w') : SxIs w' x := h.low k.low
theorem StepsAt.low {w w' : World} {xs : List Sx} {sa : Option Addr} (h : StepsAt w xs sa) (k : Below w.heap.size w w') : StepsAt w' xs sa := by
  intro i hi
  obtain ⟨b, off, e, hc, hs⟩ := h i hi
  refine ⟨b, off, e, fun j hj => ?_, hs.low k⟩
  have h1 := hc j hj
  have h9 : xs[i].vals[j]? = some (xs[i].vals[j]'(by simp [Sx.vals]; omega)) := Array.getElem?_eq_getElem _
  rw [h9] at h1 ⊢
  exact (k.cell (cell_in h1)).trans h1
theorem StepsAt.quiet {w w' : World} {xs : List Sx} {sa : Option Addr} (h : StepsAt w xs sa) (k : Quiet w w') : StepsAt w' xs sa := h.low k.low
/-- The cells of a step. -/
theorem StepsAt.get {w : World} {xs : List Sx} {sa : Option Addr} (h : StepsAt w xs sa) (i : Nat) (hi : i < xs.length) : ∃ b off, sa = some ⟨b, off, none⟩ ∧ w.cell? ⟨b, off + i * 9, none⟩ = some (.int .i64 xs[i].kind) ∧ w.cell? ⟨b, off + i * 9 + 1, none⟩ = some (.int .i64 xs[i].p) ∧ w.cell? ⟨b, off + i * 9 + 2, none⟩ = some (.int .i64 xs[i].q) ∧ w.cell? ⟨b, off + i * 9 + 3, none⟩ = some (.int .i64 xs[i].k) ∧ w.cell? ⟨b, off + i * 9 + 4, none⟩ = some (.int .i64 xs[i].h) ∧ w.cell? ⟨b, off + i * 9 + 5, none⟩ = some (.int .i64 xs[i].r) ∧ w.cell? ⟨b, off + i * 9 + 6, none⟩ = some (.int .i64 xs[i].g) ∧ w.cell? ⟨b, off + i * 9 + 7, none⟩ = some (.int .i64 xs[i].n) ∧ w.cell? ⟨b, off + i * 9 + 8, none⟩ = some (.slice xs[i].fa xs[i].fs.length xs[i].fc) ∧ SxIs w xs[i] := by
  obtain ⟨b, off, e, hc, hs⟩ := h i hi
  exact ⟨b, off, e, hc 0 (by decide), hc 1 (by decide), hc 2 (by decide), hc 3 (by decide), hc 4 (by decide), hc 5 (by decide), hc 6 (by decide), hc 7 (by decide), hc 8 (by decide), hs⟩
/-- There are too many, or one is great. -/
def greatH (xs : List Sx) (most : Nat) : Bool := (xs.take most).any (fun x => Ex.great x.fs) || decide (most < xs.length)
theorem greatH_no {xs : List Sx} {most : Nat} (h : greatH xs most = false) : xs.length ≤ most ∧ ∀ x ∈ xs, Ex.great x.fs = false := by
  simp only [greatH, Bool.or_eq_false_iff, decide_eq_false_iff_not] at h
  have hl : xs.length ≤ most := by omega
  refine ⟨hl, fun x hx => ?_⟩
  have h1 := h.1
  rw [List.take_of_length_le hl] at h1
  have := List.any_eq_false.1 h1 x hx
  simpa using this
set_option maxRecDepth 8000 in
set_option maxHeartbeats 2000000 in
theorem greatHouse_any (xs : List Sx) (sa : Option Addr) (sc most : Nat) (w : World) (hx : StepsAt w xs sa) (hm : most ≤ 1000) :
    Calls Tryz.prog 8 #[.slice sa xs.length sc, .int .i64 most] w fun e w' => e = .returned (.bool (greatH xs most)) ∧ Quiet w w' := by
  have HX := hid hx
  clear hx
  go_enter Tryz.func8, Tryz.ntmps8
  go_wp2
  go_loopw [5] (fun i wr => ∃ j : Nat, j ≤ xs.length ∧ j ≤ most ∧ i = .int .i64 j ∧ ((xs.take j).any fun x => Ex.great x.fs) = false ∧ Quiet w wr) (fun i _ => xs.length - (intOf i).toNat)
  case atStart => exact ⟨0, Nat.zero_le _, Nat.zero_le _, rfl, by simp, Kp.refl _ _⟩
  case round =>
    rename World => wq
    obtain ⟨j, hj, hjm, rfl, hany, q⟩ := hrel
    by_cases hlt : j < xs.length
    · have hlt' : (j : Int) < (xs.length : Int) := by omega
      by_cases hlm : j < most
      · have hlm' : (j : Int) < (most : Int) := by omega
        obtain ⟨b, off, rfl, _, _, _, _, _, _, _, _, c8, hs⟩ := (HX.out.quiet q).get j hlt
        have HC := hid (Ex.great_any xs[j].fs xs[j].fa xs[j].fc wq hs.fo.unthaw)
        have HN := hid (take_snoc xs j hlt)
        have HA := hid hany
        generalize hcu : xs[j] = x at *
        have HM := hid (show x ∈ xs.take most by rw [← hcu]; exact List.mem_take_iff_getElem.2 ⟨j, by omega, rfl⟩)
        clear hcu hs hany
        cases hg : Ex.great x.fs with
        | true =>
          rw [hg] at HC
          have hE := hid (show greatH xs most = true by
            simp only [greatH, Bool.or_eq_true]
            exact .inl (List.any_eq_true.2 ⟨x, HM.out, hg⟩))
          go_wp2_with (go_at_call 24; refine HC.out.mono ?_; rintro e w3 ⟨rfl, q3⟩)
          go_ret
          exact ⟨by rw [hE.out]; rfl, q.trans q3⟩
        | false =>
          rw [hg] at HC
          have HG := hid hg
          clear hg
          go_wp2_with (go_at_call 24; refine HC.out.mono ?_; rintro e w3 ⟨rfl, q3⟩)
          refine ⟨⟨j + 1, by omega, by omega, by go_num, ?_, q.trans q3⟩, by simp [intOf]; omega⟩
          rw [HN.out, List.any_append, HA.out]; simp [HG.out]
      · obtain rfl : j = most := by omega
        have hlm' : ¬ (j : Int) < (j : Int) := by omega
        have hE := hid (show greatH xs j = true by simp [greatH, hlt])
        go_wp2
        go_ret
        exact ⟨by rw [hE.out]; rfl, q⟩
    · obtain rfl : j = xs.length := by omega
      have hnl : ¬ ((most : Int) < (xs.length : Int)) := by omega
      have hE := hid (show greatH xs most = false by simp [greatH]; rw [List.take_of_length_le hjm]; rw [List.take_length] at hany; exact ⟨by simpa using hany, by omega⟩)
      go_wp2
      go_ret
      exact ⟨by rw [hE.out]; rfl, q⟩
end Go.Proofs.YtgojcohcimmfjaaGreat
namespace Go.Proofs.YtgojcohcimmfjaaGreat
open Go.ChangeShapes Go.WideShapes Go.ChangeAt Go.RowKit
/-- The numbers of an expression's instructions fit. -/
theorem code_fit {w : World} (v : Ex.V) : ∀ (ao : Option Addr), Ex.Is w v ao → ∀ p, ∀ i ∈ v.code p, In64 i.n := by
  have z : In64 0 := ⟨by decide, by decide⟩
  induction v using Ex.V.ind' with
  | h v ih =>
    intro ao hI p i hi
    have key : ∀ (l : List Ex.V), (∀ u ∈ l, ∀ p, ∀ i ∈ u.code p, In64 i.n) → ∀ k p, ∀ i ∈ Ex.codes v.kind l k p, In64 i.n := by
      intro l
      induction l with
      | nil => intro _ k p i hi; rw [Ex.codes_nil] at hi; simp at hi
      | cons u l ihl =>
        intro hl k p i hi
        rw [Ex.codes_cons] at hi
        rcases List.mem_append.1 hi with hi | hi
        · unfold Ex.preC at hi
          repeat' split at hi
          all_goals simp at hi
          all_goals first
            | (rw [hi]; exact z)
            | (rcases hi with hi | hi <;> (rw [hi]; exact z))
        · rcases List.mem_append.1 hi with hi | hi
          · exact hl u List.mem_cons_self _ i hi
          · exact ihl (fun x hx => hl x (List.mem_cons_of_mem _ hx)) _ _ i hi
    rw [Ex.code_eq] at hi
    rcases List.mem_cons.1 hi with hi | hi
    · rw [hi]; exact z
    · rcases List.mem_append.1 hi with hi | hi
      · refine key v.l (fun u hu q j hj => ?_) _ _ i hi
        obtain ⟨k, hk, rfl⟩ := List.getElem_of_mem hu
        obtain ⟨b, off, _, hat⟩ := hI.fo k hk
        obtain ⟨_, a2, c2, _, h2⟩ := (Ex.at_iff _ _ _ _).1 hat
        exact ih _ hu a2 h2 q j hj
      · unfold Ex.postC at hi
        repeat' split at hi
        all_goals simp at hi
        all_goals (rw [hi]; first | exact z | exact hI.fit.2.2)
theorem funs_fit {w : World} {l : List Ex.V} {ao : Option Addr} (h : Ex.Fo w l ao) : ∀ v ∈ l, ∀ i ∈ Ex.funC v, In64 i.n := by
  intro v hv i hi
  obtain ⟨k, hk, rfl⟩ := List.getElem_of_mem hv
  obtain ⟨b, off, _, hat⟩ := h k hk
  obtain ⟨_, a2, c2, _, h2⟩ := (Ex.at_iff _ _ _ _).1 hat
  unfold Ex.funC at hi
  rcases List.mem_append.1 hi with hi | hi
  · exact code_fit _ a2 h2 0 i hi
  · simp at hi; rw [hi]; exact ⟨by decide, by decide⟩
theorem Tryz.cellsSx : Tryz.prog.cellsOf 39 = 9 := by kernel_rfl
section
variable {H : Type} {enc : TypeId × Value → H} {w : World}
theorem openModL {fuel : Nat} {cs : List Value} {x : DataW H × List MemPlace} (h : DataW.trod enc Tryz.prog w 0 (fun _ => true) true fuel 37 cs = some x) (hz : w.noneFrozen x.2) : ∃ (l : List Ex.V) (ao : Option Addr) (cap : Nat), cs = [.slice ao l.length cap] ∧ Ex.Fo (Ex.thw w) l ao := by
  obtain ⟨xs, n, hn, rfl, hl, hxl, hfl⟩ := DataW.trod_struct Tryz.underlying37 h
  have f0 : DataW.trod enc Tryz.prog w 0 (fun _ => true) true n 35 ((cs.drop 0).take (Tryz.prog.cellsOf 35)) = xs[0]? := hfl 0 _ rfl
  have hx1 : xs.length = 1 := hxl
  rw [Ex.Tryz.cellsLz, List.getElem?_eq_getElem (by omega)] at f0
  have hz0 : w.noneFrozen xs[0].2 := fun b off hp => hz b off (List.mem_flatMap.2 ⟨xs[0], List.getElem_mem _, hp⟩)
  obtain ⟨l, ao, cap, e, hF⟩ := Ex.openLz f0 hz0
  have e0 := Ex.take_onez _ _ _ e
  rw [Ex.Tryz.cellsMz] at hl
  refine ⟨l, ao, cap, ?_, hF⟩
  match cs, hl, e0 with
  | [a], _, e0 =>
    simp only [List.getElem?_cons_zero, Option.some.injEq] at e0
    rw [e0]
set_option maxRecDepth 8000 in
theorem openSx {fuel : Nat} {cs : List Value} {x : DataW H × List MemPlace} (h : DataW.trod enc Tryz.prog w 0 (fun _ => true) true fuel 39 cs = some x) (hz : w.noneFrozen x.2) : ∃ s : Sx, cs = s.vals.toList ∧ SxIs w s := by
  obtain ⟨xs, n, _, rfl, hl, hxl, hf⟩ := DataW.trod_struct Tryz.underlying39 h
  rw [Tryz.cellsSx] at hl
  have hx9 : xs.length = 9 := hxl
  have one : ∀ (i : Nat) (f : Field), i < 7 → f.type = 3 → f.offset = i → DataW.trod enc Tryz.prog w 0 (fun _ => true) true n f.type ((cs.drop f.offset).take (Tryz.prog.cellsOf f.type)) = xs[i]? → ∃ z, cs[i]? = some (.int .i64 z) ∧ In64 z := by
    intro i f hi h1 h2 h3
    rw [List.getElem?_eq_getElem (by omega), h1, h2, Ex.Tryz.cellsIz] at h3
    obtain ⟨z, hz, _, hw⟩ := DataW.trod_int Tryz.underlying3 h3
    exact ⟨z, Ex.take_onez _ _ _ hz, Ex.in_wfz hw⟩
  obtain ⟨z0, e0, i0⟩ := one 0 _ (by decide) rfl rfl (hf 0 _ rfl)
  obtain ⟨z1, e1, i1⟩ := one 1 _ (by decide) rfl rfl (hf 1 _ rfl)
  obtain ⟨z2, e2, i2⟩ := one 2 _ (by decide) rfl rfl (hf 2 _ rfl)
  obtain ⟨z3, e3, i3⟩ := one 3 _ (by decide) rfl rfl (hf 3 _ rfl)
  obtain ⟨z4, e4, i4⟩ := one 4 _ (by decide) rfl rfl (hf 4 _ rfl)
  obtain ⟨z5, e5, i5⟩ := one 5 _ (by decide) rfl rfl (hf 5 _ rfl)
  obtain ⟨z6, e6, i6⟩ := one 6 _ (by decide) rfl rfl (hf 6 _ rfl)
  have f7 : DataW.trod enc Tryz.prog w 0 (fun _ => true) true n 2 ((cs.drop 7).take (Tryz.prog.cellsOf 2)) = xs[7]? := hf 7 _ rfl
  have f8 : DataW.trod enc Tryz.prog w 0 (fun _ => true) true n 37 ((cs.drop 8).take (Tryz.prog.cellsOf 37)) = xs[8]? := hf 8 _ rfl
  rw [Ex.Tryz.cellsNz, List.getElem?_eq_getElem (by omega)] at f7
  rw [Ex.Tryz.cellsMz, List.getElem?_eq_getElem (by omega)] at f8
  obtain ⟨z7, hz7, _, hw7⟩ := DataW.trod_int Tryz.underlying2 f7
  have e7 := Ex.take_onez _ _ _ hz7
  obtain ⟨l, ao, cap, hl8, hF⟩ := openModL f8 (fun b off hp => hz b off (List.mem_flatMap.2 ⟨xs[8], List.getElem_mem _, hp⟩))
  have e8 := Ex.take_onez _ _ _ hl8
  refine ⟨⟨z0, z1, z2, z3, z4, z5, z6, z7, l, ao, cap⟩, ?_, ⟨i0, i1, i2, i3, i4, i5, i6, Ex.in_wfz hw7, funs_fit hF.unthaw⟩, hF⟩
  match cs, hl with
  | [a0, a1, a2, a3, a4, a5, a6, a7, a8], _ =>
    simp only [List.getElem?_cons_zero, List.getElem?_cons_succ, Option.some.injEq] at e0 e1 e2 e3 e4 e5 e6 e7 e8
    simp [Sx.vals, e0, e1, e2, e3, e4, e5, e6, e7, e8]
theorem openStepz {x : Value} {d : DataW H} {ps : List MemPlace} (hx : ∃ xs, x = .agg xs) (h : DataW.Trod enc Tryz.prog w 0 (fun _ => true) true 39 x d ps) (hz : w.noneFrozen ps) : ∃ s : Sx, x = .agg s.vals ∧ SxIs w s := by
  obtain ⟨fuel, hf⟩ := h
  obtain ⟨s, hs, hi⟩ := openSx hf hz
  obtain ⟨ys, rfl⟩ := hx
  refine ⟨s, ?_, hi⟩
  simp only [Value.cells] at hs
  rw [Array.toList_inj.1 hs]
theorem openStepsz {ao : Option Addr} {len cap : Nat} {d : DataW H} {ps : List MemPlace} (h : DataW.Trod enc Tryz.prog w 0 (fun _ => true) true 22 (.slice ao len cap) d ps) (hz : w.noneFrozen ps) : ∃ ss : List Sx, ss.length = len ∧ StepsAt w ss ao := by
  obtain ⟨fuel, hf⟩ := h
  rcases Deep.open_slice Tryz.underlying22 hf with ⟨h0, _⟩ | ⟨a, len', cap', m, n, D, Pl, h0, hb, hl, hm, hmm, hxx, hx⟩
  · simp only [Value.cells, List.cons.injEq, Value.slice.injEq, and_true] at h0
    obtain ⟨rfl, rfl, rfl⟩ := h0
    exact ⟨[], rfl, fun k hk => absurd hk (by simp)⟩
  · simp only [Value.cells, List.cons.injEq, Value.slice.injEq, and_true] at h0
    obtain ⟨rfl, rfl, rfl⟩ := h0
    rw [if_pos rfl] at hmm
    subst hmm
    rw [Tryz.cellsSx] at hx hxx
    have sub : ∀ i, i < m → w.noneFrozen (Pl i) := fun i hi b off hp => hz b off (by
      have := congrArg Prod.snd hxx
      simp only at this
      rw [this]
      exact List.mem_append_right _ (List.mem_flatMap.2 ⟨i, List.mem_range.2 hi, hp⟩))
    have key : ∀ k, k < len → ∃ s : Sx, ∃ b off, a = ⟨b, off, none⟩ ∧ (∀ j, j < 9 → w.cell? ⟨b, off + k * 9 + j, none⟩ = s.vals[j]?) ∧ SxIs w s := by
      intro k hk
      obtain ⟨cs', hc, ht⟩ := hx k (by omega)
      obtain ⟨s, hs, hi⟩ := openSx ht (sub k (by omega))
      obtain ⟨_, _, hcell⟩ := World.cells?_some hc
      obtain ⟨b, off, spot⟩ := a
      have hspot : spot = none := by
        obtain ⟨cs0, hc0, ht0⟩ := hx 0 (by omega)
        obtain ⟨s0, hs0, _⟩ := openSx ht0 (sub 0 (by omega))
        obtain ⟨_, _, hcell0⟩ := World.cells?_some hc0
        have h1 := hcell0 0 (by decide)
        rw [hs0] at h1
        simp only [Sx.vals] at h1
        simpa [Addr.add] using World.cell?_spot h1
      subst hspot
      refine ⟨s, b, off, rfl, fun j hj => ?_, hi⟩
      have h1 := hcell j (by omega)
      rw [Deep.add_add, hs] at h1
      simpa [Addr.add_lit, Nat.add_assoc] using h1
    haveI : Inhabited Sx := ⟨⟨0, 0, 0, 0, 0, 0, 0, 0, [], none, 0⟩⟩
    obtain ⟨f, hF⟩ := Deep.choose_lt key
    refine ⟨(List.range len).map f, by simp, fun k hk => ?_⟩
    obtain ⟨b, off, rfl, rest⟩ := hF k (by simpa using hk)
    refine ⟨b, off, rfl, ?_⟩
    simpa using rest
end
end Go.Proofs.YtgojcohcimmfjaaGreat
namespace Go.Proofs.YtgojcohcimmfjaaGreat
open Gr (Nd Res nd0 thereB openB deriveOf addOf gateOf cutOf cellB cellOf funcB funcOf rightsN wayOf gatesOf gatesW targetOf Wf NdOk passB meetW)
theorem run_log (ms : Mods) {s : Sg} (hs : Inv s) (p f : Int) (arg : V) : (runR ms p f arg 2000 s).2.2.es.length ≤ s.es.length + 2000 := by
  unfold runR
  by_cases h1 : (2000 : Int) < 0 ∨ (2000 : Int) < 2000 ∨ p < 0 ∨ 4 ≤ p
  · rw [if_pos h1]; exact Nat.le_add_right _ _
  rw [if_neg h1]
  by_cases h2 : (funOf ms p f).isNone = true
  · rw [if_pos h2]; exact Nat.le_add_right _ _
  rw [if_neg h2]
  by_cases h3 : arg.check ≠ 0
  · rw [if_pos h3]; exact Nat.le_add_right _ _
  rw [if_neg h3]
  have h3' : arg.check = 0 := Decidable.not_not.1 h3
  have k := (call_ok (ev_ok ms 2000) ms 0 p f arg (2000 : Int).toNat s h3' hs).log
  have e : (2000 : Int).toNat = 2000 := rfl
  simp only [e] at k ⊢
  omega
/-- A step adds no more than that. -/
def Adds (h h' : Hs) : Prop := h'.s.es.length ≤ h.s.es.length + 2000 ∧ ∀ p, (h'.hs.getD p []).length ≤ (h.hs.getD p []).length + 1
theorem Adds.refl (h : Hs) : Adds h h := ⟨Nat.le_add_right _ _, fun _ => Nat.le_add_right _ _⟩
theorem step_adds {h : Hs} (hi : HOk h) (x : Sp) : Adds h (stepH h x).2 := by
  have hg : ∀ (p : Int) (r : Res), Adds h (giveH h p r).2 := fun p r => by
    unfold giveH
    split
    · refine ⟨Nat.le_add_right _ _, fun q => ?_⟩
      simp only
      rw [List.getD_eq_getElem?_getD, List.getElem?_set]
      by_cases e : p.toNat = q
      · rw [if_pos e]
        by_cases e2 : p.toNat < h.hs.length
        · rw [if_pos e2]; simp [e]
        · rw [if_neg e2]; simp
      · rw [if_neg e, ← List.getD_eq_getElem?_getD]; exact Nat.le_add_right _ _
    · exact Adds.refl h
  have hr : ∀ (p k : Int) (v : V), Adds h (runH h p k v).2 := fun p k v => ⟨run_log h.ms hi.inv p k v, fun _ => Nat.le_add_right _ _⟩
  unfold stepH
  repeat' split
  all_goals first
    | exact hg _ _
    | exact Adds.refl h
    | (unfold loadH; repeat' split
       all_goals exact ⟨Nat.le_add_right _ _, fun _ => Nat.le_add_right _ _⟩)
    | (unfold callH; repeat' split
       all_goals first
         | exact hr _ _ _
         | exact Adds.refl h)
    | exact ⟨Nat.le_add_right _ _, fun _ => Nat.le_add_right _ _⟩
end Go.Proofs.YtgojcohcimmfjaaGreat
namespace Go.Proofs.YtgojcohcimmfjaaGreat
open Go.ChangeShapes Go.WideShapes Go.ChangeAt Go.RowKit
theorem parts_cases {k : Int} {p : Nat} (h : partsB k = some p) : (k = 2 ∧ p = 2) ∨ (k = 3 ∧ p = 1) ∨ (k = 0 ∧ p = 0) ∨ (k = 1 ∧ p = 0) ∨ (k = 4 ∧ p = 0) ∨ (k = 5 ∧ p = 0) := by
  unfold partsB at h
  by_cases h2 : k = 2
  · rw [if_pos h2] at h; simp at h; omega
  · rw [if_neg h2] at h
    by_cases h3 : k = 3
    · rw [if_pos h3] at h; simp at h; omega
    · rw [if_neg h3] at h
      by_cases h4 : k = 0 ∨ k = 1 ∨ k = 4 ∨ k = 5
      · rw [if_pos h4] at h; simp at h; omega
      · rw [if_neg h4] at h; simp at h
theorem parts_none {k : Int} (h : partsB k = none) : k ≠ 2 ∧ k ≠ 3 ∧ k ≠ 0 ∧ k ≠ 1 ∧ k ≠ 4 ∧ k ≠ 5 := by
  unfold partsB at h
  refine ⟨?_, ?_, ?_, ?_, ?_, ?_⟩ <;> rintro rfl <;> simp at h
theorem partsOf_some {k : Int} {p : Nat} (h : partsB k = some p) (w : World) : Calls Tryz.prog 114 #[.int .i64 k] w fun e w' => e = .returned (.tuple #[.int .i64 p, .bool true]) ∧ w' = w := by
  rcases parts_cases h with ⟨rfl, rfl⟩ | ⟨rfl, rfl⟩ | ⟨rfl, rfl⟩ | ⟨rfl, rfl⟩ | ⟨rfl, rfl⟩ | ⟨rfl, rfl⟩ <;> clear h
  all_goals
    go_enter Tryz.func114, Tryz.ntmps114
    go_wp2
    go_ret2
    exact ⟨rfl, rfl⟩
theorem partsOf_none {k : Int} (h : partsB k = none) (w : World) : Calls Tryz.prog 114 #[.int .i64 k] w fun e w' => e = .returned (.tuple #[.int .i64 0, .bool false]) ∧ w' = w := by
  obtain ⟨h2, h3, h0, h1, h4, h5⟩ := parts_none h
  clear h
  go_enter Tryz.func114, Tryz.ntmps114
  go_wp2
  go_ret2
  exact ⟨rfl, rfl⟩
theorem fault_any (v : V) (ao : Option Addr) (cap : Nat) (w : World) : Calls Tryz.prog 102 #[.agg #[.int .i64 v.kind, .int .i64 v.n, .slice ao v.l.length cap]] w fun e w' => e = .returned (.int .i64 v.fault1) ∧ Quiet w w' := by
  obtain ⟨k, n, l⟩ := v
  cases hp : partsB k with
  | none =>
    have hE := hid (show (V.mk k n l).fault1 = 2 by simp [V.fault1, hp])
    go_enter Tryz.func102, Tryz.ntmps102
    go_wp2_with (go_at_call 114; refine (partsOf_none hp _).mono ?_; rintro e w' ⟨rfl, rfl⟩)
    go_ret
    exact ⟨by rw [hE.out]; rfl, Kp.alloc _ _⟩
  | some p =>
    by_cases hl : l.length = p
    · have hE := hid (show (V.mk k n l).fault1 = if (k = 0 ∨ k = 2) ∧ n ≠ 0 then 5 else if (k = 3 ∨ k = 4 ∨ k = 5) ∧ n < 0 then 1 else 0 by simp [V.fault1, hp, hl])
      generalize l.length = ll at *
      subst hl
      rcases parts_cases hp with ⟨rfl, rfl⟩ | ⟨rfl, rfl⟩ | ⟨rfl, rfl⟩ | ⟨rfl, rfl⟩ | ⟨rfl, rfl⟩ | ⟨rfl, rfl⟩
      all_goals
        go_enter Tryz.func102, Tryz.ntmps102
        go_wp2_with (go_at_call 114; refine (partsOf_some hp _).mono ?_; rintro e w' ⟨rfl, rfl⟩)
        all_goals go_ret
        all_goals exact ⟨by rw [hE.out]; first | rfl | (simp [*]; done) | simp_all, Kp.alloc _ _⟩
    · have hE := hid (show (V.mk k n l).fault1 = 5 by simp [V.fault1, hp, hl])
      have hl' : (l.length : Int) ≠ (p : Int) := by omega
      go_enter Tryz.func102, Tryz.ntmps102
      go_wp2_with (go_at_call 114; refine (partsOf_some hp _).mono ?_; rintro e w' ⟨rfl, rfl⟩)
      go_ret
      exact ⟨by rw [hE.out]; rfl, Kp.alloc _ _⟩
end Go.Proofs.YtgojcohcimmfjaaGreat
namespace Go.Proofs.YtgojcohcimmfjaaGreat
open Go.ChangeShapes Go.WideShapes Go.ChangeAt Go.RowKit
/-- Two rows of things of two types lie in two blocks. -/
theorem rows_apart {w : World} {B1 B2 : Nat} {t1 t2 : TypeId} {s1 s2 n1 n2 : Nat} {v1 v2 : Value} {xs1 xs2 : List Value} (h1 : w.ownsRow B1 t1 s1 v1 n1 xs1) (h2 : w.ownsRow B2 t2 s2 v2 n2 xs2) (ht : t1 ≠ t2) (k : Nat) (e1 : v1.ownBlock = some k) : v2.ownBlock ≠ some k := by
  intro e2
  rcases h1.2 with ⟨rfl, _⟩ | ⟨g1, c1, cur1, rfl, _, hh1, _⟩
  · simp [Value.ownBlock] at e1
  · rcases h2.2 with ⟨rfl, _⟩ | ⟨g2, c2, cur2, rfl, _, hh2, _⟩
    · simp [Value.ownBlock] at e2
    · simp [Value.ownBlock] at e1 e2
      subst e1; subst e2
      rw [hh1] at hh2
      simp at hh2
      exact ht hh2.2
/-- A block of another type is not the row's. -/
theorem row_other {w : World} {B : Nat} {t t' : TypeId} {s n : Nat} {v : Value} {xs : List Value} {k : Nat} {c : Array Value} (h : w.ownsRow B t s v n xs) (hk : w.heap[k]? = some (.cells c t' (0, 0))) (ht : t ≠ t') : v.ownBlock ≠ some k := by
  intro e
  rcases h.2 with ⟨rfl, _⟩ | ⟨g, cp, cur, rfl, _, hh, _⟩
  · simp [Value.ownBlock] at e
  · simp [Value.ownBlock] at e
    subst e
    rw [hh] at hk
    simp at hk
    exact ht hk.2
/-- The state of the search. -/
structure VS (W : World) (sv : Value) (ts : List Kd) (w : World) : Prop where
  row : w.ownsRow W.heap.size 31 3 sv ts.length (tris ts)
  lie : ∀ p ∈ ts, Is W p.1 p.2.1
  low : Below W.heap.size W w
theorem VS.quiet {W w w' : World} {sv : Value} {ts : List Kd} (H : VS W sv ts w) (q : Quiet w w') : VS W sv ts w' :=
  ⟨q.row H.row fun _ _ e => e, H.lie, low_of H.low q H.low.size⟩
/-- Other blocks turn. -/
theorem VS.step {W w w' : World} {sv : Value} {ts : List Kd} {F : Nat → Prop} (H : VS W sv ts w) (q : Kp F w w') (hF : ∀ k, F k → W.heap.size ≤ k) (hr : ∀ k, sv.ownBlock = some k → ¬ F k) : VS W sv ts w' :=
  ⟨q.row H.row hr, H.lie, H.low.trans (q.below H.low.size hF)⟩
theorem VS.push {W w w1 : World} {sv : Value} {ts : List Kd} {x : Kd} {n g cap : Nat} {o : Obj} (H : VS W sv ts w) (hx : Is W x.1 x.2.1) (hn : n = ts.length)
    (hr1 : w1.ownsRow W.heap.size 31 3 (.slice (some ⟨g, 0, none⟩) (n + 1) cap) (n + 1) (tris ts ++ tri x)) (hg : (w.alloc o).grownBy w1 sv.ownBlock) : VS W (.slice (some ⟨g, 0, none⟩) (n + 1) cap) (ts ++ [x]) w1 := by
  subst hn
  refine ⟨by rw [tris_app, tris_one]; simpa using hr1, fun p hp => ?_, ?_⟩
  · rcases List.mem_append.1 hp with hp | hp
    · exact H.lie p hp
    · simp at hp; subst hp; exact hx
  · refine H.low.trans (((Below.refl _ _).alloc H.low.size o).trans ?_)
    exact (Kp.grown (F := fun k => W.heap.size ≤ k) hg fun k _ e => (H.row.lt k e.symm).1).below (by simp; have := H.low.size; omega) fun k hk => hk
theorem vs_start {W w : World} {v : V} {ao : Option Addr} {cap : Nat} {o : Obj} (hI : Is W v ao) (hB : Below W.heap.size W w) : VS W (.slice (some ⟨w.heap.size + 1, 0, none⟩) 1 1) [(v, ao, cap)] ((w.alloc o).alloc (.cells #[.int .i64 v.kind, .int .i64 v.n, .slice ao v.l.length cap] 31)) := by
  have q : Quiet w ((w.alloc o).alloc (.cells #[.int .i64 v.kind, .int .i64 v.n, .slice ao v.l.length cap] 31)) := (Kp.alloc _ _).trans (Kp.alloc _ _)
  have hs := hB.size
  refine ⟨⟨by simp [tris_len], .inr ⟨w.heap.size + 1, 1, _, rfl, by omega, heap_two w _ _, Nat.le_refl _, by decide, by simp, by simp [tris_one, tri]⟩⟩, fun p hp => ?_, low_of hB q hB.size⟩
  simp at hp; subst hp; exact hI
theorem tri_cells {w : World} {g m : Nat} {v : V} {ao : Option Addr} {cap : Nat} (h : ∀ j, j < 3 → w.cell? ⟨g, m + j, none⟩ = (tri (v, ao, cap))[j]?) :
    w.cell? ⟨g, m, none⟩ = some (.int .i64 v.kind) ∧ w.cell? ⟨g, m + 1, none⟩ = some (.int .i64 v.n) ∧ w.cell? ⟨g, m + 2, none⟩ = some (.slice ao v.l.length cap) :=
  ⟨h 0 (by decide), h 1 (by decide), h 2 (by decide)⟩
theorem rev_take {α : Type} (l : List α) (j : Nat) (h : j < l.length) : l.reverse.take (j + 1) = l.reverse.take j ++ [l[l.length - 1 - j]] := by
  rw [take_snoc l.reverse j (by simpa using h)]; simp
def vsz (ts : List Kd) : Nat := (ts.map fun p => p.1.size).sum
theorem vsz_app (a b : List Kd) : vsz (a ++ b) = vsz a + vsz b := by simp [vsz]
theorem vsz_one (p : Kd) : vsz [p] = p.1.size := by simp [vsz]
theorem vsz_len (ts : List Kd) : ts.length ≤ vsz ts := by
  induction ts with
  | nil => simp [vsz]
  | cons x ts ih => have := size_pos x.1; simp [vsz] at ih ⊢; omega
theorem vsz_map (ts : List Kd) : vsz ts = sizes (ts.map (·.1)) := by
  induction ts with
  | nil => simp [vsz, sizes_nil]
  | cons x ts ih => rw [List.map_cons, sizes_cons, ← ih]; simp [vsz]
theorem sizes_rev (l : List V) : sizes l.reverse = sizes l := by
  induction l with
  | nil => rfl
  | cons x l ih => rw [List.reverse_cons, sizes_append, ih, sizes_cons, sizes_cons, sizes_nil]; omega
/-- What is still to be looked at, in its order. -/
def pend (ts : List Kd) : List V := pres (ts.map (·.1)).reverse
theorem pend_nil : pend [] = [] := by simp [pend, pres_nil]
theorem pend_one (p : Kd) : pend [p] = p.1.pre := by simp [pend, pres_one]
theorem pend_pop (ts : List Kd) (p : Kd) : pend (ts ++ [p]) = p.1 :: (pres p.1.l ++ pend ts) := by
  simp only [pend, List.map_append, List.map_cons, List.map_nil, List.reverse_append, List.reverse_cons, List.reverse_nil, List.nil_append, List.singleton_append, pres_cons]
  rw [pre_eq]; rfl
theorem pend_push (ts ks : List Kd) (u : V) (h : ks.map (·.1) = u.l.reverse) : pend (ts ++ ks) = pres u.l ++ pend ts := by
  simp only [pend, List.map_append, List.reverse_append, h, List.reverse_reverse, pres_append]
end Go.Proofs.YtgojcohcimmfjaaGreat
namespace Go.Proofs.YtgojcohcimmfjaaGreat
open Go.ChangeShapes Go.WideShapes Go.ChangeAt Go.RowKit
theorem gateQ_any (v : V) (ao : Option Addr) (cap : Nat) (w : World) : Calls Tryz.prog 168 #[.agg #[.int .i64 v.kind, .int .i64 v.n, .slice ao v.l.length cap]] w fun e w' => e = .returned (.bool (v.kind == 5)) ∧ Quiet w w' := by
  go_enter Tryz.func168, Tryz.ntmps168
  go_wp2
  go_ret
  exact ⟨by simp, Kp.alloc _ _⟩
set_option maxRecDepth 8000 in
set_option maxHeartbeats 4000000 in
theorem searchG_any (v : V) (ao : Option Addr) (cap : Nat) (W w : World) (hB : Below W.heap.size W w) (hI : Is W v ao) (hS : v.size ≤ 500) :
    Calls Tryz.prog 100 #[.agg #[.int .i64 v.kind, .int .i64 v.n, .slice ao v.l.length cap], .func (.func 60) #[] #[], .func (.func 168) #[] #[]] w fun e w' => e = .returned (.bool v.gate) ∧ Below W.heap.size W w' := by
  obtain ⟨i0, hi, hz0, hz1, hz2⟩ := info_parts Tryz.infoV
  have hst := hid (vs_start (o := .cells #[.int .i64 v.kind, .int .i64 v.n, .slice ao v.l.length cap] 31) (cap := cap) hI hB)
  clear hI hB
  go_enter Tryz.func100, Tryz.ntmps100
  go_wp2
  go_loopg [7] v.size (fun gk sv wr => ∃ (ts : List Kd), vsz ts = gk ∧ gk ≤ v.size ∧ VS W sv ts wr ∧ v.gate = gateIn (pend ts))
  case atStart => exact ⟨[(v, ao, cap)], vsz_one _, Nat.le_refl _, hst.out, by rw [pend_one]; rfl⟩
  case round =>
    rename World => wr
    clear hst
    obtain ⟨ts, hsz, hle, H, hinv⟩ := hrel
    rcases List.eq_nil_or_concat ts with rfl | ⟨ts, ⟨u, ua, uc⟩, rfl⟩
    · obtain ⟨av, cv, hsv⟩ := owns_shape H.row
      have HH := hid (And.intro H hinv)
      subst hsv
      clear hsz hle H hinv
      go_wp2
      go_ret
      refine ⟨?_, HH.out.1.low⟩
      rw [HH.out.2, pend_nil]; rfl
    · rw [List.concat_eq_append] at hsz H hinv
      have hr := H.row
      rw [tris_app, tris_one, List.length_append, List.length_cons, List.length_nil, Nat.zero_add] at hr
      obtain ⟨g, cp, hv⟩ := lies_shape hr (by omega)
      subst hv
      obtain ⟨hr', hc'⟩ := owns_pop hr rfl
      obtain ⟨t0, t1, t2⟩ := tri_cells hc'
      have huW := H.lie (u, ua, uc) (by simp)
      simp only at huW
      rw [vsz_app, vsz_one] at hsz
      simp only at hsz
      have htl := vsz_len ts
      have hus := size_eq u
      have hul := sizes_len u.l
      have hcp := owns_cap hr
      have hul5 : u.l.length ≤ 500 := by omega
      have htl5 : ts.length ≤ 500 := by omega
      have HX := hid (And.intro hsz (And.intro hus (And.intro hle hinv)))
      have HH := hid (show VS W (.slice (some ⟨g, 0, none⟩) ts.length cp) ts wr from ⟨hr', fun p hp => H.lie p (by simp [hp]), H.low⟩)
      have HU := hid huW
      rw [pend_pop] at hinv
      have HE := hid hinv
      clear hc' hr hsz hle H hr' huW hus hinv
      cases hk : (u.kind == 5) with
      | true =>
        have hE := hid (show v.gate = true by rw [HE.out]; simp [gateIn, hk])
        go_wp2_with (go_at_call 168; refine (gateQ_any u ua uc _).mono ?_; rintro e w2 ⟨rfl, q2⟩; rw [hk])
        go_ret
        exact ⟨by rw [hE.out]; rfl, (HH.out.quiet ((Kp.alloc _ _).trans q2)).low⟩
      | false =>
        have hE := hid (show v.gate = gateIn (pres u.l ++ pend ts) by rw [HE.out]; simp [gateIn, hk])
        go_wp2_with (first
          | (go_at_call 60; refine (inside_any u ua uc _).mono ?_; rintro e w3 ⟨rfl, q3⟩)
          | (go_at_call 168; refine (gateQ_any u ua uc _).mono ?_; rintro e w2 ⟨rfl, q2⟩; rw [hk]; have hbx : w2.heap[wr.heap.size]? = some (.cells #[.int .i64 u.kind, .int .i64 u.n, .slice ua u.l.length uc] 31 (0, 0)) := (q2.block _ (by simp) (fun e => e)).trans (heap_alloc_new wr _); obtain ⟨y0, y1, y2⟩ := box_cells hbx; clear hbx))
        have H3 := hid (And.intro (HH.out.quiet ((Kp.alloc _ _).trans (q2.trans q3))) trivial)
        clear y0 y1 y2 t0 t1 t2
        go_loopw [7, 35] (fun sv i w5 => ∃ (j : Nat) (ks : List Kd), j ≤ u.l.length ∧ i = .int .i64 j ∧ ks.map (·.1) = u.l.reverse.take j ∧ VS W sv (ts ++ ks) w5 ∧ True) (fun _ i _ => u.l.length - (intOf i).toNat)
        case atStart => exact ⟨0, [], Nat.zero_le _, rfl, by simp, by rw [List.append_nil]; exact H3.out.1, H3.out.2⟩
        case round =>
          rename World => wq
          clear H3 HH
          obtain ⟨j, ks, hj, rfl, hks, H, hst⟩ := hrel
          have hl3 : ks.length = j := by have := congrArg List.length hks; rw [List.length_map, List.length_take, List.length_reverse] at this; omega
          obtain ⟨nk, hnk⟩ : ∃ nk, nk = (ts ++ ks).length := ⟨_, rfl⟩
          have hnk5 : nk ≤ 1000 := by rw [hnk, List.length_append, hl3]; omega
          have hrk := H.row
          rw [← hnk] at hrk
          obtain ⟨av, cv, hsv⟩ := owns_shape hrk
          have HNK := hid hnk
          clear hnk hl3
          by_cases hlt : j < u.l.length
          · have hidx : (u.l.length : Int) - 1 - (j : Int) = ((u.l.length - 1 - j : Nat) : Int) := by omega
            have hq : u.l.length - 1 - j < u.l.length := by omega
            obtain ⟨xb, xo, hxa, xh, xa, xc, xs, hxi⟩ := HU.out.fo.get (u.l.length - 1 - j) hq
            obtain ⟨x0, x1⟩ := head_kept (low_kept H.low) xh
            have xsk := low_kept H.low _ _ xs
            have HN := hid (show u.l.reverse.take (j + 1) = u.l.reverse.take j ++ [u.l[u.l.length - 1 - j]] from rev_take u.l j hlt)
            generalize hcu : u.l[u.l.length - 1 - j] = x at *
            have HXX := hid (And.intro hxi hks)
            have HH := hid (And.intro H hst)
            have HRK := hid hrk
            have hsz := H.low.size
            subst hsv
            subst hxa
            clear hcu xh xs hxi hks H hst hrk hq
            go_wp2_with (at_builtin; refine wpList_append_lies _ rfl (.tmp 38) (.tmp 47) 29 rfl W.heap.size 31 i0 _ 3 40 Tryz.undV hi hz0 hz1 hz2 rfl (by decide) _ nk (tris (ts ++ ks)) rfl (HRK.out.alloc _) ⟨wq.heap.size, 0, none⟩ 1 1 (tri (x, xa, xc)) rfl rfl (news_at wq _ 31) (tri_one _) (by decide) (by unfold maxLen; omega) (by omega) (by simp; omega) _ rfl ?_; intro g2 cap2 w1 hr1 hg1 hat hlt1; have hD := hid (HH.out.1.push (x := (x, xa, xc)) HXX.out.1 HNK.out hr1 hg1); have hI := hid (trivial); clear hr1 hg1 hat hlt1)
            exact ⟨⟨j + 1, ks ++ [(x, xa, xc)], by omega, by go_num, by rw [List.map_append, HXX.out.2, HN.out]; rfl, by rw [← List.append_assoc]; exact hD.out, hI.out⟩, by simp [intOf]; omega⟩
          · have hjl : j = u.l.length := by omega
            subst hjl
            have hpr : u.l.reverse.take u.l.length = u.l.reverse := List.take_of_length_le (by simp)
            rw [hpr] at hks
            have HH := hid (And.intro H (And.intro hst hks))
            subst hsv
            clear H hrk hks hst
            go_wp2
            go_roundg (vsz (ts ++ ks))
            case measure =>
              have h3 := HX.out; have h4 := vsz_map ks
              rw [HH.out.2.2, sizes_rev] at h4
              rw [vsz_app]; omega
            case rel =>
              refine ⟨ts ++ ks, rfl, ?_, HH.out.1, by rw [pend_push ts ks u HH.out.2.2, ← hE.out]⟩
              have h3 := HX.out; have h4 := vsz_map ks
              rw [HH.out.2.2, sizes_rev] at h4
              rw [vsz_app]; omega
end Go.Proofs.YtgojcohcimmfjaaGreat
