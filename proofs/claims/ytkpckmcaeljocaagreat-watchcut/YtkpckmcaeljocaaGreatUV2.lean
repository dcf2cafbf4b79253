/- Parts. -/
import Derived.Test.YtkpckmcaeljocaaGreatUB0
import Derived.Test.YtkpckmcaeljocaaGreatUE5
namespace Go.Proofs.YtkpckmcaeljocaaGreat
open Go.ChangeShapes Go.WideShapes Go.ChangeAt Go.RowKit
open Gr (Nd Res nd0 thereB openB deriveOf addOf gateOf cutOf cellB cellOf funcB funcOf rightsN wayOf gatesOf gatesW targetOf Wf NdOk GS IntsAt)
structure Hx where
  B : Nat
  hb : Nat
  bb : Nat
  g : Nat
  wd : Nat
structure Hq where
  n : Value
  o : Value
  l : Value
  r : Nat → Option Addr × Nat
def handV (q : Hq) (h : Hs) (p : Nat) : Value := .slice (q.r p).1 (h.hs.getD p []).length (q.r p).2
def hd (l : List V) : List Kd := l.map fun v => (v, none, 0)
def OwnX (M : Hx) (q : Hq) (k : Nat) : Prop := k = M.hb ∨ ∃ p, p < 4 ∧ (Value.slice (q.r p).1 0 0).ownBlock = some k
def OwnH (M : Hx) (q : Hq) (k : Nat) : Prop := OwnB M.bb M.g M.wd q.n q.o q.l k ∨ OwnX M q k
theorem own_len (a : Option Addr) (n c n' c' : Nat) : (Value.slice a n c).ownBlock = (Value.slice a n' c').ownBlock := by cases a <;> rfl
structure HouseS (X : Nat → Prop) (M : Hx) (q : Hq) (h : Hs) (w : World) : Prop where
  box : BoxX (fun k => OwnX M q k ∨ X k) M.B w M.bb M.g M.wd q.n q.o q.l h.ms h.s
  obj : w.heap[M.hb]? = some (.cells #[.pointer (some ⟨M.bb, 0, none⟩), handV q h 0, handV q h 1, handV q h 2, handV q h 3] 59 (0, 0))
  row : ∀ p, p < 4 → w.ownsRow M.B 38 3 (handV q h p) (h.hs.getD p []).length (tris (hd (h.hs.getD p [])))
  ap : ∀ p p', p < 4 → p' < 4 → p ≠ p' → ∀ k, (Value.slice (q.r p).1 0 0).ownBlock = some k → (Value.slice (q.r p').1 0 0).ownBlock ≠ some k
  leaf : ∀ p, p < 4 → ∀ v ∈ h.hs.getD p [], v.l = [] ∧ v.fits
  ok : HOk h
  fit : FitsM h.ms
  ci : ∀ c ∈ h.s.cs, In64 c
  lo : M.B ≤ M.hb
  xo : ∀ k, X k → k < w.heap.size ∧ ¬ OwnH M q k
structure GoesH (M : Hx) (q : Hq) (w : World) (q' : Hq) (w' : World) : Prop where
  kp : Kp (OwnH M q) w w'
  own : ∀ k, OwnH M q' k → OwnH M q k ∨ w.heap.size ≤ k
section
variable {M : Hx} {q q' q2 : Hq} {h h' : Hs} {w w' w2 : World} {X X' : Nat → Prop}
theorem GoesH.refl (M : Hx) (q : Hq) (w : World) : GoesH M q w q w := ⟨Kp.refl _ _, fun _ e => .inl e⟩
theorem GoesH.quiet (M : Hx) (q : Hq) (k : Quiet w w') : GoesH M q w q w' := ⟨k.mono fun _ _ e => e.elim, fun _ e => .inl e⟩
theorem GoesH.trans (a : GoesH M q w q' w') (b : GoesH M q' w' q2 w2) : GoesH M q w q2 w2 := by
  refine ⟨⟨b.kp.os.trans a.kp.os, b.kp.tape.trans a.kp.tape, b.kp.output.trans a.kp.output, Nat.le_trans a.kp.size b.kp.size, fun i hi hF => ?_⟩, fun i hi => ?_⟩
  · refine (b.kp.block i (Nat.lt_of_lt_of_le hi a.kp.size) fun e => ?_).trans (a.kp.block i hi hF)
    rcases a.own i e with e | e
    · exact hF e
    · omega
  · rcases b.own i hi with e | e
    · exact a.own i e
    · exact .inr (Nat.le_trans a.kp.size e)
theorem GoesH.fresh (a : GoesH M q w q' w') (k : Kp (fun i => w.heap.size ≤ i) w' w2) : GoesH M q w q' w2 := ⟨a.kp.fresh k, a.own⟩
theorem GoesH.after (k : Quiet w w2) (a : GoesH M q w2 q' w') : GoesH M q w q' w' := (GoesH.quiet M q k).trans a
theorem GoesH.safe {P : World → Prop} (a : GoesH M q w q' w') (hs : SafeF (fun k => OwnH M q k ∨ X k) P w) : SafeF (fun k => OwnH M q' k ∨ X k) P w' :=
  hs.step (a.kp.mono fun _ _ e => .inl e) fun k hk e => by
    rcases e with e | e
    · rcases a.own k e with e | e
      · exact .inl e
      · omega
    · exact .inr e
theorem GoesH.block (a : GoesH M q w q' w') {x : Nat} {o : Obj} (hx : w.heap[x]? = some o) (hn : ¬ OwnH M q x) : w'.heap[x]? = some o ∧ ¬ OwnH M q' x := by
  have hl : x < w.heap.size := (Array.getElem?_eq_some_iff.1 hx).1
  refine ⟨(a.kp.block x hl hn).trans hx, fun e => ?_⟩
  rcases a.own x e with e | e
  · exact hn e
  · omega
theorem HouseS.own (H : HouseS X M q h w) (k : Nat) (hk : OwnH M q k) : M.B ≤ k ∧ k < w.heap.size := by
  rcases hk with e | e | ⟨p, hp, e⟩
  · obtain ⟨a, b, c, d, hb⟩ := H.box.is
    exact hb.own k e
  · rw [e]; exact ⟨H.lo, lt_of_block H.obj⟩
  · exact (H.row p hp).lt k ((own_len _ _ _ _ _).trans e)
theorem HouseS.new (H : HouseS X M q h w) (k : Nat) (hk : w.heap.size ≤ k) : ¬ OwnH M q k := fun e => by have := (H.own k e).2; omega
theorem HouseS.old (H : HouseS X M q h w) (k : Nat) (hk : k < M.B) : ¬ OwnH M q k := fun e => by have := (H.own k e).1; omega
theorem HouseS.free (H : HouseS X M q h w) {k : Nat} {cs : Array Value} {t : TypeId} (hk : w.heap[k]? = some (.cells cs t (0, 0))) (h0 : t ≠ 67) (h1 : t ≠ 101) (h2 : t ≠ 72) (h3 : t ≠ 4) (h4 : t ≠ 96) (h5 : t ≠ 70) (h6 : t ≠ 59) (h7 : t ≠ 38) : ¬ OwnH M q k := by
  rintro (e | e | ⟨p, hp, e⟩)
  · obtain ⟨a, b, c, d, hb⟩ := H.box.is
    exact hb.free hk h0 h1 h2 h3 h4 h5 e
  · rw [e, H.obj] at hk; simp at hk; exact h6 hk.2.symm
  · obtain ⟨cs', hc⟩ := row_type (H.row p hp) ((own_len _ _ _ _ _).trans e)
    rw [hc] at hk; simp at hk; exact h7 hk.2.symm
theorem HouseS.step (H : HouseS X M q h w) (k : Quiet w w') (hX : ∀ i, i < w.heap.size → X' i → X i) (xo : ∀ i, X' i → i < w'.heap.size) : HouseS X' M q h w' :=
  ⟨H.box.step k fun i hi e => by
      rcases e with e | e
      · exact .inl e
      · exact .inr (hX i hi e), (k.block _ (lt_of_block H.obj) fun e => e).trans H.obj, fun p hp => k.row (H.row p hp) fun _ _ e => e, H.ap, H.leaf, H.ok, H.fit, H.ci, H.lo, fun i hi => ⟨xo i hi, fun e => by
      have hl := (H.own i e).2
      exact (H.xo i (hX i hl hi)).2 e⟩⟩
theorem HouseS.quiet (H : HouseS X M q h w) (k : Quiet w w') : HouseS X M q h w' := H.step k (fun _ _ e => e) fun i e => Nat.lt_of_lt_of_le (H.xo i e).1 k.size
theorem HouseS.turn {F : Nat → Prop} (H : HouseS X M q h w) (k : Kp F w w') (hX : ∀ i, F i → X i) (hI : ∀ (i : Nat) (cs : Array Value) (t : TypeId), w.heap[i]? = some (.cells cs t (0, 0)) → t = 165 ∨ t = 159 → ¬ F i) : HouseS X M q h w' := by
  have hn : ∀ i, OwnH M q i → ¬ F i := fun i hi e => (H.xo i (hX i e)).2 hi
  exact ⟨H.box.beside k (fun i e => .inr (hX i e)) (fun i hi => hn i (.inl hi)) hI, (k.block _ (lt_of_block H.obj) (hn _ (.inr (.inl rfl)))).trans H.obj, fun p hp => k.row (H.row p hp) fun i e => hn i (.inr (.inr ⟨p, hp, (own_len _ _ _ _ _).trans e⟩)), H.ap, H.leaf, H.ok, H.fit, H.ci, H.lo, fun i hi => ⟨Nat.lt_of_lt_of_le (H.xo i hi).1 k.size, (H.xo i hi).2⟩⟩
theorem HouseS.below {B : Nat} {w0 : World} (H : HouseS X M q h w) (hB : B ≤ M.B) (h0 : Below B w0 w) (g : GoesH M q w q' w') : Below B w0 w' :=
  h0.trans (g.kp.below (by have := lt_of_block H.obj; have := H.lo; omega) fun k hk => Nat.le_trans hB (H.own k hk).1)
theorem HouseS.cells (H : HouseS X M q h w) : w.cell? ⟨M.hb, 0, none⟩ = some (.pointer (some ⟨M.bb, 0, none⟩)) ∧ w.cell? ⟨M.bb, 0, none⟩ = some (.pointer (some ⟨M.g, 0, none⟩)) ∧ w.cell? ⟨M.bb, 1, none⟩ = some (.pointer (some ⟨M.wd, 0, none⟩)) := by
  obtain ⟨a, b, c, d, hb⟩ := H.box.is
  exact ⟨by simp [World.cell?, H.obj], by simp [World.cell?, hb.obj, boxC], by simp [World.cell?, hb.obj, boxC]⟩
theorem HouseS.gs (H : HouseS X M q h w) : GS 101 M.B w M.g q.n q.o h.s.ns h.s.os := by
  obtain ⟨a, b, c, d, hb⟩ := H.box.is
  exact hb.gs
theorem HouseS.ws (H : HouseS X M q h w) : Wo.WS M.B w M.wd h.s.cs q.l h.s.es := by
  obtain ⟨a, b, c, d, hb⟩ := H.box.is
  exact hb.ws
end
def handOf (h : Hs) (p : Int) : List V := if 0 ≤ p ∧ p < 4 then h.hs.getD p.toNat [] else []
def keptOf (h : Hs) (p : Int) : V := if 0 ≤ p ∧ p < 4 then h.s.ks.getD p.toNat v0 else v0
structure Sx where
  kind : Int
  p : Int
  q : Int
  k : Int
  h : Int
  r : Int
  g : Int
  n : Int
  fs : List Ex.V
  fa : Option Addr
  fc : Nat
def Sx.vals (x : Sx) : Array Value := #[.int .i64 x.kind, .int .i64 x.p, .int .i64 x.q, .int .i64 x.k, .int .i64 x.h, .int .i64 x.r, .int .i64 x.g, .int .i64 x.n, .slice x.fa x.fs.length x.fc]
def Sx.sp (x : Sx) (code : Int) : Sp := ⟨x.kind, x.p, x.q, x.k, x.h, x.r, x.g, x.n, code, x.fs⟩
structure Sx.Fit (x : Sx) : Prop where
  kind : In64 x.kind
  p : In64 x.p
  q : In64 x.q
  k : In64 x.k
  h : In64 x.h
  r : In64 x.r
  g : In64 x.g
  n : In64 x.n
  ins : ∀ v ∈ x.fs, ∀ i ∈ Ex.funC v, In64 i.n
def MakeAt (P : Int × Int → Prop) (x : Sx) (w : World) : Prop := (∀ f, P f → f.1 = 0 → ∀ v ∈ x.fs, v.bad x.fs.length 0 = 0) ∧ ∀ w1, Quiet w w1 → Calls Tryz.prog 71 #[.agg #[.slice x.fa x.fs.length x.fc]] w1 fun e w' => Ex.MakeQ P x.fs w1 e w'
def HDoQ (X : Nat → Prop) (M : Hx) (q : Hq) (r : Evt × Hs) (w : World) (e : Ending) (w' : World) : Prop :=
  ∃ q' ao cap, e = .returned (.agg #[.int .i64 r.1.code, .int .i64 r.1.fuel, .int .i64 r.1.v.kind, .int .i64 r.1.v.n, .slice ao r.1.v.l.length cap]) ∧ HouseS X M q' r.2 w' ∧ GoesH M q w q' w' ∧ SafeF (fun k => OwnH M q' k ∨ X k) (fun w => Is w r.1.v ao) w'
def FewH (h : Hs) : Prop := ∀ p, (h.hs.getD p []).length ≤ 100000
theorem few_of {h : Hs} (hl : ∀ x ∈ h.hs, x.length ≤ 100000) : FewH h := fun p => by
  rw [List.getD_eq_getElem?_getD]
  cases e : h.hs[p]? with
  | none => simp
  | some x => exact hl x (List.mem_of_getElem? e)
def HNewC : Prop := ∀ (X : Nat → Prop) (B : Nat) (w : World), (∀ k, X k → k < w.heap.size) → B ≤ w.heap.size → Calls Tryz.prog 24 #[] w fun e w' => ∃ M q, M.B = B ∧ e = .returned (.pointer (some ⟨M.hb, 0, none⟩)) ∧ HouseS X M q h00 w' ∧ (∀ k, OwnH M q k → w.heap.size ≤ k) ∧ Quiet w w'
def HDoC : Prop := ∀ (X : Nat → Prop) (M : Hx) (q : Hq) (h : Hs) (w : World) (x : Sx) (P : Int × Int → Prop), HouseS X M q h w → x.Fit → h.s.es.length ≤ 900000 → FewH h → MakeAt P x w →
    Calls Tryz.prog 25 #[.pointer (some ⟨M.hb, 0, none⟩), .agg x.vals] w fun e w' => ∃ c, (x.kind = 1 → plugB x.p = true → ∃ f, P f ∧ f.1 = c) ∧ HDoQ X M q (stepH h (x.sp c)) w e w'
def HHandC : Prop := ∀ (X : Nat → Prop) (M : Hx) (q : Hq) (h : Hs) (w : World) (p : Int), HouseS X M q h w → FewH h → In64 p →
    Calls Tryz.prog 20 #[.pointer (some ⟨M.hb, 0, none⟩), .int .i64 p] w fun e w' => ∃ ao cap, e = .returned (.slice ao (handOf h p).length cap) ∧ SafeF (fun k => OwnH M q k ∨ X k) (fun w => Fo w (handOf h p) ao) w' ∧ Quiet w w'
end Go.Proofs.YtkpckmcaeljocaaGreat
namespace Go.Proofs.YtkpckmcaeljocaaGreat
open Go.ChangeShapes Go.WideShapes Go.ChangeAt Go.RowKit
structure SxIs (w : World) (x : Sx) : Prop where
  fit : x.Fit
  fo : Ex.Fo (Ex.thw w) x.fs x.fa
def StepsAt (w : World) (xs : List Sx) (sa : Option Addr) : Prop := ∀ i (h : i < xs.length), ∃ b off, sa = some ⟨b, off, none⟩ ∧ (∀ j, j < 9 → w.cell? ⟨b, off + i * 9 + j, none⟩ = xs[i].vals[j]?) ∧ SxIs w xs[i]
theorem thw_low {w w' : World} (h : Below w.heap.size w w') : ∀ (a : Addr) (x : Value), (Ex.thw w).cell? a = some x → (Ex.thw w').cell? a = some x := by
  intro a x hx
  have hl : a.block < w.heap.size := by
    cases e : w.heap[a.block]? with
    | none => simp [World.cell?, Ex.thw, e] at hx
    | some o => exact (Array.getElem?_eq_some_iff.1 e).1
  have hb := Ex.thw_block (h.block a.block hl)
  unfold World.cell? at *
  rw [hb]; exact hx
theorem cell_in {w : World} {a : Addr} {x : Value} (h : w.cell? a = some x) : a.block < w.heap.size := by
  cases e : w.heap[a.block]? with
  | none => simp [World.cell?, e] at h
  | some o => exact (Array.getElem?_eq_some_iff.1 e).1
theorem SxIs.low {w w' : World} {x : Sx} (h : SxIs w x) (k : Below w.heap.size w w') : SxIs w' x := ⟨h.fit, h.fo.kept (thw_low k)⟩
theorem SxIs.quiet {w w' : World} {x : Sx} (h : SxIs w x) (k : Quiet w w') : SxIs w' x := h.low k.low
theorem StepsAt.low {w w' : World} {xs : List Sx} {sa : Option Addr} (h : StepsAt w xs sa) (k : Below w.heap.size w w') : StepsAt w' xs sa := by
  intro i hi
  obtain ⟨b, off, e, hc, hs⟩ := h i hi
  refine ⟨b, off, e, fun j hj => ?_, hs.low k⟩
  have h1 := hc j hj
  have h9 : xs[i].vals[j]? = some (xs[i].vals[j]'(by simp [Sx.vals]; omega)) := Array.getElem?_eq_getElem _
  rw [h9] at h1 ⊢
  exact (k.cell (cell_in h1)).trans h1
theorem StepsAt.quiet {w w' : World} {xs : List Sx} {sa : Option Addr} (h : StepsAt w xs sa) (k : Quiet w w') : StepsAt w' xs sa := h.low k.low
theorem StepsAt.get {w : World} {xs : List Sx} {sa : Option Addr} (h : StepsAt w xs sa) (i : Nat) (hi : i < xs.length) : ∃ b off, sa = some ⟨b, off, none⟩ ∧ w.cell? ⟨b, off + i * 9, none⟩ = some (.int .i64 xs[i].kind) ∧ w.cell? ⟨b, off + i * 9 + 1, none⟩ = some (.int .i64 xs[i].p) ∧ w.cell? ⟨b, off + i * 9 + 2, none⟩ = some (.int .i64 xs[i].q) ∧ w.cell? ⟨b, off + i * 9 + 3, none⟩ = some (.int .i64 xs[i].k) ∧ w.cell? ⟨b, off + i * 9 + 4, none⟩ = some (.int .i64 xs[i].h) ∧ w.cell? ⟨b, off + i * 9 + 5, none⟩ = some (.int .i64 xs[i].r) ∧ w.cell? ⟨b, off + i * 9 + 6, none⟩ = some (.int .i64 xs[i].g) ∧ w.cell? ⟨b, off + i * 9 + 7, none⟩ = some (.int .i64 xs[i].n) ∧ w.cell? ⟨b, off + i * 9 + 8, none⟩ = some (.slice xs[i].fa xs[i].fs.length xs[i].fc) ∧ SxIs w xs[i] := by
  obtain ⟨b, off, e, hc, hs⟩ := h i hi
  exact ⟨b, off, e, hc 0 (by decide), hc 1 (by decide), hc 2 (by decide), hc 3 (by decide), hc 4 (by decide), hc 5 (by decide), hc 6 (by decide), hc 7 (by decide), hc 8 (by decide), hs⟩
def greatH (xs : List Sx) (most : Nat) : Bool := (xs.take most).any (fun x => Ex.great x.fs) || decide (most < xs.length)
theorem greatH_no {xs : List Sx} {most : Nat} (h : greatH xs most = false) : xs.length ≤ most ∧ ∀ x ∈ xs, Ex.great x.fs = false := by
  simp only [greatH, Bool.or_eq_false_iff, decide_eq_false_iff_not] at h
  have hl : xs.length ≤ most := by omega
  refine ⟨hl, fun x hx => ?_⟩
  have h1 := h.1
  rw [List.take_of_length_le hl] at h1
  have := List.any_eq_false.1 h1 x hx
  simpa using this
set_option maxRecDepth 8000 in
set_option maxHeartbeats 2000000 in
theorem greatHouse_any (xs : List Sx) (sa : Option Addr) (sc most : Nat) (w : World) (hx : StepsAt w xs sa) (hm : most ≤ 1000) :
    Calls Tryz.prog 8 #[.slice sa xs.length sc, .int .i64 most] w fun e w' => e = .returned (.bool (greatH xs most)) ∧ Quiet w w' := by
  have HX := hid hx
  clear hx
  go_enter Tryz.func8, Tryz.ntmps8
  go_wp2
  go_loopw [5] (fun i wr => ∃ j : Nat, j ≤ xs.length ∧ j ≤ most ∧ i = .int .i64 j ∧ ((xs.take j).any fun x => Ex.great x.fs) = false ∧ Quiet w wr) (fun i _ => xs.length - (intOf i).toNat)
  case atStart => exact ⟨0, Nat.zero_le _, Nat.zero_le _, rfl, by simp, Kp.refl _ _⟩
  case round =>
    rename World => wq
    obtain ⟨j, hj, hjm, rfl, hany, q⟩ := hrel
    by_cases hlt : j < xs.length
    · have hlt' : (j : Int) < (xs.length : Int) := by omega
      by_cases hlm : j < most
      · have hlm' : (j : Int) < (most : Int) := by omega
        obtain ⟨b, off, rfl, _, _, _, _, _, _, _, _, c8, hs⟩ := (HX.out.quiet q).get j hlt
        have HC := hid (Ex.great_any xs[j].fs xs[j].fa xs[j].fc wq hs.fo.unthaw)
        have HN := hid (take_snoc xs j hlt)
        have HA := hid hany
        generalize hcu : xs[j] = x at *
        have HM := hid (show x ∈ xs.take most by rw [← hcu]; exact List.mem_take_iff_getElem.2 ⟨j, by omega, rfl⟩)
        clear hcu hs hany
        cases hg : Ex.great x.fs with
        | true =>
          rw [hg] at HC
          have hE := hid (show greatH xs most = true by
            simp only [greatH, Bool.or_eq_true]
            exact .inl (List.any_eq_true.2 ⟨x, HM.out, hg⟩))
          go_wp2_with (go_at_call 21; refine HC.out.mono ?_; rintro e w3 ⟨rfl, q3⟩)
          go_ret
          exact ⟨by rw [hE.out]; rfl, q.trans q3⟩
        | false =>
          rw [hg] at HC
          have HG := hid hg
          clear hg
          go_wp2_with (go_at_call 21; refine HC.out.mono ?_; rintro e w3 ⟨rfl, q3⟩)
          refine ⟨⟨j + 1, by omega, by omega, by go_num, ?_, q.trans q3⟩, by simp [intOf]; omega⟩
          rw [HN.out, List.any_append, HA.out]; simp [HG.out]
      · obtain rfl : j = most := by omega
        have hlm' : ¬ (j : Int) < (j : Int) := by omega
        have hE := hid (show greatH xs j = true by simp [greatH, hlt])
        go_wp2
        go_ret
        exact ⟨by rw [hE.out]; rfl, q⟩
    · obtain rfl : j = xs.length := by omega
      have hnl : ¬ ((most : Int) < (xs.length : Int)) := by omega
      have hE := hid (show greatH xs most = false by simp [greatH]; rw [List.take_of_length_le hjm]; rw [List.take_length] at hany; exact ⟨by simpa using hany, by omega⟩)
      go_wp2
      go_ret
      exact ⟨by rw [hE.out]; rfl, q⟩
def toldZ (x : Sx) (f : Int × Int) : Prop := f.1 = 0 → 1 ≤ x.fs.length ∧ ∀ v ∈ x.fs, v.bad x.fs.length 0 = 0
theorem make_at {w : World} {x : Sx} (hx : SxIs w x) (hg : Ex.great x.fs = false) : MakeAt (toldZ x) x w :=
  ⟨fun _ hf h0 v hv => (hf h0).2 v hv, fun w1 k => Ex.make_z x.fs x.fa x.fc w1 (hx.fo.thawQ k) (by have := Ex.great_sizes hg; omega)⟩
theorem code_fit {w : World} (v : Ex.V) : ∀ (ao : Option Addr), Ex.Is w v ao → ∀ p, ∀ i ∈ v.code p, In64 i.n := by
  have z : In64 0 := ⟨by decide, by decide⟩
  induction v using Ex.V.ind' with
  | h v ih =>
    intro ao hI p i hi
    have key : ∀ (l : List Ex.V), (∀ u ∈ l, ∀ p, ∀ i ∈ u.code p, In64 i.n) → ∀ k p, ∀ i ∈ Ex.codes v.kind l k p, In64 i.n := by
      intro l
      induction l with
      | nil => intro _ k p i hi; rw [Ex.codes_nil] at hi; simp at hi
      | cons u l ihl =>
        intro hl k p i hi
        rw [Ex.codes_cons] at hi
        rcases List.mem_append.1 hi with hi | hi
        · unfold Ex.preC at hi
          repeat' split at hi
          all_goals simp at hi
          all_goals first
            | (rw [hi]; exact z)
            | (rcases hi with hi | hi <;> (rw [hi]; exact z))
        · rcases List.mem_append.1 hi with hi | hi
          · exact hl u List.mem_cons_self _ i hi
          · exact ihl (fun x hx => hl x (List.mem_cons_of_mem _ hx)) _ _ i hi
    rw [Ex.code_eq] at hi
    rcases List.mem_cons.1 hi with hi | hi
    · rw [hi]; exact z
    · rcases List.mem_append.1 hi with hi | hi
      · refine key v.l (fun u hu q j hj => ?_) _ _ i hi
        obtain ⟨k, hk, rfl⟩ := List.getElem_of_mem hu
        obtain ⟨b, off, _, hat⟩ := hI.fo k hk
        obtain ⟨_, a2, c2, _, h2⟩ := (Ex.at_iff _ _ _ _).1 hat
        exact ih _ hu a2 h2 q j hj
      · unfold Ex.postC at hi
        repeat' split at hi
        all_goals simp at hi
        all_goals (rw [hi]; first | exact z | exact hI.fit.2.2)
theorem funs_fit {w : World} {l : List Ex.V} {ao : Option Addr} (h : Ex.Fo w l ao) : ∀ v ∈ l, ∀ i ∈ Ex.funC v, In64 i.n := by
  intro v hv i hi
  obtain ⟨k, hk, rfl⟩ := List.getElem_of_mem hv
  obtain ⟨b, off, _, hat⟩ := h k hk
  obtain ⟨_, a2, c2, _, h2⟩ := (Ex.at_iff _ _ _ _).1 hat
  unfold Ex.funC at hi
  rcases List.mem_append.1 hi with hi | hi
  · exact code_fit _ a2 h2 0 i hi
  · simp at hi; rw [hi]; exact ⟨by decide, by decide⟩
theorem Tryz.cellsSx : Tryz.prog.cellsOf 47 = 9 := by kernel_rfl
section
variable {H : Type} {enc : TypeId × Value → H} {w : World}
theorem openModL {fuel : Nat} {cs : List Value} {x : DataW H × List MemPlace} (h : DataW.trod enc Tryz.prog w 0 (fun _ => true) true fuel 45 cs = some x) (hz : w.noneFrozen x.2) : ∃ (l : List Ex.V) (ao : Option Addr) (cap : Nat), cs = [.slice ao l.length cap] ∧ Ex.Fo (Ex.thw w) l ao := by
  obtain ⟨xs, n, hn, rfl, hl, hxl, hfl⟩ := DataW.trod_struct Tryz.underlying45 h
  have f0 : DataW.trod enc Tryz.prog w 0 (fun _ => true) true n 43 ((cs.drop 0).take (Tryz.prog.cellsOf 43)) = xs[0]? := hfl 0 _ rfl
  have hx1 : xs.length = 1 := hxl
  rw [Ex.Tryz.cellsLz, List.getElem?_eq_getElem (by omega)] at f0
  have hz0 : w.noneFrozen xs[0].2 := fun b off hp => hz b off (List.mem_flatMap.2 ⟨xs[0], List.getElem_mem _, hp⟩)
  obtain ⟨l, ao, cap, e, hF⟩ := Ex.openLz f0 hz0
  have e0 := Ex.take_onez _ _ _ e
  rw [Ex.Tryz.cellsMz] at hl
  refine ⟨l, ao, cap, ?_, hF⟩
  match cs, hl, e0 with
  | [a], _, e0 =>
    simp only [List.getElem?_cons_zero, Option.some.injEq] at e0
    rw [e0]
set_option maxRecDepth 8000 in
theorem openSx {fuel : Nat} {cs : List Value} {x : DataW H × List MemPlace} (h : DataW.trod enc Tryz.prog w 0 (fun _ => true) true fuel 47 cs = some x) (hz : w.noneFrozen x.2) : ∃ s : Sx, cs = s.vals.toList ∧ SxIs w s := by
  obtain ⟨xs, n, _, rfl, hl, hxl, hf⟩ := DataW.trod_struct Tryz.underlying47 h
  rw [Tryz.cellsSx] at hl
  have hx9 : xs.length = 9 := hxl
  have one : ∀ (i : Nat) (f : Field), i < 7 → f.type = 3 → f.offset = i → DataW.trod enc Tryz.prog w 0 (fun _ => true) true n f.type ((cs.drop f.offset).take (Tryz.prog.cellsOf f.type)) = xs[i]? → ∃ z, cs[i]? = some (.int .i64 z) ∧ In64 z := by
    intro i f hi h1 h2 h3
    rw [List.getElem?_eq_getElem (by omega), h1, h2, Ex.Tryz.cellsIz] at h3
    obtain ⟨z, hz, _, hw⟩ := DataW.trod_int Tryz.underlying3 h3
    exact ⟨z, Ex.take_onez _ _ _ hz, Ex.in_wfz hw⟩
  obtain ⟨z0, e0, i0⟩ := one 0 _ (by decide) rfl rfl (hf 0 _ rfl)
  obtain ⟨z1, e1, i1⟩ := one 1 _ (by decide) rfl rfl (hf 1 _ rfl)
  obtain ⟨z2, e2, i2⟩ := one 2 _ (by decide) rfl rfl (hf 2 _ rfl)
  obtain ⟨z3, e3, i3⟩ := one 3 _ (by decide) rfl rfl (hf 3 _ rfl)
  obtain ⟨z4, e4, i4⟩ := one 4 _ (by decide) rfl rfl (hf 4 _ rfl)
  obtain ⟨z5, e5, i5⟩ := one 5 _ (by decide) rfl rfl (hf 5 _ rfl)
  obtain ⟨z6, e6, i6⟩ := one 6 _ (by decide) rfl rfl (hf 6 _ rfl)
  have f7 : DataW.trod enc Tryz.prog w 0 (fun _ => true) true n 2 ((cs.drop 7).take (Tryz.prog.cellsOf 2)) = xs[7]? := hf 7 _ rfl
  have f8 : DataW.trod enc Tryz.prog w 0 (fun _ => true) true n 45 ((cs.drop 8).take (Tryz.prog.cellsOf 45)) = xs[8]? := hf 8 _ rfl
  rw [Ex.Tryz.cellsNz, List.getElem?_eq_getElem (by omega)] at f7
  rw [Ex.Tryz.cellsMz, List.getElem?_eq_getElem (by omega)] at f8
  obtain ⟨z7, hz7, _, hw7⟩ := DataW.trod_int Tryz.underlying2 f7
  have e7 := Ex.take_onez _ _ _ hz7
  obtain ⟨l, ao, cap, hl8, hF⟩ := openModL f8 (fun b off hp => hz b off (List.mem_flatMap.2 ⟨xs[8], List.getElem_mem _, hp⟩))
  have e8 := Ex.take_onez _ _ _ hl8
  refine ⟨⟨z0, z1, z2, z3, z4, z5, z6, z7, l, ao, cap⟩, ?_, ⟨i0, i1, i2, i3, i4, i5, i6, Ex.in_wfz hw7, funs_fit hF.unthaw⟩, hF⟩
  match cs, hl with
  | [a0, a1, a2, a3, a4, a5, a6, a7, a8], _ =>
    simp only [List.getElem?_cons_zero, List.getElem?_cons_succ, Option.some.injEq] at e0 e1 e2 e3 e4 e5 e6 e7 e8
    simp [Sx.vals, e0, e1, e2, e3, e4, e5, e6, e7, e8]
theorem openStepsz {ao : Option Addr} {len cap : Nat} {d : DataW H} {ps : List MemPlace} (h : DataW.Trod enc Tryz.prog w 0 (fun _ => true) true 22 (.slice ao len cap) d ps) (hz : w.noneFrozen ps) : ∃ ss : List Sx, ss.length = len ∧ StepsAt w ss ao := by
  obtain ⟨fuel, hf⟩ := h
  rcases Deep.open_slice Tryz.underlying22 hf with ⟨h0, _⟩ | ⟨a, len', cap', m, n, D, Pl, h0, hb, hl, hm, hmm, hxx, hx⟩
  · simp only [Value.cells, List.cons.injEq, Value.slice.injEq, and_true] at h0
    obtain ⟨rfl, rfl, rfl⟩ := h0
    exact ⟨[], rfl, fun k hk => absurd hk (by simp)⟩
  · simp only [Value.cells, List.cons.injEq, Value.slice.injEq, and_true] at h0
    obtain ⟨rfl, rfl, rfl⟩ := h0
    rw [if_pos rfl] at hmm
    subst hmm
    rw [Tryz.cellsSx] at hx hxx
    have sub : ∀ i, i < m → w.noneFrozen (Pl i) := fun i hi b off hp => hz b off (by
      have := congrArg Prod.snd hxx
      simp only at this
      rw [this]
      exact List.mem_append_right _ (List.mem_flatMap.2 ⟨i, List.mem_range.2 hi, hp⟩))
    have key : ∀ k, k < len → ∃ s : Sx, ∃ b off, a = ⟨b, off, none⟩ ∧ (∀ j, j < 9 → w.cell? ⟨b, off + k * 9 + j, none⟩ = s.vals[j]?) ∧ SxIs w s := by
      intro k hk
      obtain ⟨cs', hc, ht⟩ := hx k (by omega)
      obtain ⟨s, hs, hi⟩ := openSx ht (sub k (by omega))
      obtain ⟨_, _, hcell⟩ := World.cells?_some hc
      obtain ⟨b, off, spot⟩ := a
      have hspot : spot = none := by
        obtain ⟨cs0, hc0, ht0⟩ := hx 0 (by omega)
        obtain ⟨s0, hs0, _⟩ := openSx ht0 (sub 0 (by omega))
        obtain ⟨_, _, hcell0⟩ := World.cells?_some hc0
        have h1 := hcell0 0 (by decide)
        rw [hs0] at h1
        simp only [Sx.vals] at h1
        simpa [Addr.add] using World.cell?_spot h1
      subst hspot
      refine ⟨s, b, off, rfl, fun j hj => ?_, hi⟩
      have h1 := hcell j (by omega)
      rw [Deep.add_add, hs] at h1
      simpa [Addr.add_lit, Nat.add_assoc] using h1
    haveI : Inhabited Sx := ⟨⟨0, 0, 0, 0, 0, 0, 0, 0, [], none, 0⟩⟩
    obtain ⟨f, hF⟩ := Deep.choose_lt key
    refine ⟨(List.range len).map f, by simp, fun k hk => ?_⟩
    obtain ⟨b, off, rfl, rest⟩ := hF k (by simpa using hk)
    refine ⟨b, off, rfl, ?_⟩
    simpa using rest
end
variable {H : Type} {enc : TypeId × Value → H} {w : World}
theorem openStepsC {ao : Option Addr} {len cap : Nat} {d : DataW H} {ps : List MemPlace} (h : DataW.Trod enc Tryz.prog w 0 (fun _ => true) true 22 (.slice ao len cap) d ps) : len ≤ cap := by
  obtain ⟨fuel, hf⟩ := h
  rcases Deep.open_slice Tryz.underlying22 hf with ⟨h0, _⟩ | ⟨a, len', cap', m, n, D, Pl, h0, hb, hl, _⟩
  · simp only [Value.cells, List.cons.injEq, Value.slice.injEq, and_true] at h0
    obtain ⟨rfl, rfl, rfl⟩ := h0
    exact Nat.le_refl _
  · simp only [Value.cells, List.cons.injEq, Value.slice.injEq, and_true] at h0
    obtain ⟨rfl, rfl, rfl⟩ := h0
    exact hl
end Go.Proofs.YtkpckmcaeljocaaGreat
namespace Go.Proofs.YtkpckmcaeljocaaGreat
open Go.ChangeShapes Go.WideShapes Go.ChangeAt Go.RowKit
open Gr (Nd Res nd0 thereB openB deriveOf addOf gateOf cutOf cellB cellOf funcB funcOf rightsN wayOf gatesOf gatesW targetOf Wf NdOk GS IntsAt)
def rd1 : Ex.V := ⟨13, 0, 0, [⟨3, 0, 0, []⟩]⟩
def hb1 : Hs := (stepH h00 ⟨1, 1, 0, 0, 0, 0, 0, 0, 0, [rd1]⟩).2
def hb2 : Hs := (stepH hb1 ⟨2, 1, 0, 3, 0, 1, -1, 0, 0, []⟩).2
def hb3 : Hs := (stepH hb2 ⟨4, 1, 0, 0, 0, 0, 0, 0, 0, []⟩).2
theorem few00 : FewH h00 := few_of (by decide)
theorem in_few (z : Int) (h : -1 ≤ z ∧ z ≤ 100) : In64 z := ⟨by omega, by omega⟩
section
variable {M : Hx} {q : Hq} {w : World}
theorem make_none (w : World) : ∀ w1, Quiet w w1 → Calls Tryz.prog 71 #[.agg #[.slice none 0 0]] w1 fun e w' => Ex.MakeQ (fun f => f = Ex.modFault []) [] w1 e w' := fun w1 _ => Ex.make_any [] none 0 w1 (Ex.Fo.nil _ _) (by decide)
theorem HouseS.event {X : Nat → Prop} {h : Hs} (H : HouseS X M q h w) {k : Nat} {cs : Array Value} (hk : w.heap[k]? = some (.cells cs 40 (0, 0))) : ¬ OwnH M q k := H.free hk (by decide) (by decide) (by decide) (by decide) (by decide) (by decide) (by decide) (by decide)
end
end Go.Proofs.YtkpckmcaeljocaaGreat
namespace Go.Proofs.YtkpckmcaeljocaaGreat
open Gr (Nd Res nd0 thereB openB deriveOf addOf gateOf cutOf cellB cellOf funcB funcOf rightsN wayOf gatesOf gatesW targetOf Wf NdOk passB meetW)
theorem run_log (ms : Mods) {s : Sg} (hs : Inv s) (p f : Int) (arg : V) : (runR ms p f arg 2000 s).2.2.es.length ≤ s.es.length + 2000 := by
  unfold runR
  by_cases h1 : (2000 : Int) < 0 ∨ (2000 : Int) < 2000 ∨ p < 0 ∨ 4 ≤ p
  · rw [if_pos h1]; exact Nat.le_add_right _ _
  rw [if_neg h1]
  by_cases h2 : (funOf ms p f).isNone = true
  · rw [if_pos h2]; exact Nat.le_add_right _ _
  rw [if_neg h2]
  by_cases h3 : arg.check ≠ 0
  · rw [if_pos h3]; exact Nat.le_add_right _ _
  rw [if_neg h3]
  have h3' : arg.check = 0 := Decidable.not_not.1 h3
  have k := (call_ok (ev_ok ms 2000) ms 0 p f arg (2000 : Int).toNat s h3' hs).log
  have e : (2000 : Int).toNat = 2000 := rfl
  simp only [e] at k ⊢
  omega
def Adds (h h' : Hs) : Prop := h'.s.es.length ≤ h.s.es.length + 2000 ∧ ∀ p, (h'.hs.getD p []).length ≤ (h.hs.getD p []).length + 1
theorem Adds.refl (h : Hs) : Adds h h := ⟨Nat.le_add_right _ _, fun _ => Nat.le_add_right _ _⟩
theorem step_adds {h : Hs} (hi : HOk h) (x : Sp) : Adds h (stepH h x).2 := by
  have hg : ∀ (p : Int) (r : Res), Adds h (giveH h p r).2 := fun p r => by
    unfold giveH
    split
    · refine ⟨Nat.le_add_right _ _, fun q => ?_⟩
      simp only
      rw [List.getD_eq_getElem?_getD, List.getElem?_set]
      by_cases e : p.toNat = q
      · rw [if_pos e]
        by_cases e2 : p.toNat < h.hs.length
        · rw [if_pos e2]; simp [e]
        · rw [if_neg e2]; simp
      · rw [if_neg e, ← List.getD_eq_getElem?_getD]; exact Nat.le_add_right _ _
    · exact Adds.refl h
  have hr : ∀ (p k : Int) (v : V), Adds h (runH h p k v).2 := fun p k v => ⟨run_log h.ms hi.inv p k v, fun _ => Nat.le_add_right _ _⟩
  unfold stepH
  repeat' split
  all_goals first
    | exact hg _ _
    | exact Adds.refl h
    | (unfold loadH; repeat' split
       all_goals exact ⟨Nat.le_add_right _ _, fun _ => Nat.le_add_right _ _⟩)
    | (unfold callH; repeat' split
       all_goals first
         | exact hr _ _ _
         | exact Adds.refl h)
    | exact ⟨Nat.le_add_right _ _, fun _ => Nat.le_add_right _ _⟩
end Go.Proofs.YtkpckmcaeljocaaGreat
namespace Go.Proofs.YtkpckmcaeljocaaGreat
def onB (S : List Bool) (p : Int) : Bool := S.getD p.toNat false
def lkStep (S : List Bool) (y : Sp × Int) : List Bool := if y.1.kind = 3 ∧ y.2 = 0 ∧ (onB S y.1.p || onB S y.1.q) = true then (S.set y.1.p.toNat true).set y.1.q.toNat true else S
def lkPass (tr : List (Sp × Int)) (S : List Bool) : List Bool := tr.foldl lkStep S
def LeB (S T : List Bool) : Prop := S.length = T.length ∧ ∀ i, S.getD i false = true → T.getD i false = true
theorem LeB.refl (S : List Bool) : LeB S S := ⟨rfl, fun _ h => h⟩
theorem LeB.trans {S T U : List Bool} (h : LeB S T) (k : LeB T U) : LeB S U := ⟨h.1.trans k.1, fun i e => k.2 i (h.2 i e)⟩
theorem cnt_le : ∀ {S T : List Bool}, LeB S T → S.count true ≤ T.count true ∧ (S.count true = T.count true → S = T) := by
  intro S
  induction S with
  | nil =>
    rintro T ⟨h, _⟩
    have : T = [] := List.length_eq_zero_iff.1 h.symm
    rw [this]; exact ⟨Nat.le_refl _, fun _ => rfl⟩
  | cons a S ih =>
    rintro T ⟨h, k⟩
    cases T with
    | nil => simp at h
    | cons b T =>
      obtain ⟨h1, h2⟩ := ih (T := T) ⟨by simpa using h, fun i e => by have := k (i + 1); simp only [List.getD_cons_succ] at this; exact this e⟩
      have h0 := k 0
      simp only [List.getD_cons_zero] at h0
      cases a with
      | true =>
        rw [h0 rfl]
        simp only [List.count_cons_self]
        exact ⟨by omega, fun e => by rw [h2 (by omega)]⟩
      | false =>
        cases b with
        | true =>
          simp only [List.count_cons_self]
          rw [List.count_cons_of_ne (by decide)]
          exact ⟨by omega, fun e => by omega⟩
        | false =>
          rw [List.count_cons_of_ne (by decide), List.count_cons_of_ne (by decide)]
          exact ⟨h1, fun e => by rw [h2 e]⟩
theorem LeB.anti {S T : List Bool} (h : LeB S T) (k : LeB T S) : S = T := (cnt_le h).2 (Nat.le_antisymm (cnt_le h).1 (cnt_le k).1)
theorem set_le (S : List Bool) (j : Nat) : LeB S (S.set j true) := ⟨by simp, fun i h => by
  rw [List.getD_eq_getElem?_getD] at h ⊢
  rw [List.getElem?_set]
  by_cases e : j = i
  · rw [if_pos e]
    by_cases e2 : i < S.length
    · rw [if_pos (by omega)]; rfl
    · rw [List.getElem?_eq_none (by omega)] at h; cases h
  · rw [if_neg e]; exact h⟩
theorem set_on {S : List Bool} {j : Nat} (h : j < S.length) : (S.set j true).getD j false = true := by
  rw [List.getD_eq_getElem?_getD, List.getElem?_set, if_pos rfl, if_pos h]; rfl
theorem step_le (S : List Bool) (y : Sp × Int) : LeB S (lkStep S y) := by
  unfold lkStep
  split
  · exact (set_le S _).trans (set_le _ _)
  · exact LeB.refl S
theorem pass_le (tr : List (Sp × Int)) : ∀ S, LeB S (lkPass tr S) := by
  induction tr with
  | nil => intro S; exact LeB.refl S
  | cons y tr ih => intro S; exact (step_le S y).trans (ih (lkStep S y))
theorem pass_fix (tr : List (Sp × Int)) : ∀ S, lkPass tr S = S → ∀ y ∈ tr, lkStep S y = S := by
  induction tr with
  | nil => intro S _ y hy; simp at hy
  | cons y tr ih =>
    intro S h z hz
    have h1 : lkPass tr (lkStep S y) = S := h
    have e : lkStep S y = S := (LeB.anti (step_le S y) (by have := pass_le tr (lkStep S y); rw [h1] at this; exact this)).symm
    rw [e] at h1
    rcases List.mem_cons.1 hz with rfl | hz
    · exact e
    · exact ih S h1 z hz
def lkMany (tr : List (Sp × Int)) : Nat → List Bool → List Bool
  | 0, S => S
  | n + 1, S => lkPass tr (lkMany tr n S)
theorem many_le (tr : List (Sp × Int)) : ∀ n S, LeB S (lkMany tr n S) := by
  intro n S
  induction n with
  | zero => exact LeB.refl S
  | succ n ih => exact ih.trans (pass_le tr _)
theorem many_cnt (tr : List (Sp × Int)) : ∀ n S, lkPass tr (lkMany tr n S) = lkMany tr n S ∨ S.count true + n ≤ (lkMany tr n S).count true := by
  intro n S
  induction n with
  | zero => exact .inr (Nat.le_refl _)
  | succ n ih =>
    rcases ih with h | h
    · left; rw [lkMany, h, h]
    · by_cases e : lkPass tr (lkMany tr n S) = lkMany tr n S
      · left; rw [lkMany, e, e]
      · right
        have k := cnt_le (pass_le tr (lkMany tr n S))
        have : (lkMany tr n S).count true ≠ (lkPass tr (lkMany tr n S)).count true := fun e2 => e (k.2 e2).symm
        rw [lkMany]; have := k.1; omega
def lkFrom (p : Int) : List Bool := [false, false, false, false].set p.toNat true
def lkAll (tr : List (Sp × Int)) (p : Int) : List Bool := lkMany tr 4 (lkFrom p)
theorem from_cnt {p : Int} (hp : plugB p = true) : (lkFrom p).count true = 1 := by
  have hpp : 0 ≤ p ∧ p < 4 := by simpa [plugB] using hp
  have : p = 0 ∨ p = 1 ∨ p = 2 ∨ p = 3 := by omega
  rcases this with rfl | rfl | rfl | rfl <;> rfl
theorem all_len (tr : List (Sp × Int)) (p : Int) : (lkAll tr p).length = 4 := by
  have := (many_le tr 4 (lkFrom p)).1
  unfold lkAll; rw [← this]; simp [lkFrom]
theorem all_fix (tr : List (Sp × Int)) {p : Int} (hp : plugB p = true) : lkPass tr (lkAll tr p) = lkAll tr p := by
  rcases many_cnt tr 4 (lkFrom p) with h | h
  · exact h
  · have h1 := from_cnt hp
    have h2 : (lkAll tr p).count true ≤ (lkAll tr p).length := List.count_le_length
    rw [all_len] at h2
    unfold lkAll at h2
    omega
def TrOk (tr : List (Sp × Int)) : Prop := ∀ y ∈ tr, (y.1.kind = 2 ∨ y.1.kind = 3) → y.2 = 0 → plugB y.1.p = true ∧ (y.1.kind = 3 → plugB y.1.q = true)
theorem all_on {tr : List (Sp × Int)} (ht : TrOk tr) {p q : Int} (hp : plugB p = true) (h : Lkd tr p q) : plugB q = true ∧ onB (lkAll tr p) q = true := by
  have hpp : ∀ {z : Int}, plugB z = true → z.toNat < 4 := fun {z} h => by have : 0 ≤ z ∧ z < 4 := by simpa [plugB] using h
                                                                          omega
  have key : ∀ y ∈ tr, y.1.kind = 3 → y.2 = 0 → (onB (lkAll tr p) y.1.p || onB (lkAll tr p) y.1.q) = true → onB (lkAll tr p) y.1.p = true ∧ onB (lkAll tr p) y.1.q = true := by
    intro y hy h1 h2 h3
    have hfix := pass_fix tr _ (all_fix tr hp) y hy
    have hl := all_len tr p
    obtain ⟨t1, t2⟩ := ht y hy (.inr h1) h2
    generalize lkAll tr p = S at *
    unfold lkStep at hfix
    rw [if_pos ⟨h1, h2, h3⟩] at hfix
    have a1 : onB ((S.set y.1.p.toNat true).set y.1.q.toNat true) y.1.q = true := set_on (by rw [List.length_set, hl]; exact hpp (t2 h1))
    have a2 : onB ((S.set y.1.p.toNat true).set y.1.q.toNat true) y.1.p = true := (set_le (S.set y.1.p.toNat true) y.1.q.toNat).2 _ (set_on (by rw [hl]; exact hpp t1))
    rw [hfix] at a1 a2
    exact ⟨a2, a1⟩
  refine h (fun q => plugB q = true ∧ onB (lkAll tr p) q = true) ?_ (fun y a b c ih => ?_) fun y a b c ih => ?_
  · refine ⟨hp, (many_le tr 4 (lkFrom p)).2 _ ?_⟩
    exact set_on (by simpa using hpp hp)
  · exact ⟨(ht _ a (.inr b) c).2 b, (key _ a b c (by rw [ih.2]; rfl)).2⟩
  · exact ⟨(ht _ a (.inr b) c).1, (key _ a b c (by rw [ih.2]; simp)).1⟩
theorem tr_step {tr : List (Sp × Int)} (ht : TrOk tr) (h : Hs) (x : Sp) : TrOk (tr ++ [(x, (stepH h x).1.code)]) := by
  intro y hy hk hc
  rcases List.mem_append.1 hy with hy | hy
  · exact ht y hy hk hc
  · rw [List.mem_singleton.1 hy] at hk hc ⊢
    simp only at hk hc ⊢
    unfold stepH at hc
    rcases hk with k | k
    · rw [if_neg (by omega), if_pos k] at hc
      split at hc
      · rename_i e; exact ⟨e, fun k3 => by omega⟩
      · cases hc
    · rw [if_neg (by omega), if_neg (by omega), if_pos k] at hc
      split at hc
      · rename_i e
        refine ⟨e, fun _ => ?_⟩
        have h1 := give_code hc
        unfold Gr.funcOf at h1
        by_cases h2 : Gr.funcB x.q x.k = true
        · have h3 : 0 ≤ x.q ∧ x.q < 4 ∧ 0 ≤ x.k ∧ x.k < 6 := by simpa [Gr.funcB] using h2
          simp [plugB]; omega
        · rw [if_neg h2] at h1; cases h1
      · cases hc
theorem hinv0 (K : List Gr.Nd → Int → Int → Prop) : HInv K h00 := by
  refine ⟨⟨Gr.Wf.nil _, by simp [h00], by simp [h00], fun q hq => ?_⟩, by simp [h00], fun q hq v hv => ?_⟩
  · have : (h00.s.ks.getD q v0) = v0 := by
      have : q = 0 ∨ q = 1 ∨ q = 2 ∨ q = 3 := by omega
      rcases this with rfl | rfl | rfl | rfl <;> rfl
    rw [this]; exact Hd.v0
  · have : (h00.hs.getD q []) = [] := by
      have : q = 0 ∨ q = 1 ∨ q = 2 ∨ q = 3 := by omega
      rcases this with rfl | rfl | rfl | rfl <;> rfl
    rw [this] at hv; simp at hv
def mayB (tr : List (Sp × Int)) (p cell : Int) (bit : Nat) : Bool := tr.any fun y => decide (y.1.kind = 2) && decide (y.2 = 0) && decide (y.1.k = cell) && y.1.r.toNat.testBit bit && (onB (lkAll tr p) y.1.p || decide (y.1.p = p))
theorem may_found {tr : List (Sp × Int)} (ht : TrOk tr) {p cell : Int} {bit : Nat} (hp : plugB p = true) (h : MayM tr p cell bit) : mayB tr p cell bit = true := by
  obtain ⟨y, h1, h2, h3, h4, h5, h6⟩ := h
  refine List.any_eq_true.2 ⟨y, h1, ?_⟩
  rw [(all_on ht hp h6).2]
  simp [h2, h3, h4, h5]
theorem keeps_gvn {tr : List (Sp × Int)} (ht : TrOk tr) : KeepsG (Giv (Gvn tr)) (fun q => plugB q = true) where
  more := (keeps_given (gvn_cls tr)).more
  kid := (keeps_given (gvn_cls tr)).kid
  ask := (keeps_given (gvn_cls tr)).ask
  back := (keeps_given (gvn_cls tr)).back
  who {ns p a} _ ka _ hq := by
    obtain ⟨y, h1, h2, _, h4⟩ := ka
    rcases h4 with ⟨_, e⟩ | ⟨h4, _, e⟩
    · rw [e] at hq; simp at hq
    · show plugB (Gr.targetOf ns a).plugin = true
      rw [e]; exact (ht y h1 (.inr h4) h2).2 h4
theorem step_ent {tr : List (Sp × Int)} (ht : TrOk tr) {h : Hs} (hi : HInv (Giv (Gvn tr)) h) (x : Sp) : ∃ new, (stepH h x).2.s.es = h.s.es ++ new ∧ ∀ e ∈ new, EntG (Giv (Gvn tr)) (fun q => plugB q = true) (stepH h x).2.s.ns e := by
  by_cases k2 : x.kind = 2
  · refine ⟨[], ?_, by simp⟩
    unfold stepH
    rw [if_neg (by omega), if_pos k2]
    split
    · rw [give_es]; simp
    · simp
  by_cases k3 : x.kind = 3
  · refine ⟨[], ?_, by simp⟩
    unfold stepH
    rw [if_neg (by omega), if_neg k2, if_pos k3]
    split
    · rw [give_es]; simp
    · simp
  by_cases k4 : x.kind = 4 ∧ plugB x.p = false
  · refine ⟨[], ?_, by simp⟩
    obtain ⟨k4, kp⟩ := k4
    have hr : ∀ v, (runH h x.p x.k v).2.s.es = h.s.es := fun v => by
      unfold runH runR
      have : x.p < 0 ∨ 4 ≤ x.p := by simp [plugB] at kp; omega
      rw [if_pos (by omega)]
    unfold stepH
    rw [if_neg (by omega), if_neg k2, if_neg k3, if_pos k4]
    unfold callH
    rw [kp]
    split
    · simp
    · rw [hr]; simp
  exact (hi.step (keeps_gvn ht) x (fun k => by
    cases e : plugB x.p with
    | true => rfl
    | false => exact absurd ⟨k, e⟩ k4) (fun e => absurd e k2) (fun e => absurd e k3)).2
open Go.ChangeShapes Go.WideShapes Go.ChangeAt Go.RowKit
open Gr (Nd Res nd0 thereB openB deriveOf addOf gateOf cutOf cellB cellOf funcB funcOf rightsN wayOf gatesOf gatesW targetOf Wf NdOk GS IntsAt)
structure WT where
  P : Type
  Q : Type
  hx : P → Hx
  wb : P → Nat
  hq : Q → Hq
  own : P → Q → Nat → Prop
  S : (Nat → Prop) → P → Q → Hs → List (Sp × Int) → World → Prop
  house : ∀ {X p q h tr w}, S X p q h tr w → ∃ Y, HouseS Y (hx p) (hq q) h w
  cell : ∀ {X p q h tr w}, S X p q h tr w → w.cell? ⟨wb p, 0, none⟩ = some (.pointer (some ⟨(hx p).hb, 0, none⟩))
  sub : ∀ {p q k}, OwnH (hx p) (hq q) k → own p q k
  lt : ∀ {X p q h tr w k}, S X p q h tr w → own p q k → (hx p).B ≤ k ∧ k < w.heap.size
  xo : ∀ {X p q h tr w k}, S X p q h tr w → X k → k < w.heap.size ∧ ¬ own p q k
  step : ∀ {X X' p q h tr w w'}, S X p q h tr w → Quiet w w' → (∀ i, i < w.heap.size → X' i → X i) → (∀ i, X' i → i < w'.heap.size) → S X' p q h tr w'
  turn : ∀ {X X' F p q h tr w w'}, S X p q h tr w → Kp F w w' → (∀ i, F i → X i) → (∀ (i : Nat) (cs : Array Value) (t : TypeId), w.heap[i]? = some (.cells cs t (0, 0)) → t = 165 ∨ t = 159 → ¬ F i) → (∀ i, i < w.heap.size → X' i → X i) → (∀ i, X' i → i < w'.heap.size ∧ ¬ own p q i) → S X' p q h tr w'
structure GoesW (T : WT) (p : T.P) (q : T.Q) (w : World) (q' : T.Q) (w' : World) : Prop where
  kp : Kp (T.own p q) w w'
  own : ∀ k, T.own p q' k → T.own p q k ∨ w.heap.size ≤ k
section
variable {T : WT} {p : T.P} {q q' q2 : T.Q} {h h' : Hs} {tr : List (Sp × Int)} {w w' w2 : World} {X X' : Nat → Prop}
theorem GoesW.quiet (p : T.P) (q : T.Q) (k : Quiet w w') : GoesW T p q w q w' := ⟨k.mono fun _ _ e => e.elim, fun _ e => .inl e⟩
theorem GoesW.trans (a : GoesW T p q w q' w') (b : GoesW T p q' w' q2 w2) : GoesW T p q w q2 w2 := by
  refine ⟨⟨b.kp.os.trans a.kp.os, b.kp.tape.trans a.kp.tape, b.kp.output.trans a.kp.output, Nat.le_trans a.kp.size b.kp.size, fun i hi hF => ?_⟩, fun i hi => ?_⟩
  · refine (b.kp.block i (Nat.lt_of_lt_of_le hi a.kp.size) fun e => ?_).trans (a.kp.block i hi hF)
    rcases a.own i e with e | e
    · exact hF e
    · omega
  · rcases b.own i hi with e | e
    · exact a.own i e
    · exact .inr (Nat.le_trans a.kp.size e)
theorem GoesW.fresh (a : GoesW T p q w q' w') (k : Kp (fun i => w.heap.size ≤ i) w' w2) : GoesW T p q w q' w2 := ⟨a.kp.fresh k, a.own⟩
theorem GoesW.after (k : Quiet w w2) (a : GoesW T p q w2 q' w') : GoesW T p q w q' w' := (GoesW.quiet p q k).trans a
theorem GoesW.block (a : GoesW T p q w q' w') {x : Nat} {o : Obj} (hx : w.heap[x]? = some o) (hn : ¬ T.own p q x) : w'.heap[x]? = some o ∧ ¬ T.own p q' x := by
  have hl : x < w.heap.size := (Array.getElem?_eq_some_iff.1 hx).1
  refine ⟨(a.kp.block x hl hn).trans hx, fun e => ?_⟩
  rcases a.own x e with e | e
  · exact hn e
  · omega
theorem WT.quiet (H : T.S X p q h tr w) (k : Quiet w w') : T.S X p q h tr w' := T.step H k (fun _ _ e => e) fun _ e => Nat.lt_of_lt_of_le (T.xo H e).1 k.size
theorem WT.new (H : T.S X p q h tr w) (k : Nat) (hk : w.heap.size ≤ k) : ¬ T.own p q k := fun e => by have := (T.lt H e).2; omega
theorem WT.below {B : Nat} {w0 : World} (H : T.S X p q h tr w) (hB : B ≤ (T.hx p).B) (h0 : Below B w0 w) (g : GoesW T p q w q' w') : Below B w0 w' := by
  obtain ⟨_, hh⟩ := T.house H
  exact h0.trans (g.kp.below (by have := lt_of_block hh.obj; have := hh.lo; omega) fun k hk => Nat.le_trans hB (T.lt H hk).1)
theorem WT.ok (H : T.S X p q h tr w) : HOk h := by
  obtain ⟨_, hh⟩ := T.house H
  exact hh.ok
theorem WT.gs (H : T.S X p q h tr w) : GS 101 (T.hx p).B w (T.hx p).g (T.hq q).n (T.hq q).o h.s.ns h.s.os := by
  obtain ⟨_, hh⟩ := T.house H
  exact hh.gs
theorem WT.ws (H : T.S X p q h tr w) : Wo.WS (T.hx p).B w (T.hx p).wd h.s.cs (T.hq q).l h.s.es := by
  obtain ⟨_, hh⟩ := T.house H
  exact hh.ws
theorem WT.cells (H : T.S X p q h tr w) : w.cell? ⟨T.wb p, 0, none⟩ = some (.pointer (some ⟨(T.hx p).hb, 0, none⟩)) ∧ w.cell? ⟨(T.hx p).hb, 0, none⟩ = some (.pointer (some ⟨(T.hx p).bb, 0, none⟩)) ∧ w.cell? ⟨(T.hx p).bb, 0, none⟩ = some (.pointer (some ⟨(T.hx p).g, 0, none⟩)) ∧ w.cell? ⟨(T.hx p).bb, 1, none⟩ = some (.pointer (some ⟨(T.hx p).wd, 0, none⟩)) := by
  obtain ⟨_, hh⟩ := T.house H
  exact ⟨T.cell H, hh.cells⟩
end
def WDoQ (T : WT) (X : Nat → Prop) (p : T.P) (q : T.Q) (tr : List (Sp × Int)) (y : Sp) (r : Evt × Hs) (w : World) (e : Ending) (w' : World) : Prop :=
  ∃ q' ao cap, e = .returned (.tuple #[.agg #[.int .i64 r.1.code, .int .i64 r.1.fuel, .int .i64 r.1.v.kind, .int .i64 r.1.v.n, .slice ao r.1.v.l.length cap], .agg #[.int .i64 0, .int .i64 0]]) ∧ T.S X p q' r.2 (tr ++ [(y, r.1.code)]) w' ∧ GoesW T p q w q' w' ∧ SafeF (fun k => T.own p q' k ∨ X k) (fun w => Is w r.1.v ao) w'
structure TrS (tr : List (Sp × Int)) (h : Hs) : Prop where
  ok : TrOk tr
  inv : HInv (Giv (Gvn tr)) h
  rights : ∀ y ∈ tr, y.1.kind = 2 → y.2 = 0 → 0 ≤ y.1.r ∧ y.1.r ≤ 15
def WNewC (T : WT) : Prop := ∀ (X : Nat → Prop) (B : Nat) (w : World), (∀ k, X k → k < w.heap.size) → B ≤ w.heap.size → Calls Tryz.prog 12 #[] w fun e w' => ∃ p q, (T.hx p).B = B ∧ e = .returned (.pointer (some ⟨T.wb p, 0, none⟩)) ∧ T.S X p q h00 [] w' ∧ (∀ k, T.own p q k → w.heap.size ≤ k) ∧ Quiet w w'
def WDoC (T : WT) : Prop := ∀ (X : Nat → Prop) (p : T.P) (q : T.Q) (h : Hs) (tr : List (Sp × Int)) (w : World) (x : Sx) (Pm : Int × Int → Prop), T.S X p q h tr w → TrS tr h → x.Fit → h.s.es.length ≤ 800000 → FewH h → tr.length ≤ 400 → MakeAt Pm x w →
    Calls Tryz.prog 13 #[.pointer (some ⟨T.wb p, 0, none⟩), .agg x.vals] w fun e w' => ∃ c, (x.kind = 1 → plugB x.p = true → ∃ f, Pm f ∧ f.1 = c) ∧ WDoQ T X p q tr (x.sp c) (stepH h (x.sp c)) w e w'
def WMayC (T : WT) : Prop := ∀ (X : Nat → Prop) (p : T.P) (q : T.Q) (h : Hs) (tr : List (Sp × Int)) (w : World) (a c : Int) (bit : Nat), T.S X p q h tr w → TrS tr h → tr.length ≤ 400 → plugB a = true → bit ≤ 1 →
    Calls Tryz.prog 15 #[.pointer (some ⟨T.wb p, 0, none⟩), .int .i64 a, .int .i64 c, .int .i64 (if bit = 0 then 1 else 2)] w fun e w' => e = .returned (.bool (mayB tr a c bit)) ∧ Quiet w w'
end Go.Proofs.YtkpckmcaeljocaaGreat
namespace Go.Proofs.YtkpckmcaeljocaaGreat
open Gr (Nd Res nd0 thereB openB deriveOf addOf gateOf cutOf cellB cellOf funcB funcOf rightsN wayOf gatesOf gatesW targetOf Wf NdOk GS IntsAt)
theorem trs0 : TrS [] h00 := ⟨fun y hy => by simp at hy, hinv0 _, fun y hy => by simp at hy⟩
theorem add_rights {ns : List Nd} {os : List Bool} {n : Nd} (h : (addOf ns os n).code = 0) : 0 ≤ n.rights ∧ n.rights ≤ 15 := by
  unfold addOf at h
  by_cases h1 : ¬ (0 ≤ n.rights ∧ n.rights ≤ 15)
  · rw [if_pos h1] at h; cases h
  · exact Classical.not_not.1 h1
theorem TrS.step {tr : List (Sp × Int)} {h : Hs} (H : TrS tr h) (x : Sp) : TrS (tr ++ [(x, (stepH h x).1.code)]) (stepH h x).2 := by
  refine ⟨tr_step H.ok h x, (step_given H.inv x).1, fun y hy k c => ?_⟩
  rcases List.mem_append.1 hy with hy | hy
  · exact H.rights y hy k c
  · rw [List.mem_singleton.1 hy] at k c ⊢
    simp only at k c ⊢
    unfold stepH at c
    rw [if_neg (by omega), if_pos k] at c
    split at c
    · unfold giveH at c
      split at c
      · rename_i hc
        unfold cellOf at hc
        split at hc
        · exact add_rights hc
        · cases hc
      · rename_i hc; exact absurd c hc
    · cases c
end Go.Proofs.YtkpckmcaeljocaaGreat
namespace Go.Proofs.YtkpckmcaeljocaaGreat
open Go.ChangeShapes Go.WideShapes Go.ChangeAt Go.RowKit
theorem parts_cases {k : Int} {p : Nat} (h : partsB k = some p) : (k = 2 ∧ p = 2) ∨ (k = 3 ∧ p = 1) ∨ (k = 0 ∧ p = 0) ∨ (k = 1 ∧ p = 0) ∨ (k = 4 ∧ p = 0) ∨ (k = 5 ∧ p = 0) := by
  unfold partsB at h
  by_cases h2 : k = 2
  · rw [if_pos h2] at h; simp at h; omega
  · rw [if_neg h2] at h
    by_cases h3 : k = 3
    · rw [if_pos h3] at h; simp at h; omega
    · rw [if_neg h3] at h
      by_cases h4 : k = 0 ∨ k = 1 ∨ k = 4 ∨ k = 5
      · rw [if_pos h4] at h; simp at h; omega
      · rw [if_neg h4] at h; simp at h
theorem parts_none {k : Int} (h : partsB k = none) : k ≠ 2 ∧ k ≠ 3 ∧ k ≠ 0 ∧ k ≠ 1 ∧ k ≠ 4 ∧ k ≠ 5 := by
  unfold partsB at h
  refine ⟨?_, ?_, ?_, ?_, ?_, ?_⟩ <;> rintro rfl <;> simp at h
theorem partsOf_some {k : Int} {p : Nat} (h : partsB k = some p) (w : World) : Calls Tryz.prog 142 #[.int .i64 k] w fun e w' => e = .returned (.tuple #[.int .i64 p, .bool true]) ∧ w' = w := by
  rcases parts_cases h with ⟨rfl, rfl⟩ | ⟨rfl, rfl⟩ | ⟨rfl, rfl⟩ | ⟨rfl, rfl⟩ | ⟨rfl, rfl⟩ | ⟨rfl, rfl⟩ <;> clear h
  all_goals
    go_enter Tryz.func142, Tryz.ntmps142
    go_wp2
    go_ret2
    exact ⟨rfl, rfl⟩
theorem partsOf_none {k : Int} (h : partsB k = none) (w : World) : Calls Tryz.prog 142 #[.int .i64 k] w fun e w' => e = .returned (.tuple #[.int .i64 0, .bool false]) ∧ w' = w := by
  obtain ⟨h2, h3, h0, h1, h4, h5⟩ := parts_none h
  clear h
  go_enter Tryz.func142, Tryz.ntmps142
  go_wp2
  go_ret2
  exact ⟨rfl, rfl⟩
theorem fault_any (v : V) (ao : Option Addr) (cap : Nat) (w : World) : Calls Tryz.prog 129 #[.agg #[.int .i64 v.kind, .int .i64 v.n, .slice ao v.l.length cap]] w fun e w' => e = .returned (.int .i64 v.fault1) ∧ Quiet w w' := by
  obtain ⟨k, n, l⟩ := v
  cases hp : partsB k with
  | none =>
    have hE := hid (show (V.mk k n l).fault1 = 2 by simp [V.fault1, hp])
    go_enter Tryz.func129, Tryz.ntmps129
    go_wp2_with (go_at_call 142; refine (partsOf_none hp _).mono ?_; rintro e w' ⟨rfl, rfl⟩)
    go_ret
    exact ⟨by rw [hE.out]; rfl, Kp.alloc _ _⟩
  | some p =>
    by_cases hl : l.length = p
    · have hE := hid (show (V.mk k n l).fault1 = if (k = 0 ∨ k = 2) ∧ n ≠ 0 then 5 else if (k = 3 ∨ k = 4 ∨ k = 5) ∧ n < 0 then 1 else 0 by simp [V.fault1, hp, hl])
      generalize l.length = ll at *
      subst hl
      rcases parts_cases hp with ⟨rfl, rfl⟩ | ⟨rfl, rfl⟩ | ⟨rfl, rfl⟩ | ⟨rfl, rfl⟩ | ⟨rfl, rfl⟩ | ⟨rfl, rfl⟩
      all_goals
        go_enter Tryz.func129, Tryz.ntmps129
        go_wp2_with (go_at_call 142; refine (partsOf_some hp _).mono ?_; rintro e w' ⟨rfl, rfl⟩)
        all_goals go_ret
        all_goals exact ⟨by rw [hE.out]; first | rfl | (simp [*]; done) | simp_all, Kp.alloc _ _⟩
    · have hE := hid (show (V.mk k n l).fault1 = 5 by simp [V.fault1, hp, hl])
      have hl' : (l.length : Int) ≠ (p : Int) := by omega
      go_enter Tryz.func129, Tryz.ntmps129
      go_wp2_with (go_at_call 142; refine (partsOf_some hp _).mono ?_; rintro e w' ⟨rfl, rfl⟩)
      go_ret
      exact ⟨by rw [hE.out]; rfl, Kp.alloc _ _⟩
theorem rows_apart {w : World} {B1 B2 : Nat} {t1 t2 : TypeId} {s1 s2 n1 n2 : Nat} {v1 v2 : Value} {xs1 xs2 : List Value} (h1 : w.ownsRow B1 t1 s1 v1 n1 xs1) (h2 : w.ownsRow B2 t2 s2 v2 n2 xs2) (ht : t1 ≠ t2) (k : Nat) (e1 : v1.ownBlock = some k) : v2.ownBlock ≠ some k := by
  intro e2
  rcases h1.2 with ⟨rfl, _⟩ | ⟨g1, c1, cur1, rfl, _, hh1, _⟩
  · simp [Value.ownBlock] at e1
  · rcases h2.2 with ⟨rfl, _⟩ | ⟨g2, c2, cur2, rfl, _, hh2, _⟩
    · simp [Value.ownBlock] at e2
    · simp [Value.ownBlock] at e1 e2
      subst e1; subst e2
      rw [hh1] at hh2
      simp at hh2
      exact ht hh2.2
theorem row_other {w : World} {B : Nat} {t t' : TypeId} {s n : Nat} {v : Value} {xs : List Value} {k : Nat} {c : Array Value} (h : w.ownsRow B t s v n xs) (hk : w.heap[k]? = some (.cells c t' (0, 0))) (ht : t ≠ t') : v.ownBlock ≠ some k := by
  intro e
  rcases h.2 with ⟨rfl, _⟩ | ⟨g, cp, cur, rfl, _, hh, _⟩
  · simp [Value.ownBlock] at e
  · simp [Value.ownBlock] at e
    subst e
    rw [hh] at hk
    simp at hk
    exact ht hk.2
structure VS (W : World) (sv : Value) (ts : List Kd) (w : World) : Prop where
  row : w.ownsRow W.heap.size 38 3 sv ts.length (tris ts)
  lie : ∀ p ∈ ts, Is W p.1 p.2.1
  low : Below W.heap.size W w
theorem VS.quiet {W w w' : World} {sv : Value} {ts : List Kd} (H : VS W sv ts w) (q : Quiet w w') : VS W sv ts w' :=
  ⟨q.row H.row fun _ _ e => e, H.lie, low_of H.low q H.low.size⟩
theorem VS.step {W w w' : World} {sv : Value} {ts : List Kd} {F : Nat → Prop} (H : VS W sv ts w) (q : Kp F w w') (hF : ∀ k, F k → W.heap.size ≤ k) (hr : ∀ k, sv.ownBlock = some k → ¬ F k) : VS W sv ts w' :=
  ⟨q.row H.row hr, H.lie, H.low.trans (q.below H.low.size hF)⟩
theorem VS.push {W w w1 : World} {sv : Value} {ts : List Kd} {x : Kd} {n g cap : Nat} {o : Obj} (H : VS W sv ts w) (hx : Is W x.1 x.2.1) (hn : n = ts.length)
    (hr1 : w1.ownsRow W.heap.size 38 3 (.slice (some ⟨g, 0, none⟩) (n + 1) cap) (n + 1) (tris ts ++ tri x)) (hg : (w.alloc o).grownBy w1 sv.ownBlock) : VS W (.slice (some ⟨g, 0, none⟩) (n + 1) cap) (ts ++ [x]) w1 := by
  subst hn
  refine ⟨by rw [tris_app, tris_one]; simpa using hr1, fun p hp => ?_, ?_⟩
  · rcases List.mem_append.1 hp with hp | hp
    · exact H.lie p hp
    · simp at hp; subst hp; exact hx
  · refine H.low.trans (((Below.refl _ _).alloc H.low.size o).trans ?_)
    exact (Kp.grown (F := fun k => W.heap.size ≤ k) hg fun k _ e => (H.row.lt k e.symm).1).below (by simp; have := H.low.size; omega) fun k hk => hk
theorem vs_start {W w : World} {v : V} {ao : Option Addr} {cap : Nat} {o : Obj} (hI : Is W v ao) (hB : Below W.heap.size W w) : VS W (.slice (some ⟨w.heap.size + 1, 0, none⟩) 1 1) [(v, ao, cap)] ((w.alloc o).alloc (.cells #[.int .i64 v.kind, .int .i64 v.n, .slice ao v.l.length cap] 38)) := by
  have q : Quiet w ((w.alloc o).alloc (.cells #[.int .i64 v.kind, .int .i64 v.n, .slice ao v.l.length cap] 38)) := (Kp.alloc _ _).trans (Kp.alloc _ _)
  have hs := hB.size
  refine ⟨⟨by simp [tris_len], .inr ⟨w.heap.size + 1, 1, _, rfl, by omega, heap_two w _ _, Nat.le_refl _, by decide, by simp, by simp [tris_one, tri]⟩⟩, fun p hp => ?_, low_of hB q hB.size⟩
  simp at hp; subst hp; exact hI
theorem tri_cells {w : World} {g m : Nat} {v : V} {ao : Option Addr} {cap : Nat} (h : ∀ j, j < 3 → w.cell? ⟨g, m + j, none⟩ = (tri (v, ao, cap))[j]?) :
    w.cell? ⟨g, m, none⟩ = some (.int .i64 v.kind) ∧ w.cell? ⟨g, m + 1, none⟩ = some (.int .i64 v.n) ∧ w.cell? ⟨g, m + 2, none⟩ = some (.slice ao v.l.length cap) :=
  ⟨h 0 (by decide), h 1 (by decide), h 2 (by decide)⟩
theorem rev_take {α : Type} (l : List α) (j : Nat) (h : j < l.length) : l.reverse.take (j + 1) = l.reverse.take j ++ [l[l.length - 1 - j]] := by
  rw [take_snoc l.reverse j (by simpa using h)]; simp
def vsz (ts : List Kd) : Nat := (ts.map fun p => p.1.size).sum
theorem vsz_app (a b : List Kd) : vsz (a ++ b) = vsz a + vsz b := by simp [vsz]
theorem vsz_one (p : Kd) : vsz [p] = p.1.size := by simp [vsz]
theorem vsz_len (ts : List Kd) : ts.length ≤ vsz ts := by
  induction ts with
  | nil => simp [vsz]
  | cons x ts ih => have := size_pos x.1; simp [vsz] at ih ⊢; omega
theorem vsz_map (ts : List Kd) : vsz ts = sizes (ts.map (·.1)) := by
  induction ts with
  | nil => simp [vsz, sizes_nil]
  | cons x ts ih => rw [List.map_cons, sizes_cons, ← ih]; simp [vsz]
theorem sizes_rev (l : List V) : sizes l.reverse = sizes l := by
  induction l with
  | nil => rfl
  | cons x l ih => rw [List.reverse_cons, sizes_append, ih, sizes_cons, sizes_cons, sizes_nil]; omega
def pend (ts : List Kd) : List V := pres (ts.map (·.1)).reverse
theorem pend_nil : pend [] = [] := by simp [pend, pres_nil]
theorem pend_one (p : Kd) : pend [p] = p.1.pre := by simp [pend, pres_one]
theorem pend_pop (ts : List Kd) (p : Kd) : pend (ts ++ [p]) = p.1 :: (pres p.1.l ++ pend ts) := by
  simp only [pend, List.map_append, List.map_cons, List.map_nil, List.reverse_append, List.reverse_cons, List.reverse_nil, List.nil_append, List.singleton_append, pres_cons]
  rw [pre_eq]; rfl
theorem pend_push (ts ks : List Kd) (u : V) (h : ks.map (·.1) = u.l.reverse) : pend (ts ++ ks) = pres u.l ++ pend ts := by
  simp only [pend, List.map_append, List.reverse_append, h, List.reverse_reverse, pres_append]
end Go.Proofs.YtkpckmcaeljocaaGreat
