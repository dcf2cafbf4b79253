/- A box in memory: its graph, its world, its plugins; what may turn in it, and what is not its own. A box goes on: by a step of its graph, of its world, by what is kept; what is asked of New and of Run, whatever way they go. The laws' own beginning, whatever way New, Run and Arith go. What is asked of Run: cells and the numbers of instructions fit. The numbers of small modules fit. The laws' own beginning: the walk. VmArith, whatever way New, Run and Arith go. Two rows of values that grow and shrink beside each other: a call's values and its names. -/
import Derived.Test.YtpppgmkefpelaaaUK0
import Derived.Test.YtpppgmkefpelaaaUP0
import Derived.Test.YtpppgmkefpelaaaUE4
import Derived.Test.YtpppgmkefpelaaaUW0
import Derived.Test.YtpppgmkefpelaaaUP1
import Derived.ProofKit
import Derived.Test.YtpppgmkefpelaaaUV1
namespace Go.Proofs.Ytpppgmkefpelaaa
open Go.ChangeShapes Go.WideShapes Go.ChangeAt Go.RowKit
open Gr (Nd Res nd0 thereB deriveOf addOf gateOf cutOf rightsN wayOf gatesOf gatesW targetOf Wf NdOk GS IntsAt)
/-- A plugin as it lies. -/
structure Pg where
  there : Bool
  code : Value
  kept : V
  ao : Option Addr
  cap : Nat
def Pg.cells (p : Pg) : List Value := [.bool p.there, p.code, .int .i64 p.kept.kind, .int .i64 p.kept.n, .slice p.ao p.kept.l.length p.cap]
/-- A box's cells. -/
def boxC (g wd : Nat) (a b c d : Pg) : List Value := [.pointer (some ⟨g, 0, none⟩), .pointer (some ⟨wd, 0, none⟩)] ++ (a.cells ++ (b.cells ++ (c.cells ++ d.cells)))
/-- The functions of a plugin lie there, as instructions. -/
def CodeAt (w : World) (code : Value) (l : List Ex.V) : Prop := ∃ ao cap ps, code = .slice ao l.length cap ∧ Ex.Md 0 w code l.length ps ∧ ps.map (·.1) = l.map Ex.funC
/-- The memory of a box. -/
def OwnB (bb g wd : Nat) (vn vo vl : Value) (k : Nat) : Prop := k = bb ∨ Gr.Own g vn vo k ∨ Wo.Own wd vl k
/-- What a plugin is. -/
structure PgS (w : World) (F : Nat → Prop) (m : Option (List Ex.V)) (p : Pg) : Prop where
  there : p.there = m.isSome
  code : ∀ l, m = some l → CodeAt w p.code l ∧ ∀ v ∈ l, v.bad l.length 0 = 0
  shape : ∃ ao n cap, p.code = .slice ao n cap
  kept : SafeF F (fun w => Is w p.kept p.ao) w
  good : p.kept.check = 0
/-- A box with a state, and modules. -/
structure BoxS (B : Nat) (w : World) (bb g wd : Nat) (vn vo vl : Value) (ms : Mods) (s : Sg) (a b c d : Pg) : Prop where
  obj : w.heap[bb]? = some (.cells (boxC g wd a b c d).toArray 47 (0, 0))
  gs : GS 69 B w g vn vo s.ns s.os
  wf : Wf s.ns s.os.length
  ws : Wo.WS B w wd s.cs vl s.es
  ks : s.ks = [a.kept, b.kept, c.kept, d.kept]
  lo : B ≤ bb
  mods : ∃ ma mb mc md, ms = [ma, mb, mc, md] ∧ PgS w (OwnB bb g wd vn vo vl) ma a ∧ PgS w (OwnB bb g wd vn vo vl) mb b ∧ PgS w (OwnB bb g wd vn vo vl) mc c ∧ PgS w (OwnB bb g wd vn vo vl) md d
/-- A block of another type is not the world's. -/
theorem Wo.WS.free_type {B : Nat} {w : World} {b : Nat} {cs : List Int} {v : Value} {es : List Wo.Ent} (h : Wo.WS B w b cs v es) {k : Nat} {c : Array Value} {t' : TypeId} (hk : w.heap[k]? = some (.cells c t' (0, 0))) (h1 : t' ≠ 73) (h2 : t' ≠ 160) : ¬ Wo.Own b v k := by
  rintro (rfl | e)
  · rw [h.obj.block] at hk; simp at hk; exact h1 hk.2.symm
  · rcases h.row.2 with ⟨rfl, _⟩ | ⟨g, cap, cur, rfl, _, hg, _⟩
    · simp [Value.ownBlock] at e
    · simp [Value.ownBlock] at e
      subst e
      rw [hk] at hg
      simp at hg
      exact h2 hg.2
section
variable {B : Nat} {w w' : World} {bb g wd : Nat} {vn vo vl : Value} {ms : Mods} {s : Sg} {a b c d : Pg}
theorem BoxS.lt (h : BoxS B w bb g wd vn vo vl ms s a b c d) : bb < w.heap.size := lt_of_block h.obj
theorem BoxS.own (h : BoxS B w bb g wd vn vo vl ms s a b c d) (k : Nat) (hk : OwnB bb g wd vn vo vl k) : B ≤ k ∧ k < w.heap.size := by
  rcases hk with rfl | e | e
  · exact ⟨h.lo, h.lt⟩
  · exact h.gs.own k e
  · exact h.ws.own_lt k e
/-- A block of another type is not the box's. -/
theorem BoxS.free (h : BoxS B w bb g wd vn vo vl ms s a b c d) {k : Nat} {cs : Array Value} {t : TypeId} (hk : w.heap[k]? = some (.cells cs t (0, 0))) (h0 : t ≠ 47) (h1 : t ≠ 69) (h2 : t ≠ 145) (h3 : t ≠ 4) (h4 : t ≠ 73) (h5 : t ≠ 160) : ¬ OwnB bb g wd vn vo vl k := by
  rintro (rfl | e | e)
  · rw [h.obj] at hk; simp at hk; exact h0 hk.2.symm
  · exact h.gs.free_type hk h1 h2 h3 e
  · exact h.ws.free_type hk h4 h5 e
theorem BoxS.new (h : BoxS B w bb g wd vn vo vl ms s a b c d) (k : Nat) (hk : w.heap.size ≤ k) : ¬ OwnB bb g wd vn vo vl k := fun e => by have := (h.own k e).2; omega
/-- What lies in rows of instructions stays. -/
theorem CodeAt.kept {F : Nat → Prop} {code : Value} {l : List Ex.V} (h : CodeAt w code l) (q : Kp F w w') (hF : ∀ (k : Nat) (cs : Array Value) (t : TypeId), w.heap[k]? = some (.cells cs t (0, 0)) → t = 60 ∨ t = 54 → ¬ F k) : CodeAt w' code l := by
  obtain ⟨ao, cap, ps, e, m, hp⟩ := h
  refine ⟨ao, cap, ps, e, ⟨q.row m.row fun k hk => ?_, m.len, fun p hp => q.row (m.all p hp) fun k hk => ?_⟩, hp⟩
  · rcases m.row.2 with ⟨e, _⟩ | ⟨g, cp, cur, e, _, hg, _⟩
    · rw [e] at hk; simp [Value.ownBlock] at hk
    · rw [e] at hk; simp [Value.ownBlock] at hk; subst hk; exact hF _ _ _ hg (.inr rfl)
  · rcases (m.all p hp).2 with ⟨e, _⟩ | ⟨g, cp, cur, e, _, hg, _⟩
    · rw [e] at hk; simp [Value.ownBlock] at hk
    · rw [e] at hk; simp [Value.ownBlock] at hk; subst hk; exact hF _ _ _ hg (.inl rfl)
end
end Go.Proofs.Ytpppgmkefpelaaa
namespace Go.Proofs.Ytpppgmkefpelaaa
open Go.ChangeShapes Go.WideShapes Go.ChangeAt Go.RowKit
open Gr (Nd Res nd0 thereB deriveOf addOf gateOf cutOf rightsN wayOf gatesOf gatesW targetOf Wf NdOk GS IntsAt)
/-- What a step of a box may do. -/
structure GoesB (bb g wd : Nat) (vn vo vl : Value) (w : World) (vn' vo' vl' : Value) (w' : World) : Prop where
  kp : Kp (OwnB bb g wd vn vo vl) w w'
  own : ∀ k, OwnB bb g wd vn' vo' vl' k → OwnB bb g wd vn vo vl k ∨ w.heap.size ≤ k
section
variable {B : Nat} {w w' w2 : World} {bb g wd : Nat} {vn vo vl vn' vo' vl' vn2 vo2 vl2 : Value} {ms : Mods} {s : Sg} {a b c d : Pg}
theorem GoesB.refl (bb g wd : Nat) (vn vo vl : Value) (w : World) : GoesB bb g wd vn vo vl w vn vo vl w := ⟨Kp.refl _ _, fun _ e => .inl e⟩
theorem GoesB.quiet (bb g wd : Nat) (vn vo vl : Value) (q : Quiet w w') : GoesB bb g wd vn vo vl w vn vo vl w' := ⟨q.mono fun _ _ e => e.elim, fun _ e => .inl e⟩
theorem GoesB.trans (h : GoesB bb g wd vn vo vl w vn' vo' vl' w') (k : GoesB bb g wd vn' vo' vl' w' vn2 vo2 vl2 w2) : GoesB bb g wd vn vo vl w vn2 vo2 vl2 w2 := by
  refine ⟨⟨k.kp.os.trans h.kp.os, k.kp.tape.trans h.kp.tape, k.kp.output.trans h.kp.output, Nat.le_trans h.kp.size k.kp.size, fun i hi hF => ?_⟩, fun i hi => ?_⟩
  · refine (k.kp.block i (Nat.lt_of_lt_of_le hi h.kp.size) fun e => ?_).trans (h.kp.block i hi hF)
    rcases h.own i e with e | e
    · exact hF e
    · omega
  · rcases k.own i hi with e | e
    · exact h.own i e
    · exact .inr (Nat.le_trans h.kp.size e)
theorem GoesB.fresh (h : GoesB bb g wd vn vo vl w vn' vo' vl' w') (k : Kp (fun i => w.heap.size ≤ i) w' w2) : GoesB bb g wd vn vo vl w vn' vo' vl' w2 := ⟨h.kp.fresh k, h.own⟩
theorem GoesB.after (q : Quiet w w2) (h : GoesB bb g wd vn vo vl w2 vn' vo' vl' w') : GoesB bb g wd vn vo vl w vn' vo' vl' w' :=
  ⟨(q.mono fun _ _ e => e.elim).trans h.kp, fun k e => by rcases h.own k e with e | e; exact .inl e; exact .inr (Nat.le_trans q.size e)⟩
theorem GoesB.safe {P : World → Prop} (h : GoesB bb g wd vn vo vl w vn' vo' vl' w') (hs : SafeF (OwnB bb g wd vn vo vl) P w) : SafeF (OwnB bb g wd vn' vo' vl') P w' :=
  hs.step h.kp fun k hk e => by
    rcases h.own k e with e | e
    · exact e
    · omega
theorem GoesB.block (hg : GoesB bb g wd vn vo vl w vn' vo' vl' w') {x : Nat} {o : Obj} (hx : w.heap[x]? = some o) (hn : ¬ OwnB bb g wd vn vo vl x) : w'.heap[x]? = some o ∧ ¬ OwnB bb g wd vn' vo' vl' x := by
  have hl : x < w.heap.size := (Array.getElem?_eq_some_iff.1 hx).1
  refine ⟨(hg.kp.block x hl hn).trans hx, fun e => ?_⟩
  rcases hg.own x e with e | e
  · exact hn e
  · omega
theorem PgS.goes {m : Option (List Ex.V)} {p : Pg} (H : BoxS B w bb g wd vn vo vl ms s a b c d) (h : PgS w (OwnB bb g wd vn vo vl) m p) (hg : GoesB bb g wd vn vo vl w vn' vo' vl' w') : PgS w' (OwnB bb g wd vn' vo' vl') m p :=
  ⟨h.there, fun l hl => ⟨(h.code l hl).1.kept hg.kp fun k cs t hk ht => by
      rcases ht with rfl | rfl
      · exact H.free hk (by decide) (by decide) (by decide) (by decide) (by decide) (by decide)
      · exact H.free hk (by decide) (by decide) (by decide) (by decide) (by decide) (by decide), (h.code l hl).2⟩, h.shape, hg.safe h.kept, h.good⟩
/-- A box whose own block stays. -/
theorem BoxS.move {s' : Sg} (H : BoxS B w bb g wd vn vo vl ms s a b c d) (hg : GoesB bb g wd vn vo vl w vn' vo' vl' w') (hb : w'.heap[bb]? = w.heap[bb]?) (hgs : GS 69 B w' g vn' vo' s'.ns s'.os) (hwf : Wf s'.ns s'.os.length) (hws : Wo.WS B w' wd s'.cs vl' s'.es) (hks : s'.ks = s.ks) : BoxS B w' bb g wd vn' vo' vl' ms s' a b c d := by
  obtain ⟨ma, mb, mc, md, e, ha, hb', hc, hd⟩ := H.mods
  exact ⟨hb.trans H.obj, hgs, hwf, hws, hks.trans H.ks, H.lo, ma, mb, mc, md, e, ha.goes H hg, hb'.goes H hg, hc.goes H hg, hd.goes H hg⟩
theorem BoxS.quiet (H : BoxS B w bb g wd vn vo vl ms s a b c d) (q : Quiet w w') : BoxS B w' bb g wd vn vo vl ms s a b c d :=
  H.move (GoesB.quiet _ _ _ _ _ _ q) (q.block _ H.lt fun e => e) (H.gs.quiet q) H.wf (H.ws.kept q fun _ _ e => e) rfl
/-- Other blocks turn. -/
theorem BoxS.kept {F : Nat → Prop} (H : BoxS B w bb g wd vn vo vl ms s a b c d) (q : Kp F w w') (hF : ∀ k, OwnB bb g wd vn vo vl k → ¬ F k)
    (hm : ∀ p, p = a ∨ p = b ∨ p = c ∨ p = d → ∀ m, PgS w (OwnB bb g wd vn vo vl) m p → PgS w' (OwnB bb g wd vn vo vl) m p) : BoxS B w' bb g wd vn vo vl ms s a b c d := by
  obtain ⟨ma, mb, mc, md, e, ha, hb, hc, hd⟩ := H.mods
  exact ⟨(q.block _ H.lt (hF _ (.inl rfl))).trans H.obj, H.gs.kept q fun k e => hF k (.inr (.inl e)), H.wf, H.ws.kept q fun k e => hF k (.inr (.inr e)), H.ks, H.lo, ma, mb, mc, md, e, hm a (.inl rfl) _ ha, hm b (.inr (.inl rfl)) _ hb, hm c (.inr (.inr (.inl rfl))) _ hc, hm d (.inr (.inr (.inr rfl))) _ hd⟩
/-- A block of the graph is none of the world's, nor the box itself. -/
theorem BoxS.apart (H : BoxS B w bb g wd vn vo vl ms s a b c d) : (∀ k, Gr.Own g vn vo k → k ≠ bb ∧ ¬ Wo.Own wd vl k) ∧ ∀ k, Wo.Own wd vl k → k ≠ bb ∧ ¬ Gr.Own g vn vo k := by
  have h1 : ¬ Gr.Own g vn vo bb := H.gs.free_type H.obj (by decide) (by decide) (by decide)
  have h2 : ¬ Wo.Own wd vl bb := H.ws.free_type H.obj (by decide) (by decide)
  have h3 : ∀ k, Wo.Own wd vl k → ¬ Gr.Own g vn vo k := by
    rintro k (rfl | e)
    · exact H.gs.free_type H.ws.obj.block (by decide) (by decide) (by decide)
    · rcases H.ws.row.2 with ⟨rfl, _⟩ | ⟨g', cap, cur, rfl, _, hh, _⟩
      · simp [Value.ownBlock] at e
      · simp [Value.ownBlock] at e
        subst e
        exact H.gs.free_type hh (by decide) (by decide) (by decide)
  exact ⟨fun k hk => ⟨fun e => h1 (e ▸ hk), fun e => h3 k e hk⟩, fun k hk => ⟨fun e => h2 (e ▸ hk), h3 k hk⟩⟩
/-- A step of its graph. -/
theorem BoxS.graph {ns' : List Nd} {os' : List Bool} (H : BoxS B w bb g wd vn vo vl ms s a b c d) (hg : Gr.Goes g vn vo w vn' vo' w') (hgs : GS 69 B w' g vn' vo' ns' os') (hwf : Wf ns' os'.length) :
    BoxS B w' bb g wd vn' vo' vl ms { s with ns := ns', os := os' } a b c d ∧ GoesB bb g wd vn vo vl w vn' vo' vl w' := by
  have G : GoesB bb g wd vn vo vl w vn' vo' vl w' := ⟨hg.kp.mono fun k _ e => .inr (.inl e), fun k e => by
    rcases e with e | e | e
    · exact .inl (.inl e)
    · rcases hg.own k e with e | e
      · exact .inl (.inr (.inl e))
      · exact .inr e
    · exact .inl (.inr (.inr e))⟩
  exact ⟨H.move G (hg.kp.block _ H.lt fun e => (H.apart.1 _ e).1 rfl) hgs hwf (H.ws.kept hg.kp fun k e => (H.apart.2 k e).2) rfl, G⟩
/-- A step of its world. -/
theorem BoxS.world {cs' : List Int} {es' : List Wo.Ent} (H : BoxS B w bb g wd vn vo vl ms s a b c d) (hg : Wo.Goes wd vl w vl' w') (hws : Wo.WS B w' wd cs' vl' es') :
    BoxS B w' bb g wd vn vo vl' ms { s with cs := cs', es := es' } a b c d ∧ GoesB bb g wd vn vo vl w vn vo vl' w' := by
  have G : GoesB bb g wd vn vo vl w vn vo vl' w' := ⟨hg.kp.mono fun k _ e => .inr (.inr e), fun k e => by
    rcases e with e | e | e
    · exact .inl (.inl e)
    · exact .inl (.inr (.inl e))
    · rcases hg.own k e with e | e
      · exact .inl (.inr (.inr e))
      · exact .inr e⟩
  exact ⟨H.move G (hg.kp.block _ H.lt fun e => (H.apart.2 _ e).1 rfl) (H.gs.kept hg.kp fun k e => (H.apart.1 k e).2) H.wf hws rfl, G⟩
end
/-- A value that is told, or a zero with a code. -/
def gotV : Except Int V → V
  | .ok v => v
  | .error _ => v0
def gotC : Except Int V → Int
  | .ok _ => 0
  | .error c => c
/-- A state of a box, somewhere. -/
def BoxIs (B : Nat) (w : World) (bb g wd : Nat) (vn vo vl : Value) (ms : Mods) (s : Sg) : Prop := ∃ a b c d, BoxS B w bb g wd vn vo vl ms s a b c d
/-- What is told of a run. -/
def RunQ (B bb g wd : Nat) (vn vo vl : Value) (ms : Mods) (R : Except Int V × Int × Sg) (w : World) (e : Ending) (w' : World) : Prop :=
  ∃ ao cap vn' vo' vl', e = .returned (.tuple #[.agg #[.int .i64 (gotV R.1).kind, .int .i64 (gotV R.1).n, .slice ao (gotV R.1).l.length cap], .int .i64 R.2.1, .int .i64 (gotC R.1)]) ∧ SafeF (OwnB bb g wd vn' vo' vl') (fun w => Is w (gotV R.1) ao) w' ∧ BoxIs B w' bb g wd vn' vo' vl' ms R.2.2 ∧ GoesB bb g wd vn vo vl w vn' vo' vl' w'
/-- The state of a new box. -/
def s0 : Sg := ⟨[], [], Wo.zeros, [], [v0, v0, v0, v0]⟩
/-- The contract of New. -/
def NewC : Prop := ∀ (B : Nat) (w : World), B ≤ w.heap.size → Calls Try.prog 7 #[] w fun e w' => ∃ bb g wd vn vo vl, e = .returned (.pointer (some ⟨bb, 0, none⟩)) ∧ BoxIs B w' bb g wd vn vo vl [none, none, none, none] s0 ∧ w.heap.size ≤ bb ∧ Quiet w w'
/-- The contract of Arith. -/
def ArithC : Prop := ∀ (k a b : Int) (w : World), In64 a → In64 b → Calls Try.prog 5 #[.int .i64 k, .int .i64 a, .int .i64 b] w fun e w' => e = .returned (.int .i64 (arith k a b)) ∧ Quiet w w'
end Go.Proofs.Ytpppgmkefpelaaa
namespace Go.Proofs.Ytpppgmkefpelaaa
open Go.ChangeShapes Go.WideShapes Go.ChangeAt Go.RowKit
open Gr (Nd Res nd0 thereB deriveOf addOf gateOf cutOf rightsN wayOf gatesOf gatesW targetOf Wf NdOk GS IntsAt)
section
variable {B : Nat} {w w' w2 : World} {bb g wd : Nat} {vn vo vl vn' vo' vl' vn2 vo2 vl2 : Value} {ms : Mods} {s : Sg} {a b c d : Pg}
/-- The box's own block turns. -/
theorem BoxS.put {s' : Sg} {a' b' c' d' : Pg} {ma mb mc md : Option (List Ex.V)} (H : BoxS B w bb g wd vn vo vl ms s a b c d) (hk : Kp (fun k => k = bb) w w') (hb : w'.heap[bb]? = some (.cells (boxC g wd a' b' c' d').toArray 47 (0, 0))) (hs : s' = { s with ks := [a'.kept, b'.kept, c'.kept, d'.kept] })
    (ha : PgS w (OwnB bb g wd vn vo vl) ma a') (hb' : PgS w (OwnB bb g wd vn vo vl) mb b') (hc : PgS w (OwnB bb g wd vn vo vl) mc c') (hd : PgS w (OwnB bb g wd vn vo vl) md d') :
    BoxS B w' bb g wd vn vo vl [ma, mb, mc, md] s' a' b' c' d' ∧ GoesB bb g wd vn vo vl w vn vo vl w' := by
  have G : GoesB bb g wd vn vo vl w vn vo vl w' := ⟨hk.mono fun k _ e => .inl e, fun k e => .inl e⟩
  subst hs
  exact ⟨⟨hb, H.gs.kept hk fun k hk e => (H.apart.1 k hk).1 e, H.wf, H.ws.kept hk fun k hk e => (H.apart.2 k hk).1 e, rfl, H.lo, ma, mb, mc, md, rfl, ha.goes H G, hb'.goes H G, hc.goes H G, hd.goes H G⟩, G⟩
end
theorem five_set (w : World) (x o : Nat) (a b c d e : Value) : Kp (fun k => k = x) w (((((w.setCell ⟨x, o, none⟩ a).setCell ⟨x, o + 1, none⟩ b).setCell ⟨x, o + 2, none⟩ c).setCell ⟨x, o + 3, none⟩ d).setCell ⟨x, o + 4, none⟩ e) := ((((kp_set _ _ _ _).trans (kp_set _ _ _ _)).trans (kp_set _ _ _ _)).trans (kp_set _ _ _ _)).trans (kp_set _ _ _ _)
/-- What a new plugin is. -/
theorem pgs_new {w : World} {F : Nat → Prop} {l : List Ex.V} {ao : Option Addr} {cap : Nat} (hc : CodeAt w (.slice ao l.length cap) l) (hl : ∀ v ∈ l, v.bad l.length 0 = 0) : PgS w F (some l) ⟨true, .slice ao l.length cap, v0, none, 0⟩ :=
  ⟨rfl, fun l' e => by cases e; exact ⟨hc, hl⟩, ⟨_, _, _, rfl⟩, safe_leaf v0 v0_fits rfl none, show v0.check = 0 by decide⟩
/-- What Make made lies there. -/
theorem made_at {w w' : World} {l : List Ex.V} {ao : Option Addr} {cap : Nat} {ps : List Ex.Ls} (h : Ex.Md w.heap.size w' (.slice ao l.length cap) l.length ps) (hp : ps.map (·.1) = l.map Ex.funC) : CodeAt w' (.slice ao l.length cap) l := ⟨ao, cap, ps, rfl, h.mono (Nat.zero_le _), hp⟩
def be1 : Ex.V := ⟨6, 1, 0, [⟨3, 0, 0, []⟩, ⟨2, 0, 2, []⟩]⟩
theorem be1_fault : Ex.modFault [be1] = (0, 0) := by decide
theorem be1_bad : ∀ v ∈ [be1], v.bad 1 0 = 0 := by intro v hv; simp at hv; subst hv; decide
theorem be1_run : runR [none, some [be1], none, none] 1 0 (intV 5) 9 s0 = (.ok (intV 7), 3, s0) := by kernel_rfl
theorem be0_run : runR [none, some [be1], none, none] 0 0 v0 9 s0 = (.error 8, 0, s0) := by rfl
theorem be_arith : arith 4 1 2 = 1 := by decide
/-- The module of the beginning lies there. -/
theorem be1_fo (w : World) : Ex.Fo (Ex.cln ((w.alloc (.cells #[.int .i64 3, .int .i64 0, .int .i64 0, .slice none 0 0, .int .i64 2, .int .i64 0, .int .i64 2, .slice none 0 0] 34)).alloc (.cells #[.int .i64 6, .int .i64 1, .int .i64 0, .slice (some ⟨w.heap.size, 0, none⟩) 2 2] 34))) [be1] (some ⟨w.heap.size + 1, 0, none⟩) := by
  have b0 := Ex.cln_same (show ((w.alloc (.cells #[.int .i64 3, .int .i64 0, .int .i64 0, .slice none 0 0, .int .i64 2, .int .i64 0, .int .i64 2, .slice none 0 0] 34)).alloc (.cells #[.int .i64 6, .int .i64 1, .int .i64 0, .slice (some ⟨w.heap.size, 0, none⟩) 2 2] 34)).heap[w.heap.size]? = some (.cells #[.int .i64 3, .int .i64 0, .int .i64 0, .slice none 0 0, .int .i64 2, .int .i64 0, .int .i64 2, .slice none 0 0] 34 (0, 0)) by rw [Below.heap_alloc _ _ _ (by simp)]; exact heap_alloc_new w _)
  have b1 := Ex.cln_same (heap_two w (.cells #[.int .i64 3, .int .i64 0, .int .i64 0, .slice none 0 0, .int .i64 2, .int .i64 0, .int .i64 2, .slice none 0 0] 34) (.cells #[.int .i64 6, .int .i64 1, .int .i64 0, .slice (some ⟨w.heap.size, 0, none⟩) 2 2] 34))
  have in64 : ∀ z : Int, 0 ≤ z ∧ z ≤ 100 → In64 z := fun z h => ⟨by omega, by omega⟩
  have fit : ∀ (k kk n : Int) (l : List Ex.V), (0 ≤ k ∧ k ≤ 100) → (0 ≤ kk ∧ kk ≤ 100) → (0 ≤ n ∧ n ≤ 100) → Ex.V.fits ⟨k, kk, n, l⟩ := fun k kk n l h1 h2 h3 => ⟨in64 k h1, in64 kk h2, in64 n h3⟩
  intro i hi
  obtain rfl : i = 0 := by simp at hi; omega
  refine ⟨w.heap.size + 1, 0, rfl, (Ex.at_iff _ _ _ _).2 ⟨⟨?_, ?_, ?_⟩, some ⟨w.heap.size, 0, none⟩, 2, ?_, fit _ _ _ _ (by decide) (by decide) (by decide), fun j hj => ?_⟩⟩
  · simp [World.cell?, b1, be1]
  · simp [World.cell?, b1, be1]
  · simp [World.cell?, b1, be1]
  · simp [World.cell?, b1, be1]
  · have hj2 : j < 2 := hj
    match j, hj2 with
    | 0, _ => exact ⟨w.heap.size, 0, rfl, (Ex.at_iff _ _ _ _).2 ⟨⟨by simp [World.cell?, b0, be1], by simp [World.cell?, b0, be1], by simp [World.cell?, b0, be1]⟩, none, 0, by simp [World.cell?, b0, be1], fit _ _ _ _ (by decide) (by decide) (by decide), Ex.Fo.nil _ _⟩⟩
    | 1, _ => exact ⟨w.heap.size, 0, rfl, (Ex.at_iff _ _ _ _).2 ⟨⟨by simp [World.cell?, b0, be1], by simp [World.cell?, b0, be1], by simp [World.cell?, b0, be1]⟩, none, 0, by simp [World.cell?, b0, be1], fit _ _ _ _ (by decide) (by decide) (by decide), Ex.Fo.nil _ _⟩⟩
end Go.Proofs.Ytpppgmkefpelaaa
namespace Go.Proofs.Ytpppgmkefpelaaa
/-- The numbers of all instructions fit. -/
def FitsM (ms : Mods) : Prop := ∀ (j : Nat) (l : List Ex.V), ms.getD j none = some l → ∀ x ∈ l, ∀ i ∈ Ex.funC x, In64 i.n
/-- The contract of Run. -/
def RunC2 : Prop := ∀ (B bb g wd : Nat) (vn vo vl : Value) (ms : Mods) (s : Sg) (p f fuel : Int) (v : V) (ao : Option Addr) (cap : Nat) (w : World), BoxIs B w bb g wd vn vo vl ms s → FitsM ms → (∀ c ∈ s.cs, In64 c) → In64 p → In64 f → In64 fuel → s.es.length ≤ 900000 →
    SafeF (OwnB bb g wd vn vo vl) (fun w => Is w v ao) w → v.size ≤ 500 →
    Calls Try.prog 10 #[.pointer (some ⟨bb, 0, none⟩), .int .i64 p, .int .i64 f, .agg #[.int .i64 v.kind, .int .i64 v.n, .slice ao v.l.length cap], .int .i64 fuel] w fun e w' => RunQ B bb g wd vn vo vl ms (runR ms p f v fuel s) w e w'
end Go.Proofs.Ytpppgmkefpelaaa
namespace Go.Proofs.Ytpppgmkefpelaaa
def fitsB (ms : Mods) : Bool := ms.all fun m => match m with
  | none => true
  | some l => l.all fun x => (Ex.funC x).all fun i => decide (0 ≤ i.n ∧ i.n ≤ 100)
theorem fits_of {ms : Mods} (h : fitsB ms = true) : FitsM ms := by
  intro j l hl x hx i hi
  have h1 : some l ∈ ms := by
    rw [List.getD_eq_getElem?_getD] at hl
    cases e : ms[j]? with
    | none => rw [e] at hl; cases hl
    | some m =>
      rw [e] at hl
      simp only [Option.getD_some] at hl
      subst hl
      exact List.mem_of_getElem? e
  have h2 := List.all_eq_true.1 h _ h1
  simp only at h2
  have h3 := List.all_eq_true.1 h2 x hx
  have h4 := of_decide_eq_true (List.all_eq_true.1 h3 i hi)
  exact ⟨by omega, by omega⟩
theorem s0_fits : ∀ c ∈ s0.cs, In64 c := by
  intro c hc
  have : c = 0 := by
    simpa [s0, Wo.zeros] using hc
  subst this
  exact ⟨by decide, by decide⟩
end Go.Proofs.Ytpppgmkefpelaaa
namespace Go.Proofs.Ytpppgmkefpelaaa
open Go.ChangeShapes Go.WideShapes Go.ChangeAt Go.RowKit
open Gr (Nd Res nd0 thereB deriveOf addOf gateOf cutOf rightsN wayOf gatesOf gatesW targetOf Wf NdOk GS IntsAt)
/-- What Make makes of the beginning's module. -/
theorem make_be (w : World) : Calls Try.prog 8 #[.agg #[.slice (some ⟨w.heap.size + 1, 0, none⟩) 1 1]] ((w.alloc (.cells #[.int .i64 3, .int .i64 0, .int .i64 0, .slice none 0 0, .int .i64 2, .int .i64 0, .int .i64 2, .slice none 0 0] 34)).alloc (.cells #[.int .i64 6, .int .i64 1, .int .i64 0, .slice (some ⟨w.heap.size, 0, none⟩) 2 2] 34)) fun e w' =>
    ∃ ao cap, e = .returned (.tuple #[.slice ao 1 cap, .agg #[.int .i64 0, .int .i64 0]]) ∧ CodeAt w' (.slice ao 1 cap) [be1] ∧ Quiet w w' := by
  refine (Ex.make_any [be1] (some ⟨w.heap.size + 1, 0, none⟩) 1 _ (be1_fo w) (by decide)).mono ?_
  rintro e w' ⟨f, hf, q, ⟨h0, _⟩ | ⟨_, ao, cap, ps, rfl, hm, hp⟩⟩
  · rw [hf, be1_fault] at h0; exact absurd rfl h0
  · exact ⟨ao, cap, rfl, made_at hm hp, ((Kp.alloc _ _).trans (Kp.alloc _ _)).trans q⟩
theorem BoxS.one {B : Nat} {w : World} {bb g wd : Nat} {vn vo vl : Value} {ms : Mods} {s : Sg} {a b c d : Pg} (H : BoxS B w bb g wd vn vo vl ms s a b c d) :
    (w.cell? ⟨bb, 7, none⟩ = some (.bool b.there) ∧ w.cell? ⟨bb, 8, none⟩ = some b.code ∧ w.cell? ⟨bb, 9, none⟩ = some (.int .i64 b.kept.kind) ∧ w.cell? ⟨bb, 10, none⟩ = some (.int .i64 b.kept.n) ∧ w.cell? ⟨bb, 11, none⟩ = some (.slice b.ao b.kept.l.length b.cap)) ∧ ∀ j, w.frozen? ⟨bb, j, none⟩ = false := by
  refine ⟨⟨?_, ?_, ?_, ?_, ?_⟩, fun j => frozen_of_row w bb j _ 47 H.obj⟩ <;> simp [World.cell?, H.obj, boxC, Pg.cells]
/-- The second plugin is another one. -/
theorem BoxS.put1 {B : Nat} {w : World} {bb g wd : Nat} {vn vo vl : Value} {ma mb mc md : Option (List Ex.V)} {s : Sg} {a b c d : Pg} (H : BoxS B w bb g wd vn vo vl [ma, mb, mc, md] s a b c d) {l : List Ex.V} {ao : Option Addr} {cap : Nat} (hc : CodeAt w (.slice ao l.length cap) l) (hl : ∀ v ∈ l, v.bad l.length 0 = 0) :
    BoxS B (((((w.setCell ⟨bb, 7, none⟩ (.bool true)).setCell ⟨bb, 8, none⟩ (.slice ao l.length cap)).setCell ⟨bb, 9, none⟩ (.int .i64 0)).setCell ⟨bb, 10, none⟩ (.int .i64 0)).setCell ⟨bb, 11, none⟩ (.slice none 0 0)) bb g wd vn vo vl [ma, some l, mc, md] { s with ks := [a.kept, v0, c.kept, d.kept] } a ⟨true, .slice ao l.length cap, v0, none, 0⟩ c d ∧
    GoesB bb g wd vn vo vl w vn vo vl (((((w.setCell ⟨bb, 7, none⟩ (.bool true)).setCell ⟨bb, 8, none⟩ (.slice ao l.length cap)).setCell ⟨bb, 9, none⟩ (.int .i64 0)).setCell ⟨bb, 10, none⟩ (.int .i64 0)).setCell ⟨bb, 11, none⟩ (.slice none 0 0)) := by
  obtain ⟨na, nb, nc, nd, e, ha, _, hc', hd⟩ := H.mods
  simp only [List.cons.injEq, and_true] at e
  obtain ⟨rfl, rfl, rfl, rfl⟩ := e
  refine H.put (five_set w bb 7 _ _ _ _ _) ?_ rfl ha (pgs_new hc hl) hc' hd
  simp [World.setCell, Array.getElem?_modify, H.obj, boxC, Pg.cells, v0]
theorem s0_keep {a b c d : Pg} (h : s0.ks = [a.kept, b.kept, c.kept, d.kept]) : ({ s0 with ks := [a.kept, v0, c.kept, d.kept] } : Sg) = s0 := by
  simp only [s0, List.cons.injEq, and_true] at h
  obtain ⟨h1, _, h3, h4⟩ := h
  rw [← h1, ← h3, ← h4]; rfl
theorem in_small (z : Int) (h : 0 ≤ z ∧ z ≤ 100) : In64 z := ⟨by omega, by omega⟩
theorem below_goes {B bb g wd : Nat} {vn vo vl vn' vo' vl' : Value} {ms : Mods} {s : Sg} {a b c d : Pg} {w0 w w' : World} (h0 : Below B w0 w) (H : BoxS B w bb g wd vn vo vl ms s a b c d) (hg : GoesB bb g wd vn vo vl w vn' vo' vl' w') : Below B w0 w' :=
  h0.trans (hg.kp.below (by have := H.lt; have := H.lo; omega) fun k hk => (H.own k hk).1)
set_option maxRecDepth 8000 in
set_option maxHeartbeats 4000000 in
theorem vbegun_of (hN : NewC) (hR : RunC2) (hA : ArithC) (w : World) : Calls Try.prog 4 #[] w fun e w' => e = .returned (.bool true) ∧ Below w.heap.size w w' := by
  have hR1 := hid (fun (bb g wd : Nat) (vn vo vl : Value) (w' : World) (h : BoxIs w.heap.size w' bb g wd vn vo vl [none, some [be1], none, none] s0) => hR w.heap.size bb g wd vn vo vl [none, some [be1], none, none] s0 1 0 9 (intV 5) none 0 w' h (fits_of (by kernel_rfl)) s0_fits (in_small _ (by decide)) (in_small _ (by decide)) (in_small _ (by decide)) (by simp [s0]) (safe_leaf _ ⟨in_small 1 (by decide), in_small 5 (by decide)⟩ rfl none) (by decide))
  have hR2 := hid (fun (bb g wd : Nat) (vn vo vl : Value) (w' : World) (h : BoxIs w.heap.size w' bb g wd vn vo vl [none, some [be1], none, none] s0) => hR w.heap.size bb g wd vn vo vl [none, some [be1], none, none] s0 0 0 9 v0 none 0 w' h (fits_of (by kernel_rfl)) s0_fits (in_small _ (by decide)) (in_small _ (by decide)) (in_small _ (by decide)) (by simp [s0]) (safe_leaf _ v0_fits rfl none) (by decide))
  unfold RunQ at hR1 hR2
  simp only [be1_run] at hR1
  simp only [be0_run] at hR2
  simp only [gotV, gotC, intV, v0, List.length_nil] at hR1 hR2
  have hA1 := hid (fun w => hA 4 1 2 w (in_small _ (by decide)) (in_small _ (by decide)))
  rw [be_arith] at hA1
  go_enter Try.func4, Try.ntmps4
  go_wp2_with (first
    | (go_at_call 8; refine (make_be w2).mono ?_; rintro e w3 ⟨ca, cc, rfl, hc3, q3⟩; have h4 := h1.quiet ((q2.trans q3).trans (Kp.alloc w3 (.cells #[.int .i64 0, .int .i64 0] 29))); obtain ⟨⟨k0, k1, k2, k3, k4⟩, kf⟩ := h4.one; have kz := h4.lt; have h5 := h4.put1 (l := [be1]) (hc3.kept (Kp.alloc w3 (.cells #[.int .i64 0, .int .i64 0] 29)) (fun _ _ _ _ _ e => e)) be1_bad; rw [s0_keep h4.ks, List.length_singleton] at h5; have H5 := hid (And.intro h5.1 (below_goes (((q1.trans (q2.trans q3)).trans (Kp.alloc w3 (.cells #[.int .i64 0, .int .i64 0] 29))).low) h4 h5.2)); clear h4 hc3 h1 h5)
    | (go_at_call 9; refine (Ex.num_any 2 _).mono ?_; rintro e w2 ⟨rfl, q2⟩)
    | (go_at_call 7; refine (hN w.heap.size w (Nat.le_refl _)).mono ?_; rintro e w1 ⟨bb, g, wd, vn, vo, vl, rfl, ⟨a, b, c, d, h1⟩, hb1, q1⟩))
  refine (hR1.out bb g wd vn vo vl _ ⟨_, _, _, _, H5.out.1⟩).mono ?_
  rintro e w6 ⟨ao6, cap6, vn6, vo6, vl6, he, _, ⟨a6, b6, c6, d6, hb6⟩, go6⟩
  subst he
  have l6 := below_goes H5.out.2 H5.out.1 go6
  have HQ := hid (hb6.quiet (Kp.alloc w6 (.cells #[.int .i64 1, .int .i64 7, .slice ao6 0 cap6] 40)))
  have HL := hid (low_of l6 (Kp.alloc w6 (.cells #[.int .i64 1, .int .i64 7, .slice ao6 0 cap6] 40)) (by have := hb6.lt; have := hb6.lo; omega))
  have HB := hid (heap_alloc_new w6 (.cells #[.int .i64 1, .int .i64 7, .slice ao6 0 cap6] 40))
  clear k0 k1 k2 k3 k4 kf kz H5 go6 hb6 l6 q1 q2 q3 hb1 hR1
  go_wp2_with fail
  refine (hR2.out bb g wd vn6 vo6 vl6 _ ⟨_, _, _, _, HQ.out⟩).mono ?_
  rintro e w8 ⟨ao8, cap8, vn8, vo8, vl8, he, _, ⟨a8, b8, c8, d8, hb8⟩, go8⟩
  subst he
  have hx := (go8.block HB.out (HQ.out.free HB.out (by decide) (by decide) (by decide) (by decide) (by decide) (by decide))).1
  obtain ⟨x0, x1, x2⟩ := box_cells hx
  have y1 := cell_on x1
  have HL8 := hid (below_goes HL.out HQ.out go8)
  have hz8 : w.heap.size ≤ w8.heap.size := by have := hb8.lt; have := hb8.lo; omega
  clear hx x0 x2 go8 hb8 HQ HL HB hR2
  go_wp2_with (go_at_call 5; refine (hA1.out _).mono ?_; rintro e w9 ⟨rfl, q9⟩)
  go_ret
  exact ⟨rfl, low_of (low_of HL8.out (Kp.alloc _ _) hz8) q9 (by simp; omega)⟩
end Go.Proofs.Ytpppgmkefpelaaa
namespace Go.Proofs.Ytpppgmkefpelaaa
open Go.ChangeShapes Go.WideShapes Go.ChangeAt Go.RowKit
set_option maxRecDepth 8000 in
set_option maxHeartbeats 4000000 in
theorem arithOf_any (k a b : Int) (w : World) : Calls Try.prog 6 #[.int .i64 k, .int .i64 a, .int .i64 b] w fun e w' => e = .returned (.int .i64 (arith k a b)) ∧ Quiet w w' := by
  by_cases h1 : k = 1
  · subst h1
    go_enter Try.func6, Try.ntmps6
    go_wp2
    go_ret
    exact ⟨by simp [arith], Kp.refl _ _⟩
  by_cases h2 : k = 2
  · subst h2
    go_enter Try.func6, Try.ntmps6
    go_wp2
    go_ret
    exact ⟨by simp [arith], Kp.refl _ _⟩
  by_cases h3 : k = 3
  · subst h3
    go_enter Try.func6, Try.ntmps6
    go_wp2
    go_ret
    exact ⟨by simp [arith], Kp.refl _ _⟩
  by_cases h4 : k = 4
  · subst h4
    by_cases hl : a < b
    · go_enter Try.func6, Try.ntmps6
      go_wp2
      go_ret
      exact ⟨by simp [arith, hl], Kp.refl _ _⟩
    · go_enter Try.func6, Try.ntmps6
      go_wp2
      go_ret
      exact ⟨by simp [arith, hl], Kp.refl _ _⟩
  by_cases h5 : k = 5
  · subst h5
    by_cases hl : a = b
    · subst hl
      go_enter Try.func6, Try.ntmps6
      go_wp2
      go_ret
      exact ⟨by simp [arith], Kp.refl _ _⟩
    · have e1 : (a == b) = false := by simpa using hl
      go_enter Try.func6, Try.ntmps6
      go_wp2
      go_ret
      exact ⟨by simp [arith, hl], Kp.refl _ _⟩
  have e1 : (k == 1) = false := by simpa using h1
  have e2 : (k == 2) = false := by simpa using h2
  have e3 : (k == 3) = false := by simpa using h3
  have e4 : (k == 4) = false := by simpa using h4
  have e5 : (k == 5) = false := by simpa using h5
  go_enter Try.func6, Try.ntmps6
  go_wp2
  go_ret
  exact ⟨by simp [arith, h1, h2, h3, h4, h5], Kp.refl _ _⟩
set_option maxRecDepth 8000 in
set_option maxHeartbeats 4000000 in
theorem arithLaw (hN : NewC) (hR : RunC2) (hA : ArithC) (W : World) (k a b : Int) (ha : In64 a) (hb : In64 b) :
    Calls Try.prog 3 #[.int .i64 k, .int .i64 a, .int .i64 b] W fun e w' => e = .returned (.bool true) ∧ Below W.heap.size W w' := by
  have HV := hid (vbegun_of hN hR hA W)
  have H1 := hid (fun w => hA k a b w ha hb)
  have H2 := hid (fun w => arithOf_any k a b w)
  generalize arith k a b = c at *
  go_enter Try.func3, Try.ntmps3
  go_wp2_with (first
    | (go_at_call 6; refine (H2.out w3).mono ?_; rintro e w4 ⟨rfl, q4⟩)
    | (go_at_call 5; refine (H1.out w2).mono ?_; rintro e w3 ⟨rfl, q3⟩)
    | (go_at_call 4; refine HV.out.mono ?_; rintro e w2 ⟨rfl, b2⟩))
  go_ret
  exact ⟨by simp, low_of (low_of b2 q3 b2.size) q4 (Nat.le_trans b2.size q3.size)⟩
end Go.Proofs.Ytpppgmkefpelaaa
namespace Go.Proofs.Ytpppgmkefpelaaa
open Go.ChangeShapes Go.WideShapes Go.ChangeAt Go.RowKit
/-- The block of a row. -/
abbrev blk (a : Option Addr) (n c : Nat) : Option Nat := (Value.slice a n c).ownBlock
/-- Two rows of values; each value stays whatever becomes of F and of both rows. -/
structure Two (F : Nat → Prop) (lo : Nat) (w : World) (sa : Option Addr) (n sc : Nat) (ps : List Kd) (na : Option Addr) (m nc : Nat) (qs : List Kd) : Prop where
  rs : w.ownsRow lo 40 3 (.slice sa n sc) n (tris ps)
  rn : w.ownsRow lo 40 3 (.slice na m nc) m (tris qs)
  ls : n = ps.length
  ln : m = qs.length
  ap : ∀ k, blk sa n sc = some k → blk na m nc ≠ some k
  all : ∀ p, p ∈ ps ∨ p ∈ qs → SafeF (fun k => F k ∨ blk sa n sc = some k ∨ blk na m nc = some k) (fun w => Is w p.1 p.2.1) w
section
variable {F F' : Nat → Prop} {lo : Nat} {w w' : World} {sa : Option Addr} {n sc : Nat} {ps : List Kd} {na : Option Addr} {m nc : Nat} {qs : List Kd}
theorem Two.nil (F : Nat → Prop) (lo : Nat) (w : World) : Two F lo w none 0 0 [] none 0 0 [] :=
  ⟨World.ownsRow_nil _ _ _ _, World.ownsRow_nil _ _ _ _, rfl, rfl, fun k e => by simp [Value.ownBlock] at e, fun p hp => by simp at hp⟩
/-- Other blocks turn. -/
theorem Two.goes (H : Two F lo w sa n sc ps na m nc qs) (q : Kp F w w') (hF : ∀ k, blk sa n sc = some k ∨ blk na m nc = some k → ¬ F k) (ho : ∀ k, F' k → F k ∨ w.heap.size ≤ k) : Two F' lo w' sa n sc ps na m nc qs := by
  refine ⟨q.row H.rs fun k e => hF k (.inl e), q.row H.rn fun k e => hF k (.inr e), H.ls, H.ln, H.ap, fun p hp => (H.all p hp).step (q.mono fun k _ e => .inl e) fun k hk e => ?_⟩
  rcases e with e | e
  · rcases ho k e with e | e
    · exact .inl e
    · omega
  · exact .inr e
theorem Two.quiet (H : Two F lo w sa n sc ps na m nc qs) (q : Quiet w w') : Two F lo w' sa n sc ps na m nc qs := by
  refine ⟨q.row H.rs fun _ _ e => e, q.row H.rn fun _ _ e => e, H.ls, H.ln, H.ap, fun p hp => (H.all p hp).step (q.mono fun _ _ e => e.elim) fun k _ e => e⟩
/-- One more value. -/
theorem Two.push {o : Obj} {g cap : Nat} {p : Kd} (H : Two F lo w sa n sc ps na m nc qs) (hv : SafeF (fun k => F k ∨ blk sa n sc = some k ∨ blk na m nc = some k) (fun w => Is w p.1 p.2.1) w)
    (hr : w'.ownsRow lo 40 3 (.slice (some ⟨g, 0, none⟩) (n + 1) cap) (n + 1) (tris ps ++ tri p)) (hg : (w.alloc o).grownBy w' (blk sa n sc)) (hat : blk sa n sc = some g ∨ g = w.heap.size + 1) :
    Two F lo w' (some ⟨g, 0, none⟩) (n + 1) cap (ps ++ [p]) na m nc qs ∧ Kp (fun k => blk sa n sc = some k) w w' := by
  have k1 : Kp (fun k => blk sa n sc = some k) w w' := (Kp.alloc w o).trans (Kp.grown hg fun k _ e => e.symm)
  refine ⟨⟨by rw [tris_app, tris_one]; exact hr, k1.row H.rn fun k e e2 => H.ap k e2 e, by rw [List.length_append, ← H.ls]; rfl, H.ln, fun k e e2 => ?_, fun x hx => ?_⟩, k1⟩
  · simp [Value.ownBlock] at e
    subst e
    rcases hat with e | e
    · exact H.ap g e e2
    · have := (H.rn.lt g e2).2; omega
  · have hs : SafeF (fun k => F k ∨ blk sa n sc = some k ∨ blk na m nc = some k) (fun w => Is w x.1 x.2.1) w := by
      rcases hx with hx | hx
      · rcases List.mem_append.1 hx with hx | hx
        · exact H.all x (.inl hx)
        · simp at hx; subst hx; exact hv
      · exact H.all x (.inr hx)
    refine hs.step (k1.mono fun k _ e => .inr (.inl e)) fun k hk e => ?_
    rcases e with e | e | e
    · exact .inl e
    · simp [Value.ownBlock] at e
      subst e
      rcases hat with e | e
      · exact .inr (.inl e)
      · omega
    · exact .inr (.inr e)
/-- One less. -/
theorem Two.pop {g : Nat} {p : Kd} (H : Two F lo w (some ⟨g, 0, none⟩) (n + 1) sc (ps ++ [p]) na m nc qs) : Two F lo w (some ⟨g, 0, none⟩) n sc ps na m nc qs ∧ SafeF (fun k => F k ∨ blk (some ⟨g, 0, none⟩) n sc = some k ∨ blk na m nc = some k) (fun w => Is w p.1 p.2.1) w ∧ ∀ j, j < 3 → w.cell? ⟨g, n * 3 + j, none⟩ = (tri p)[j]? := by
  have hr := H.rs
  rw [tris_app, tris_one] at hr
  obtain ⟨h1, h2⟩ := owns_pop hr rfl
  have hb : ∀ k : Nat, blk (some ⟨g, 0, none⟩) n sc = some k ↔ blk (some ⟨g, 0, none⟩) (n + 1) sc = some k := fun k => by simp [Value.ownBlock]
  have hl := H.ls
  rw [List.length_append] at hl
  refine ⟨⟨h1, H.rn, by simpa using hl, H.ln, fun k e => H.ap k ((hb k).1 e), fun x hx => (H.all x (by rcases hx with hx | hx; exact .inl (by simp [hx]); exact .inr hx)).mono fun k _ e => ?_⟩, (H.all p (.inl (by simp))).mono fun k _ e => ?_, h2⟩
  · rcases e with e | e | e
    · exact .inl e
    · exact .inr (.inl ((hb k).1 e))
    · exact .inr (.inr e)
  · rcases e with e | e | e
    · exact .inl e
    · exact .inr (.inl ((hb k).1 e))
    · exact .inr (.inr e)
/-- The other way round. -/
theorem Two.swap (H : Two F lo w sa n sc ps na m nc qs) : Two F lo w na m nc qs sa n sc ps :=
  ⟨H.rn, H.rs, H.ln, H.ls, fun k e e2 => H.ap k e2 e, fun p hp => (H.all p hp.symm).mono fun k _ e => by
    rcases e with e | e | e
    · exact .inl e
    · exact .inr (.inr e)
    · exact .inr (.inl e)⟩
/-- The cells of a value in the row. -/
theorem Two.cells (H : Two F lo w sa n sc ps na m nc qs) (i : Nat) (hi : i < n) : ∃ g, sa = some ⟨g, 0, none⟩ ∧ ∀ j, j < 3 → w.cell? ⟨g, i * 3 + j, none⟩ = (tri (ps[i]'(by rw [← H.ls]; exact hi)))[j]? := by
  obtain ⟨g, e, d⟩ := owns_at H.rs (by omega)
  exact ⟨g, e, fun j hj => by rw [d (i * 3 + j) (by omega), tris_at ps i j (by rw [← H.ls]; exact hi) hj]⟩
/-- A row of values is not the box's. -/
theorem Two.free {B bb g wd : Nat} {vn vo vl : Value} {ms : Mods} {s : Sg} {a b c d : Pg} (H : Two F lo w sa n sc ps na m nc qs) (hb : BoxS B w bb g wd vn vo vl ms s a b c d) : ∀ k, blk sa n sc = some k ∨ blk na m nc = some k → ¬ OwnB bb g wd vn vo vl k := by
  intro k hk
  have : ∃ cs, w.heap[k]? = some (.cells cs 40 (0, 0)) := by
    rcases hk with hk | hk
    · exact row_box H.rs hk
    · exact row_box H.rn hk
  obtain ⟨cs, hc⟩ := this
  exact hb.free hc (by decide) (by decide) (by decide) (by decide) (by decide) (by decide)
end
end Go.Proofs.Ytpppgmkefpelaaa
