/- A box in memory: its graph, its world, its plugins; what may turn in it, and what is not its own. A box goes on: by a step of its graph, of its world, by what is kept; what is asked of New and of Run, whatever way they go. The laws' own beginning, whatever way New, Run and Arith go. What is asked of Run: cells and the numbers of instructions fit. The numbers of small modules fit. The laws' own beginning: the walk. The document's own home in memory: made, and a module laid in it. Both boxes of the laws, with a module four times. What is sealed and opened, in plain mathematics. VmSeals, whatever way New, Run and Arith go. -/
import Derived.Test.YtpppgmkefpelaaaGreatUK0
import Derived.Test.YtpppgmkefpelaaaGreatUP0
import Derived.Test.YtpppgmkefpelaaaGreatUE4
import Derived.Test.YtpppgmkefpelaaaGreatUW0
import Derived.Test.YtpppgmkefpelaaaGreatUP1
import Derived.ProofKit
import Derived.Test.YtpppgmkefpelaaaGreatUE5
import Derived.Test.YtpppgmkefpelaaaGreatUV2
import Derived.Test.YtpppgmkefpelaaaGreatUV3
import Derived.Deep.RegionHeld3
namespace Go.Proofs.YtpppgmkefpelaaaGreat
open Go.ChangeShapes Go.WideShapes Go.ChangeAt Go.RowKit
open Gr (Nd Res nd0 thereB deriveOf addOf gateOf cutOf rightsN wayOf gatesOf gatesW targetOf Wf NdOk GS IntsAt)
/-- A plugin as it lies. -/
structure Pg where
  there : Bool
  code : Value
  kept : V
  ao : Option Addr
  cap : Nat
def Pg.cells (p : Pg) : List Value := [.bool p.there, p.code, .int .i64 p.kept.kind, .int .i64 p.kept.n, .slice p.ao p.kept.l.length p.cap]
/-- A box's cells. -/
def boxC (g wd : Nat) (a b c d : Pg) : List Value := [.pointer (some ⟨g, 0, none⟩), .pointer (some ⟨wd, 0, none⟩)] ++ (a.cells ++ (b.cells ++ (c.cells ++ d.cells)))
/-- The functions of a plugin lie there, as instructions. -/
def CodeAt (w : World) (code : Value) (l : List Ex.V) : Prop := ∃ ao cap ps, code = .slice ao l.length cap ∧ Ex.Md 0 w code l.length ps ∧ ps.map (·.1) = l.map Ex.funC
/-- The memory of a box. -/
def OwnB (bb g wd : Nat) (vn vo vl : Value) (k : Nat) : Prop := k = bb ∨ Gr.Own g vn vo k ∨ Wo.Own wd vl k
/-- What a plugin is. -/
structure PgS (w : World) (F : Nat → Prop) (m : Option (List Ex.V)) (p : Pg) : Prop where
  there : p.there = m.isSome
  code : ∀ l, m = some l → CodeAt w p.code l ∧ ∀ v ∈ l, v.bad l.length 0 = 0
  shape : ∃ ao n cap, p.code = .slice ao n cap
  kept : SafeF F (fun w => Is w p.kept p.ao) w
  good : p.kept.check = 0
/-- A box with a state, and modules. -/
structure BoxS (B : Nat) (w : World) (bb g wd : Nat) (vn vo vl : Value) (ms : Mods) (s : Sg) (a b c d : Pg) : Prop where
  obj : w.heap[bb]? = some (.cells (boxC g wd a b c d).toArray 56 (0, 0))
  gs : GS 114 B w g vn vo s.ns s.os
  wf : Wf s.ns s.os.length
  ws : Wo.WS B w wd s.cs vl s.es
  ks : s.ks = [a.kept, b.kept, c.kept, d.kept]
  lo : B ≤ bb
  mods : ∃ ma mb mc md, ms = [ma, mb, mc, md] ∧ PgS w (OwnB bb g wd vn vo vl) ma a ∧ PgS w (OwnB bb g wd vn vo vl) mb b ∧ PgS w (OwnB bb g wd vn vo vl) mc c ∧ PgS w (OwnB bb g wd vn vo vl) md d
/-- A block of another type is not the world's. -/
theorem Wo.WS.free_type {B : Nat} {w : World} {b : Nat} {cs : List Int} {v : Value} {es : List Wo.Ent} (h : Wo.WS B w b cs v es) {k : Nat} {c : Array Value} {t' : TypeId} (hk : w.heap[k]? = some (.cells c t' (0, 0))) (h1 : t' ≠ 117) (h2 : t' ≠ 189) : ¬ Wo.Own b v k := by
  rintro (rfl | e)
  · rw [h.obj.block] at hk; simp at hk; exact h1 hk.2.symm
  · rcases h.row.2 with ⟨rfl, _⟩ | ⟨g, cap, cur, rfl, _, hg, _⟩
    · simp [Value.ownBlock] at e
    · simp [Value.ownBlock] at e
      subst e
      rw [hk] at hg
      simp at hg
      exact h2 hg.2
section
variable {B : Nat} {w w' : World} {bb g wd : Nat} {vn vo vl : Value} {ms : Mods} {s : Sg} {a b c d : Pg}
theorem BoxS.lt (h : BoxS B w bb g wd vn vo vl ms s a b c d) : bb < w.heap.size := lt_of_block h.obj
theorem BoxS.own (h : BoxS B w bb g wd vn vo vl ms s a b c d) (k : Nat) (hk : OwnB bb g wd vn vo vl k) : B ≤ k ∧ k < w.heap.size := by
  rcases hk with rfl | e | e
  · exact ⟨h.lo, h.lt⟩
  · exact h.gs.own k e
  · exact h.ws.own_lt k e
/-- A block of another type is not the box's. -/
theorem BoxS.free (h : BoxS B w bb g wd vn vo vl ms s a b c d) {k : Nat} {cs : Array Value} {t : TypeId} (hk : w.heap[k]? = some (.cells cs t (0, 0))) (h0 : t ≠ 56) (h1 : t ≠ 114) (h2 : t ≠ 127) (h3 : t ≠ 4) (h4 : t ≠ 117) (h5 : t ≠ 189) : ¬ OwnB bb g wd vn vo vl k := by
  rintro (rfl | e | e)
  · rw [h.obj] at hk; simp at hk; exact h0 hk.2.symm
  · exact h.gs.free_type hk h1 h2 h3 e
  · exact h.ws.free_type hk h4 h5 e
theorem BoxS.new (h : BoxS B w bb g wd vn vo vl ms s a b c d) (k : Nat) (hk : w.heap.size ≤ k) : ¬ OwnB bb g wd vn vo vl k := fun e => by have := (h.own k e).2; omega
/-- What lies in rows of instructions stays. -/
theorem CodeAt.kept {F : Nat → Prop} {code : Value} {l : List Ex.V} (h : CodeAt w code l) (q : Kp F w w') (hF : ∀ (k : Nat) (cs : Array Value) (t : TypeId), w.heap[k]? = some (.cells cs t (0, 0)) → t = 92 ∨ t = 86 → ¬ F k) : CodeAt w' code l := by
  obtain ⟨ao, cap, ps, e, m, hp⟩ := h
  refine ⟨ao, cap, ps, e, ⟨q.row m.row fun k hk => ?_, m.len, fun p hp => q.row (m.all p hp) fun k hk => ?_⟩, hp⟩
  · rcases m.row.2 with ⟨e, _⟩ | ⟨g, cp, cur, e, _, hg, _⟩
    · rw [e] at hk; simp [Value.ownBlock] at hk
    · rw [e] at hk; simp [Value.ownBlock] at hk; subst hk; exact hF _ _ _ hg (.inr rfl)
  · rcases (m.all p hp).2 with ⟨e, _⟩ | ⟨g, cp, cur, e, _, hg, _⟩
    · rw [e] at hk; simp [Value.ownBlock] at hk
    · rw [e] at hk; simp [Value.ownBlock] at hk; subst hk; exact hF _ _ _ hg (.inl rfl)
end
end Go.Proofs.YtpppgmkefpelaaaGreat
namespace Go.Proofs.YtpppgmkefpelaaaGreat
open Go.ChangeShapes Go.WideShapes Go.ChangeAt Go.RowKit
open Gr (Nd Res nd0 thereB deriveOf addOf gateOf cutOf rightsN wayOf gatesOf gatesW targetOf Wf NdOk GS IntsAt)
/-- What a step of a box may do. -/
structure GoesB (bb g wd : Nat) (vn vo vl : Value) (w : World) (vn' vo' vl' : Value) (w' : World) : Prop where
  kp : Kp (OwnB bb g wd vn vo vl) w w'
  own : ∀ k, OwnB bb g wd vn' vo' vl' k → OwnB bb g wd vn vo vl k ∨ w.heap.size ≤ k
section
variable {B : Nat} {w w' w2 : World} {bb g wd : Nat} {vn vo vl vn' vo' vl' vn2 vo2 vl2 : Value} {ms : Mods} {s : Sg} {a b c d : Pg}
theorem GoesB.refl (bb g wd : Nat) (vn vo vl : Value) (w : World) : GoesB bb g wd vn vo vl w vn vo vl w := ⟨Kp.refl _ _, fun _ e => .inl e⟩
theorem GoesB.quiet (bb g wd : Nat) (vn vo vl : Value) (q : Quiet w w') : GoesB bb g wd vn vo vl w vn vo vl w' := ⟨q.mono fun _ _ e => e.elim, fun _ e => .inl e⟩
theorem GoesB.trans (h : GoesB bb g wd vn vo vl w vn' vo' vl' w') (k : GoesB bb g wd vn' vo' vl' w' vn2 vo2 vl2 w2) : GoesB bb g wd vn vo vl w vn2 vo2 vl2 w2 := by
  refine ⟨⟨k.kp.os.trans h.kp.os, k.kp.tape.trans h.kp.tape, k.kp.output.trans h.kp.output, Nat.le_trans h.kp.size k.kp.size, fun i hi hF => ?_⟩, fun i hi => ?_⟩
  · refine (k.kp.block i (Nat.lt_of_lt_of_le hi h.kp.size) fun e => ?_).trans (h.kp.block i hi hF)
    rcases h.own i e with e | e
    · exact hF e
    · omega
  · rcases k.own i hi with e | e
    · exact h.own i e
    · exact .inr (Nat.le_trans h.kp.size e)
theorem GoesB.fresh (h : GoesB bb g wd vn vo vl w vn' vo' vl' w') (k : Kp (fun i => w.heap.size ≤ i) w' w2) : GoesB bb g wd vn vo vl w vn' vo' vl' w2 := ⟨h.kp.fresh k, h.own⟩
theorem GoesB.after (q : Quiet w w2) (h : GoesB bb g wd vn vo vl w2 vn' vo' vl' w') : GoesB bb g wd vn vo vl w vn' vo' vl' w' :=
  ⟨(q.mono fun _ _ e => e.elim).trans h.kp, fun k e => by rcases h.own k e with e | e; exact .inl e; exact .inr (Nat.le_trans q.size e)⟩
theorem GoesB.safe {P : World → Prop} (h : GoesB bb g wd vn vo vl w vn' vo' vl' w') (hs : SafeF (OwnB bb g wd vn vo vl) P w) : SafeF (OwnB bb g wd vn' vo' vl') P w' :=
  hs.step h.kp fun k hk e => by
    rcases h.own k e with e | e
    · exact e
    · omega
theorem GoesB.block (hg : GoesB bb g wd vn vo vl w vn' vo' vl' w') {x : Nat} {o : Obj} (hx : w.heap[x]? = some o) (hn : ¬ OwnB bb g wd vn vo vl x) : w'.heap[x]? = some o ∧ ¬ OwnB bb g wd vn' vo' vl' x := by
  have hl : x < w.heap.size := (Array.getElem?_eq_some_iff.1 hx).1
  refine ⟨(hg.kp.block x hl hn).trans hx, fun e => ?_⟩
  rcases hg.own x e with e | e
  · exact hn e
  · omega
theorem PgS.goes {m : Option (List Ex.V)} {p : Pg} (H : BoxS B w bb g wd vn vo vl ms s a b c d) (h : PgS w (OwnB bb g wd vn vo vl) m p) (hg : GoesB bb g wd vn vo vl w vn' vo' vl' w') : PgS w' (OwnB bb g wd vn' vo' vl') m p :=
  ⟨h.there, fun l hl => ⟨(h.code l hl).1.kept hg.kp fun k cs t hk ht => by
      rcases ht with rfl | rfl
      · exact H.free hk (by decide) (by decide) (by decide) (by decide) (by decide) (by decide)
      · exact H.free hk (by decide) (by decide) (by decide) (by decide) (by decide) (by decide), (h.code l hl).2⟩, h.shape, hg.safe h.kept, h.good⟩
/-- A box whose own block stays. -/
theorem BoxS.move {s' : Sg} (H : BoxS B w bb g wd vn vo vl ms s a b c d) (hg : GoesB bb g wd vn vo vl w vn' vo' vl' w') (hb : w'.heap[bb]? = w.heap[bb]?) (hgs : GS 114 B w' g vn' vo' s'.ns s'.os) (hwf : Wf s'.ns s'.os.length) (hws : Wo.WS B w' wd s'.cs vl' s'.es) (hks : s'.ks = s.ks) : BoxS B w' bb g wd vn' vo' vl' ms s' a b c d := by
  obtain ⟨ma, mb, mc, md, e, ha, hb', hc, hd⟩ := H.mods
  exact ⟨hb.trans H.obj, hgs, hwf, hws, hks.trans H.ks, H.lo, ma, mb, mc, md, e, ha.goes H hg, hb'.goes H hg, hc.goes H hg, hd.goes H hg⟩
theorem BoxS.quiet (H : BoxS B w bb g wd vn vo vl ms s a b c d) (q : Quiet w w') : BoxS B w' bb g wd vn vo vl ms s a b c d :=
  H.move (GoesB.quiet _ _ _ _ _ _ q) (q.block _ H.lt fun e => e) (H.gs.quiet q) H.wf (H.ws.kept q fun _ _ e => e) rfl
/-- Other blocks turn. -/
theorem BoxS.kept {F : Nat → Prop} (H : BoxS B w bb g wd vn vo vl ms s a b c d) (q : Kp F w w') (hF : ∀ k, OwnB bb g wd vn vo vl k → ¬ F k)
    (hm : ∀ p, p = a ∨ p = b ∨ p = c ∨ p = d → ∀ m, PgS w (OwnB bb g wd vn vo vl) m p → PgS w' (OwnB bb g wd vn vo vl) m p) : BoxS B w' bb g wd vn vo vl ms s a b c d := by
  obtain ⟨ma, mb, mc, md, e, ha, hb, hc, hd⟩ := H.mods
  exact ⟨(q.block _ H.lt (hF _ (.inl rfl))).trans H.obj, H.gs.kept q fun k e => hF k (.inr (.inl e)), H.wf, H.ws.kept q fun k e => hF k (.inr (.inr e)), H.ks, H.lo, ma, mb, mc, md, e, hm a (.inl rfl) _ ha, hm b (.inr (.inl rfl)) _ hb, hm c (.inr (.inr (.inl rfl))) _ hc, hm d (.inr (.inr (.inr rfl))) _ hd⟩
/-- A block of the graph is none of the world's, nor the box itself. -/
theorem BoxS.apart (H : BoxS B w bb g wd vn vo vl ms s a b c d) : (∀ k, Gr.Own g vn vo k → k ≠ bb ∧ ¬ Wo.Own wd vl k) ∧ ∀ k, Wo.Own wd vl k → k ≠ bb ∧ ¬ Gr.Own g vn vo k := by
  have h1 : ¬ Gr.Own g vn vo bb := H.gs.free_type H.obj (by decide) (by decide) (by decide)
  have h2 : ¬ Wo.Own wd vl bb := H.ws.free_type H.obj (by decide) (by decide)
  have h3 : ∀ k, Wo.Own wd vl k → ¬ Gr.Own g vn vo k := by
    rintro k (rfl | e)
    · exact H.gs.free_type H.ws.obj.block (by decide) (by decide) (by decide)
    · rcases H.ws.row.2 with ⟨rfl, _⟩ | ⟨g', cap, cur, rfl, _, hh, _⟩
      · simp [Value.ownBlock] at e
      · simp [Value.ownBlock] at e
        subst e
        exact H.gs.free_type hh (by decide) (by decide) (by decide)
  exact ⟨fun k hk => ⟨fun e => h1 (e ▸ hk), fun e => h3 k e hk⟩, fun k hk => ⟨fun e => h2 (e ▸ hk), h3 k hk⟩⟩
/-- A step of its graph. -/
theorem BoxS.graph {ns' : List Nd} {os' : List Bool} (H : BoxS B w bb g wd vn vo vl ms s a b c d) (hg : Gr.Goes g vn vo w vn' vo' w') (hgs : GS 114 B w' g vn' vo' ns' os') (hwf : Wf ns' os'.length) :
    BoxS B w' bb g wd vn' vo' vl ms { s with ns := ns', os := os' } a b c d ∧ GoesB bb g wd vn vo vl w vn' vo' vl w' := by
  have G : GoesB bb g wd vn vo vl w vn' vo' vl w' := ⟨hg.kp.mono fun k _ e => .inr (.inl e), fun k e => by
    rcases e with e | e | e
    · exact .inl (.inl e)
    · rcases hg.own k e with e | e
      · exact .inl (.inr (.inl e))
      · exact .inr e
    · exact .inl (.inr (.inr e))⟩
  exact ⟨H.move G (hg.kp.block _ H.lt fun e => (H.apart.1 _ e).1 rfl) hgs hwf (H.ws.kept hg.kp fun k e => (H.apart.2 k e).2) rfl, G⟩
/-- A step of its world. -/
theorem BoxS.world {cs' : List Int} {es' : List Wo.Ent} (H : BoxS B w bb g wd vn vo vl ms s a b c d) (hg : Wo.Goes wd vl w vl' w') (hws : Wo.WS B w' wd cs' vl' es') :
    BoxS B w' bb g wd vn vo vl' ms { s with cs := cs', es := es' } a b c d ∧ GoesB bb g wd vn vo vl w vn vo vl' w' := by
  have G : GoesB bb g wd vn vo vl w vn vo vl' w' := ⟨hg.kp.mono fun k _ e => .inr (.inr e), fun k e => by
    rcases e with e | e | e
    · exact .inl (.inl e)
    · exact .inl (.inr (.inl e))
    · rcases hg.own k e with e | e
      · exact .inl (.inr (.inr e))
      · exact .inr e⟩
  exact ⟨H.move G (hg.kp.block _ H.lt fun e => (H.apart.2 _ e).1 rfl) (H.gs.kept hg.kp fun k e => (H.apart.1 k e).2) H.wf hws rfl, G⟩
end
/-- A value that is told, or a zero with a code. -/
def gotV : Except Int V → V
  | .ok v => v
  | .error _ => v0
def gotC : Except Int V → Int
  | .ok _ => 0
  | .error c => c
/-- A state of a box, somewhere. -/
def BoxIs (B : Nat) (w : World) (bb g wd : Nat) (vn vo vl : Value) (ms : Mods) (s : Sg) : Prop := ∃ a b c d, BoxS B w bb g wd vn vo vl ms s a b c d
/-- What is told of a run. -/
def RunQ (B bb g wd : Nat) (vn vo vl : Value) (ms : Mods) (R : Except Int V × Int × Sg) (w : World) (e : Ending) (w' : World) : Prop :=
  ∃ ao cap vn' vo' vl', e = .returned (.tuple #[.agg #[.int .i64 (gotV R.1).kind, .int .i64 (gotV R.1).n, .slice ao (gotV R.1).l.length cap], .int .i64 R.2.1, .int .i64 (gotC R.1)]) ∧ SafeF (OwnB bb g wd vn' vo' vl') (fun w => Is w (gotV R.1) ao) w' ∧ BoxIs B w' bb g wd vn' vo' vl' ms R.2.2 ∧ GoesB bb g wd vn vo vl w vn' vo' vl' w'
/-- The state of a new box. -/
def s0 : Sg := ⟨[], [], Wo.zeros, [], [v0, v0, v0, v0]⟩
/-- The contract of New. -/
def NewC : Prop := ∀ (B : Nat) (w : World), B ≤ w.heap.size → Calls Tryz.prog 10 #[] w fun e w' => ∃ bb g wd vn vo vl, e = .returned (.pointer (some ⟨bb, 0, none⟩)) ∧ BoxIs B w' bb g wd vn vo vl [none, none, none, none] s0 ∧ w.heap.size ≤ bb ∧ Quiet w w'
/-- The contract of Arith. -/
def ArithC : Prop := ∀ (k a b : Int) (w : World), In64 a → In64 b → Calls Tryz.prog 13 #[.int .i64 k, .int .i64 a, .int .i64 b] w fun e w' => e = .returned (.int .i64 (arith k a b)) ∧ Quiet w w'
end Go.Proofs.YtpppgmkefpelaaaGreat
namespace Go.Proofs.YtpppgmkefpelaaaGreat
open Go.ChangeShapes Go.WideShapes Go.ChangeAt Go.RowKit
open Gr (Nd Res nd0 thereB deriveOf addOf gateOf cutOf rightsN wayOf gatesOf gatesW targetOf Wf NdOk GS IntsAt)
section
variable {B : Nat} {w w' w2 : World} {bb g wd : Nat} {vn vo vl vn' vo' vl' vn2 vo2 vl2 : Value} {ms : Mods} {s : Sg} {a b c d : Pg}
/-- The box's own block turns. -/
theorem BoxS.put {s' : Sg} {a' b' c' d' : Pg} {ma mb mc md : Option (List Ex.V)} (H : BoxS B w bb g wd vn vo vl ms s a b c d) (hk : Kp (fun k => k = bb) w w') (hb : w'.heap[bb]? = some (.cells (boxC g wd a' b' c' d').toArray 56 (0, 0))) (hs : s' = { s with ks := [a'.kept, b'.kept, c'.kept, d'.kept] })
    (ha : PgS w (OwnB bb g wd vn vo vl) ma a') (hb' : PgS w (OwnB bb g wd vn vo vl) mb b') (hc : PgS w (OwnB bb g wd vn vo vl) mc c') (hd : PgS w (OwnB bb g wd vn vo vl) md d') :
    BoxS B w' bb g wd vn vo vl [ma, mb, mc, md] s' a' b' c' d' ∧ GoesB bb g wd vn vo vl w vn vo vl w' := by
  have G : GoesB bb g wd vn vo vl w vn vo vl w' := ⟨hk.mono fun k _ e => .inl e, fun k e => .inl e⟩
  subst hs
  exact ⟨⟨hb, H.gs.kept hk fun k hk e => (H.apart.1 k hk).1 e, H.wf, H.ws.kept hk fun k hk e => (H.apart.2 k hk).1 e, rfl, H.lo, ma, mb, mc, md, rfl, ha.goes H G, hb'.goes H G, hc.goes H G, hd.goes H G⟩, G⟩
end
theorem five_set (w : World) (x o : Nat) (a b c d e : Value) : Kp (fun k => k = x) w (((((w.setCell ⟨x, o, none⟩ a).setCell ⟨x, o + 1, none⟩ b).setCell ⟨x, o + 2, none⟩ c).setCell ⟨x, o + 3, none⟩ d).setCell ⟨x, o + 4, none⟩ e) := ((((kp_set _ _ _ _).trans (kp_set _ _ _ _)).trans (kp_set _ _ _ _)).trans (kp_set _ _ _ _)).trans (kp_set _ _ _ _)
/-- What a new plugin is. -/
theorem pgs_new {w : World} {F : Nat → Prop} {l : List Ex.V} {ao : Option Addr} {cap : Nat} (hc : CodeAt w (.slice ao l.length cap) l) (hl : ∀ v ∈ l, v.bad l.length 0 = 0) : PgS w F (some l) ⟨true, .slice ao l.length cap, v0, none, 0⟩ :=
  ⟨rfl, fun l' e => by cases e; exact ⟨hc, hl⟩, ⟨_, _, _, rfl⟩, safe_leaf v0 v0_fits rfl none, show v0.check = 0 by decide⟩
/-- What Make made lies there. -/
theorem made_at {w w' : World} {l : List Ex.V} {ao : Option Addr} {cap : Nat} {ps : List Ex.Ls} (h : Ex.Md w.heap.size w' (.slice ao l.length cap) l.length ps) (hp : ps.map (·.1) = l.map Ex.funC) : CodeAt w' (.slice ao l.length cap) l := ⟨ao, cap, ps, rfl, h.mono (Nat.zero_le _), hp⟩
def be1 : Ex.V := ⟨6, 1, 0, [⟨3, 0, 0, []⟩, ⟨2, 0, 2, []⟩]⟩
theorem be1_fault : Ex.modFault [be1] = (0, 0) := by decide
theorem be1_bad : ∀ v ∈ [be1], v.bad 1 0 = 0 := by intro v hv; simp at hv; subst hv; decide
theorem be1_run : runR [none, some [be1], none, none] 1 0 (intV 5) 9 s0 = (.ok (intV 7), 3, s0) := by kernel_rfl
theorem be0_run : runR [none, some [be1], none, none] 0 0 v0 9 s0 = (.error 8, 0, s0) := by rfl
theorem be_arith : arith 4 1 2 = 1 := by decide
/-- The module of the beginning lies there. -/
theorem be1_fo (w : World) : Ex.Fo (Ex.cln ((w.alloc (.cells #[.int .i64 3, .int .i64 0, .int .i64 0, .slice none 0 0, .int .i64 2, .int .i64 0, .int .i64 2, .slice none 0 0] 31)).alloc (.cells #[.int .i64 6, .int .i64 1, .int .i64 0, .slice (some ⟨w.heap.size, 0, none⟩) 2 2] 31))) [be1] (some ⟨w.heap.size + 1, 0, none⟩) := by
  have b0 := Ex.cln_same (show ((w.alloc (.cells #[.int .i64 3, .int .i64 0, .int .i64 0, .slice none 0 0, .int .i64 2, .int .i64 0, .int .i64 2, .slice none 0 0] 31)).alloc (.cells #[.int .i64 6, .int .i64 1, .int .i64 0, .slice (some ⟨w.heap.size, 0, none⟩) 2 2] 31)).heap[w.heap.size]? = some (.cells #[.int .i64 3, .int .i64 0, .int .i64 0, .slice none 0 0, .int .i64 2, .int .i64 0, .int .i64 2, .slice none 0 0] 31 (0, 0)) by rw [Below.heap_alloc _ _ _ (by simp)]; exact heap_alloc_new w _)
  have b1 := Ex.cln_same (heap_two w (.cells #[.int .i64 3, .int .i64 0, .int .i64 0, .slice none 0 0, .int .i64 2, .int .i64 0, .int .i64 2, .slice none 0 0] 31) (.cells #[.int .i64 6, .int .i64 1, .int .i64 0, .slice (some ⟨w.heap.size, 0, none⟩) 2 2] 31))
  have in64 : ∀ z : Int, 0 ≤ z ∧ z ≤ 100 → In64 z := fun z h => ⟨by omega, by omega⟩
  have fit : ∀ (k kk n : Int) (l : List Ex.V), (0 ≤ k ∧ k ≤ 100) → (0 ≤ kk ∧ kk ≤ 100) → (0 ≤ n ∧ n ≤ 100) → Ex.V.fits ⟨k, kk, n, l⟩ := fun k kk n l h1 h2 h3 => ⟨in64 k h1, in64 kk h2, in64 n h3⟩
  intro i hi
  obtain rfl : i = 0 := by simp at hi; omega
  refine ⟨w.heap.size + 1, 0, rfl, (Ex.at_iff _ _ _ _).2 ⟨⟨?_, ?_, ?_⟩, some ⟨w.heap.size, 0, none⟩, 2, ?_, fit _ _ _ _ (by decide) (by decide) (by decide), fun j hj => ?_⟩⟩
  · simp [World.cell?, b1, be1]
  · simp [World.cell?, b1, be1]
  · simp [World.cell?, b1, be1]
  · simp [World.cell?, b1, be1]
  · have hj2 : j < 2 := hj
    match j, hj2 with
    | 0, _ => exact ⟨w.heap.size, 0, rfl, (Ex.at_iff _ _ _ _).2 ⟨⟨by simp [World.cell?, b0, be1], by simp [World.cell?, b0, be1], by simp [World.cell?, b0, be1]⟩, none, 0, by simp [World.cell?, b0, be1], fit _ _ _ _ (by decide) (by decide) (by decide), Ex.Fo.nil _ _⟩⟩
    | 1, _ => exact ⟨w.heap.size, 0, rfl, (Ex.at_iff _ _ _ _).2 ⟨⟨by simp [World.cell?, b0, be1], by simp [World.cell?, b0, be1], by simp [World.cell?, b0, be1]⟩, none, 0, by simp [World.cell?, b0, be1], fit _ _ _ _ (by decide) (by decide) (by decide), Ex.Fo.nil _ _⟩⟩
end Go.Proofs.YtpppgmkefpelaaaGreat
namespace Go.Proofs.YtpppgmkefpelaaaGreat
/-- The numbers of all instructions fit. -/
def FitsM (ms : Mods) : Prop := ∀ (j : Nat) (l : List Ex.V), ms.getD j none = some l → ∀ x ∈ l, ∀ i ∈ Ex.funC x, In64 i.n
/-- The contract of Run. -/
def RunC2 : Prop := ∀ (B bb g wd : Nat) (vn vo vl : Value) (ms : Mods) (s : Sg) (p f fuel : Int) (v : V) (ao : Option Addr) (cap : Nat) (w : World), BoxIs B w bb g wd vn vo vl ms s → FitsM ms → (∀ c ∈ s.cs, In64 c) → In64 p → In64 f → In64 fuel → s.es.length ≤ 900000 →
    SafeF (OwnB bb g wd vn vo vl) (fun w => Is w v ao) w → v.size ≤ 500 →
    Calls Tryz.prog 8 #[.pointer (some ⟨bb, 0, none⟩), .int .i64 p, .int .i64 f, .agg #[.int .i64 v.kind, .int .i64 v.n, .slice ao v.l.length cap], .int .i64 fuel] w fun e w' => RunQ B bb g wd vn vo vl ms (runR ms p f v fuel s) w e w'
end Go.Proofs.YtpppgmkefpelaaaGreat
namespace Go.Proofs.YtpppgmkefpelaaaGreat
def fitsB (ms : Mods) : Bool := ms.all fun m => match m with
  | none => true
  | some l => l.all fun x => (Ex.funC x).all fun i => decide (0 ≤ i.n ∧ i.n ≤ 100)
theorem fits_of {ms : Mods} (h : fitsB ms = true) : FitsM ms := by
  intro j l hl x hx i hi
  have h1 : some l ∈ ms := by
    rw [List.getD_eq_getElem?_getD] at hl
    cases e : ms[j]? with
    | none => rw [e] at hl; cases hl
    | some m =>
      rw [e] at hl
      simp only [Option.getD_some] at hl
      subst hl
      exact List.mem_of_getElem? e
  have h2 := List.all_eq_true.1 h _ h1
  simp only at h2
  have h3 := List.all_eq_true.1 h2 x hx
  have h4 := of_decide_eq_true (List.all_eq_true.1 h3 i hi)
  exact ⟨by omega, by omega⟩
theorem s0_fits : ∀ c ∈ s0.cs, In64 c := by
  intro c hc
  have : c = 0 := by
    simpa [s0, Wo.zeros] using hc
  subst this
  exact ⟨by decide, by decide⟩
end Go.Proofs.YtpppgmkefpelaaaGreat
namespace Go.Proofs.YtpppgmkefpelaaaGreat
open Go.ChangeShapes Go.WideShapes Go.ChangeAt Go.RowKit
open Gr (Nd Res nd0 thereB deriveOf addOf gateOf cutOf rightsN wayOf gatesOf gatesW targetOf Wf NdOk GS IntsAt)
/-- What Make makes of the beginning's module. -/
theorem make_be (w : World) : Calls Tryz.prog 11 #[.agg #[.slice (some ⟨w.heap.size + 1, 0, none⟩) 1 1]] ((w.alloc (.cells #[.int .i64 3, .int .i64 0, .int .i64 0, .slice none 0 0, .int .i64 2, .int .i64 0, .int .i64 2, .slice none 0 0] 31)).alloc (.cells #[.int .i64 6, .int .i64 1, .int .i64 0, .slice (some ⟨w.heap.size, 0, none⟩) 2 2] 31)) fun e w' =>
    ∃ ao cap, e = .returned (.tuple #[.slice ao 1 cap, .agg #[.int .i64 0, .int .i64 0]]) ∧ CodeAt w' (.slice ao 1 cap) [be1] ∧ Quiet w w' := by
  refine (Ex.make_any [be1] (some ⟨w.heap.size + 1, 0, none⟩) 1 _ (be1_fo w) (by decide)).mono ?_
  rintro e w' ⟨f, hf, q, ⟨h0, _⟩ | ⟨_, ao, cap, ps, rfl, hm, hp⟩⟩
  · rw [hf, be1_fault] at h0; exact absurd rfl h0
  · exact ⟨ao, cap, rfl, made_at hm hp, ((Kp.alloc _ _).trans (Kp.alloc _ _)).trans q⟩
theorem BoxS.one {B : Nat} {w : World} {bb g wd : Nat} {vn vo vl : Value} {ms : Mods} {s : Sg} {a b c d : Pg} (H : BoxS B w bb g wd vn vo vl ms s a b c d) :
    (w.cell? ⟨bb, 7, none⟩ = some (.bool b.there) ∧ w.cell? ⟨bb, 8, none⟩ = some b.code ∧ w.cell? ⟨bb, 9, none⟩ = some (.int .i64 b.kept.kind) ∧ w.cell? ⟨bb, 10, none⟩ = some (.int .i64 b.kept.n) ∧ w.cell? ⟨bb, 11, none⟩ = some (.slice b.ao b.kept.l.length b.cap)) ∧ ∀ j, w.frozen? ⟨bb, j, none⟩ = false := by
  refine ⟨⟨?_, ?_, ?_, ?_, ?_⟩, fun j => frozen_of_row w bb j _ 56 H.obj⟩ <;> simp [World.cell?, H.obj, boxC, Pg.cells]
/-- The second plugin is another one. -/
theorem BoxS.put1 {B : Nat} {w : World} {bb g wd : Nat} {vn vo vl : Value} {ma mb mc md : Option (List Ex.V)} {s : Sg} {a b c d : Pg} (H : BoxS B w bb g wd vn vo vl [ma, mb, mc, md] s a b c d) {l : List Ex.V} {ao : Option Addr} {cap : Nat} (hc : CodeAt w (.slice ao l.length cap) l) (hl : ∀ v ∈ l, v.bad l.length 0 = 0) :
    BoxS B (((((w.setCell ⟨bb, 7, none⟩ (.bool true)).setCell ⟨bb, 8, none⟩ (.slice ao l.length cap)).setCell ⟨bb, 9, none⟩ (.int .i64 0)).setCell ⟨bb, 10, none⟩ (.int .i64 0)).setCell ⟨bb, 11, none⟩ (.slice none 0 0)) bb g wd vn vo vl [ma, some l, mc, md] { s with ks := [a.kept, v0, c.kept, d.kept] } a ⟨true, .slice ao l.length cap, v0, none, 0⟩ c d ∧
    GoesB bb g wd vn vo vl w vn vo vl (((((w.setCell ⟨bb, 7, none⟩ (.bool true)).setCell ⟨bb, 8, none⟩ (.slice ao l.length cap)).setCell ⟨bb, 9, none⟩ (.int .i64 0)).setCell ⟨bb, 10, none⟩ (.int .i64 0)).setCell ⟨bb, 11, none⟩ (.slice none 0 0)) := by
  obtain ⟨na, nb, nc, nd, e, ha, _, hc', hd⟩ := H.mods
  simp only [List.cons.injEq, and_true] at e
  obtain ⟨rfl, rfl, rfl, rfl⟩ := e
  refine H.put (five_set w bb 7 _ _ _ _ _) ?_ rfl ha (pgs_new hc hl) hc' hd
  simp [World.setCell, Array.getElem?_modify, H.obj, boxC, Pg.cells, v0]
theorem s0_keep {a b c d : Pg} (h : s0.ks = [a.kept, b.kept, c.kept, d.kept]) : ({ s0 with ks := [a.kept, v0, c.kept, d.kept] } : Sg) = s0 := by
  simp only [s0, List.cons.injEq, and_true] at h
  obtain ⟨h1, _, h3, h4⟩ := h
  rw [← h1, ← h3, ← h4]; rfl
theorem in_small (z : Int) (h : 0 ≤ z ∧ z ≤ 100) : In64 z := ⟨by omega, by omega⟩
theorem below_goes {B bb g wd : Nat} {vn vo vl vn' vo' vl' : Value} {ms : Mods} {s : Sg} {a b c d : Pg} {w0 w w' : World} (h0 : Below B w0 w) (H : BoxS B w bb g wd vn vo vl ms s a b c d) (hg : GoesB bb g wd vn vo vl w vn' vo' vl' w') : Below B w0 w' :=
  h0.trans (hg.kp.below (by have := H.lt; have := H.lo; omega) fun k hk => (H.own k hk).1)
set_option maxRecDepth 8000 in
set_option maxHeartbeats 4000000 in
theorem vbegun_of (hN : NewC) (hR : RunC2) (hA : ArithC) (w : World) : Calls Tryz.prog 4 #[] w fun e w' => e = .returned (.bool true) ∧ Below w.heap.size w w' := by
  have hR1 := hid (fun (bb g wd : Nat) (vn vo vl : Value) (w' : World) (h : BoxIs w.heap.size w' bb g wd vn vo vl [none, some [be1], none, none] s0) => hR w.heap.size bb g wd vn vo vl [none, some [be1], none, none] s0 1 0 9 (intV 5) none 0 w' h (fits_of (by kernel_rfl)) s0_fits (in_small _ (by decide)) (in_small _ (by decide)) (in_small _ (by decide)) (by simp [s0]) (safe_leaf _ ⟨in_small 1 (by decide), in_small 5 (by decide)⟩ rfl none) (by decide))
  have hR2 := hid (fun (bb g wd : Nat) (vn vo vl : Value) (w' : World) (h : BoxIs w.heap.size w' bb g wd vn vo vl [none, some [be1], none, none] s0) => hR w.heap.size bb g wd vn vo vl [none, some [be1], none, none] s0 0 0 9 v0 none 0 w' h (fits_of (by kernel_rfl)) s0_fits (in_small _ (by decide)) (in_small _ (by decide)) (in_small _ (by decide)) (by simp [s0]) (safe_leaf _ v0_fits rfl none) (by decide))
  unfold RunQ at hR1 hR2
  simp only [be1_run] at hR1
  simp only [be0_run] at hR2
  simp only [gotV, gotC, intV, v0, List.length_nil] at hR1 hR2
  have hA1 := hid (fun w => hA 4 1 2 w (in_small _ (by decide)) (in_small _ (by decide)))
  rw [be_arith] at hA1
  go_enter Tryz.func4, Tryz.ntmps4
  go_wp2_with (first
    | (go_at_call 11; refine (make_be w2).mono ?_; rintro e w3 ⟨ca, cc, rfl, hc3, q3⟩; have h4 := h1.quiet ((q2.trans q3).trans (Kp.alloc w3 (.cells #[.int .i64 0, .int .i64 0] 46))); obtain ⟨⟨k0, k1, k2, k3, k4⟩, kf⟩ := h4.one; have kz := h4.lt; have h5 := h4.put1 (l := [be1]) (hc3.kept (Kp.alloc w3 (.cells #[.int .i64 0, .int .i64 0] 46)) (fun _ _ _ _ _ e => e)) be1_bad; rw [s0_keep h4.ks, List.length_singleton] at h5; have H5 := hid (And.intro h5.1 (below_goes (((q1.trans (q2.trans q3)).trans (Kp.alloc w3 (.cells #[.int .i64 0, .int .i64 0] 46))).low) h4 h5.2)); clear h4 hc3 h1 h5)
    | (go_at_call 12; refine (Ex.num_any 2 _).mono ?_; rintro e w2 ⟨rfl, q2⟩)
    | (go_at_call 10; refine (hN w.heap.size w (Nat.le_refl _)).mono ?_; rintro e w1 ⟨bb, g, wd, vn, vo, vl, rfl, ⟨a, b, c, d, h1⟩, hb1, q1⟩))
  refine (hR1.out bb g wd vn vo vl _ ⟨_, _, _, _, H5.out.1⟩).mono ?_
  rintro e w6 ⟨ao6, cap6, vn6, vo6, vl6, he, _, ⟨a6, b6, c6, d6, hb6⟩, go6⟩
  subst he
  have l6 := below_goes H5.out.2 H5.out.1 go6
  have HQ := hid (hb6.quiet (Kp.alloc w6 (.cells #[.int .i64 1, .int .i64 7, .slice ao6 0 cap6] 24)))
  have HL := hid (low_of l6 (Kp.alloc w6 (.cells #[.int .i64 1, .int .i64 7, .slice ao6 0 cap6] 24)) (by have := hb6.lt; have := hb6.lo; omega))
  have HB := hid (heap_alloc_new w6 (.cells #[.int .i64 1, .int .i64 7, .slice ao6 0 cap6] 24))
  clear k0 k1 k2 k3 k4 kf kz H5 go6 hb6 l6 q1 q2 q3 hb1 hR1
  go_wp2_with fail
  refine (hR2.out bb g wd vn6 vo6 vl6 _ ⟨_, _, _, _, HQ.out⟩).mono ?_
  rintro e w8 ⟨ao8, cap8, vn8, vo8, vl8, he, _, ⟨a8, b8, c8, d8, hb8⟩, go8⟩
  subst he
  have hx := (go8.block HB.out (HQ.out.free HB.out (by decide) (by decide) (by decide) (by decide) (by decide) (by decide))).1
  obtain ⟨x0, x1, x2⟩ := box_cells hx
  have y1 := cell_on x1
  have HL8 := hid (below_goes HL.out HQ.out go8)
  have hz8 : w.heap.size ≤ w8.heap.size := by have := hb8.lt; have := hb8.lo; omega
  clear hx x0 x2 go8 hb8 HQ HL HB hR2
  go_wp2_with (go_at_call 13; refine (hA1.out _).mono ?_; rintro e w9 ⟨rfl, q9⟩)
  go_ret
  exact ⟨rfl, low_of (low_of HL8.out (Kp.alloc _ _) hz8) q9 (by simp; omega)⟩
end Go.Proofs.YtpppgmkefpelaaaGreat
namespace Go.Proofs.YtpppgmkefpelaaaGreat
open Go.ChangeShapes Go.WideShapes Go.ChangeAt Go.RowKit
open Gr (Nd Res nd0 thereB deriveOf addOf gateOf cutOf rightsN wayOf gatesOf gatesW targetOf Wf NdOk GS IntsAt)
/-- A home lies there, whatever is in it. -/
def HomeAt (w : World) (hb : Nat) : Prop := ∃ cs : Array Value, cs.size = 23 ∧ w.heap[hb]? = some (.cells cs 74 (0, 0))
theorem HomeAt.quiet {w w' : World} {hb : Nat} (h : HomeAt w hb) (q : Quiet w w') : HomeAt w' hb := by
  obtain ⟨cs, hs, hc⟩ := h
  exact ⟨cs, hs, (q.block _ (lt_of_block hc) fun e => e).trans hc⟩
theorem HomeAt.lt {w : World} {hb : Nat} (h : HomeAt w hb) : hb < w.heap.size := by obtain ⟨_, _, hc⟩ := h; exact lt_of_block hc
theorem HomeAt.cell {w : World} {hb : Nat} (h : HomeAt w hb) (j : Nat) (hj : j < 23) : ∃ x, w.cell? ⟨hb, j, none⟩ = some x := by
  obtain ⟨cs, hs, hc⟩ := h
  exact ⟨cs[j], by simp [World.cell?, hc, hs, hj]⟩
theorem HomeAt.free {w : World} {hb : Nat} (h : HomeAt w hb) (j : Nat) : w.frozen? ⟨hb, j, none⟩ = false := by
  obtain ⟨cs, hs, hc⟩ := h
  exact frozen_of_row w hb j _ 74 hc
theorem HomeAt.set {w : World} {hb : Nat} (h : HomeAt w hb) (j : Nat) (x : Value) : HomeAt (w.setCell ⟨hb, j, none⟩ x) hb := by
  obtain ⟨cs, hs, hc⟩ := h
  exact ⟨cs.setIfInBounds j x, by simp [hs], by simp [World.setCell, Array.getElem?_modify, hc]⟩
set_option maxRecDepth 8000 in
set_option maxHeartbeats 1000000 in
theorem newHome_any (w : World) : Calls Tryz.prog 20 #[] w fun e w' => ∃ hb, e = .returned (.pointer (some ⟨hb, 0, none⟩)) ∧ HomeAt w' hb ∧ w.heap.size ≤ hb ∧ Quiet w w' := by
  have hmk : ∀ w : World, (Instr.makeSlice 67 (.int .i64 12) (.int .i64 12)).run Tryz.prog w = .ok (.slice (some ⟨w.heap.size, 0, none⟩) 12 12) (w.alloc (.cells (Array.replicate 12 (.int .i64 0)) 2)) := fun w => by kernel_rfl
  go_enter Tryz.func20, Tryz.ntmps20
  go_wp2
  go_ret
  refine ⟨w.heap.size + 1 + 1, rfl, ⟨_, rfl, (by have := heap_alloc_new ((w.alloc (.cells #[.slice none 0 0, .slice none 0 0] 100)).alloc (.cells (Array.replicate 12 (.int .i64 0)) 2)); simpa using this _)⟩, by omega, ((Kp.alloc _ _).trans (Kp.alloc _ _)).trans (Kp.alloc _ _)⟩
/-- The cells of a home that a module's plugin has. -/
theorem HomeAt.four {w : World} {hb : Nat} (h : HomeAt w hb) (p : Nat) (hp : p < 4) : ∃ x a b c, w.cell? ⟨hb, 3 + p, none⟩ = some x ∧ w.cell? ⟨hb, 7 + p * 3, none⟩ = some a ∧ w.cell? ⟨hb, 7 + p * 3 + 1, none⟩ = some b ∧ w.cell? ⟨hb, 7 + p * 3 + 2, none⟩ = some c := by
  obtain ⟨x, hx⟩ := h.cell (3 + p) (by omega)
  obtain ⟨a, ha⟩ := h.cell (7 + p * 3) (by omega)
  obtain ⟨b, hb⟩ := h.cell (7 + p * 3 + 1) (by omega)
  obtain ⟨c, hc⟩ := h.cell (7 + p * 3 + 2) (by omega)
  exact ⟨x, a, b, c, hx, ha, hb, hc⟩
set_option maxRecDepth 8000 in
set_option maxHeartbeats 4000000 in
theorem load_any (p hb : Nat) (hp : p < 4) (l : List Ex.V) (ao : Option Addr) (cap : Nat) (w : World) (h : HomeAt w hb) (hF : Ex.Fo w l ao) (hS : Ex.sizes l ≤ 20000) :
    Calls Tryz.prog 21 #[.pointer (some ⟨hb, 0, none⟩), .int .i64 p, .agg #[.slice ao l.length cap]] w fun e w' => ∃ c, e = .returned (.int .i64 c) ∧ HomeAt w' hb ∧ Kp (fun k => k = hb) w w' := by
  have q1 : Quiet w (w.alloc (.cells #[.slice ao l.length cap] 33)) := Kp.alloc _ _
  have hlen : l.length ≤ 20000 := by have := Ex.sizes_len l; omega
  have HC := hid (Ex.codeFault_any l ao cap _ (hF.quiet q1) hlen (fun x hx => by have := Ex.sizes_mem hx; omega))
  have HO := hid (fun w2 (q2 : Quiet (w.alloc (.cells #[.slice ao l.length cap] 33)) w2) => Ex.ownMod_any l ao cap w2 ((hF.quiet q1).quiet q2) hS)
  have HH := hid (fun w2 (q2 : Quiet (w.alloc (.cells #[.slice ao l.length cap] 33)) w2) => (h.quiet q1).quiet q2)
  have hb0 := heap_alloc_new w (.cells #[.slice ao l.length cap] 33)
  have HM := hid (fun w2 (q2 : Quiet (w.alloc (.cells #[.slice ao l.length cap] 33)) w2) => Ex.mod_cell ((q2.block _ (lt_of_block hb0) fun e => e).trans hb0))
  clear hF h hb0
  by_cases hc : (Ex.modFault l).1 = 0
  · rw [hc] at HC
    have n1 : ¬ 3 + p = 7 + p * 3 := by omega
    have n2 : ¬ 3 + p = 7 + p * 3 + 1 := by omega
    have n3 : ¬ 3 + p = 7 + p * 3 + 2 := by omega
    go_enter Tryz.func21, Tryz.ntmps21
    go_wp2_with (first
      | (go_at_call 34; refine (HO.out _ (q2.trans (Kp.alloc _ _))).mono ?_; rintro e w3 ⟨oa, oc, rfl, _, q3⟩; have h4 := HH.out _ ((q2.trans ((Kp.alloc _ _).trans q3)).trans (Kp.alloc w3 (.cells #[.slice oa l.length oc] 33))); obtain ⟨x4, a4, b4, c4, k0, k1, k2, k3⟩ := h4.four p hp; have f0 := h4.free (3 + p); have f1 := h4.free (7 + p * 3); have f2 := h4.free (7 + p * 3 + 1); have f3 := h4.free (7 + p * 3 + 2); have kz := h4.lt; have H4 := hid (And.intro h4 (q1.trans ((q2.trans ((Kp.alloc _ _).trans q3)).trans (Kp.alloc w3 (.cells #[.slice oa l.length oc] 33))))); clear h4)
      | (go_at_call 33; refine HC.out.mono ?_; rintro e w2 ⟨rfl, q2⟩; have m2 := cell_on (HM.out _ q2)))
    go_ret
    refine ⟨0, rfl, (((H4.out.1.set _ _).set _ _).set _ _).set _ _, ?_⟩
    exact (H4.out.2.mono fun _ _ e => e.elim).trans ((((kp_set _ _ _ _).trans (kp_set _ _ _ _)).trans (kp_set _ _ _ _)).trans (kp_set _ _ _ _))
  · have hcb : ((Ex.modFault l).1 != 0) = true := by simpa using hc
    generalize (Ex.modFault l).1 = c0 at *
    go_enter Tryz.func21, Tryz.ntmps21
    go_wp2_with (go_at_call 33; refine HC.out.mono ?_; rintro e w2 ⟨rfl, q2⟩)
    go_ret
    exact ⟨c0, rfl, (HH.out _ q2).quiet (Kp.alloc _ _), ((q1.trans q2).trans (Kp.alloc _ _)).mono fun _ _ e => e.elim⟩
end Go.Proofs.YtpppgmkefpelaaaGreat
namespace Go.Proofs.YtpppgmkefpelaaaGreat
open Go.ChangeShapes Go.WideShapes Go.ChangeAt Go.RowKit
open Gr (Nd Res nd0 thereB deriveOf addOf gateOf cutOf rightsN wayOf gatesOf gatesW targetOf Wf NdOk GS IntsAt)
/-- The world behind a plugin's store. -/
def putW (w : World) (bb j : Nat) (code : Value) : World := ((((w.setCell ⟨bb, 2 + j * 5, none⟩ (.bool true)).setCell ⟨bb, 2 + j * 5 + 1, none⟩ code).setCell ⟨bb, 2 + j * 5 + 2, none⟩ (.int .i64 0)).setCell ⟨bb, 2 + j * 5 + 3, none⟩ (.int .i64 0)).setCell ⟨bb, 2 + j * 5 + 4, none⟩ (.slice none 0 0)
theorem set_list {w : World} {b : Nat} {L : List Value} {t : TypeId} (h : w.heap[b]? = some (.cells L.toArray t (0, 0))) (k : Nat) (x : Value) : (w.setCell ⟨b, k, none⟩ x).heap[b]? = some (.cells (L.set k x).toArray t (0, 0)) := by
  simp [World.setCell, Array.getElem?_modify, h]
theorem put_list {w : World} {b : Nat} {L : List Value} {t : TypeId} (h : w.heap[b]? = some (.cells L.toArray t (0, 0))) (j : Nat) (code : Value) : (putW w b j code).heap[b]? = some (.cells (((((L.set (2 + j * 5) (.bool true)).set (2 + j * 5 + 1) code).set (2 + j * 5 + 2) (.int .i64 0)).set (2 + j * 5 + 3) (.int .i64 0)).set (2 + j * 5 + 4) (.slice none 0 0)).toArray t (0, 0)) :=
  set_list (set_list (set_list (set_list (set_list h _ _) _ _) _ _) _ _) _ _
section
variable {B : Nat} {w w' : World} {bb g wd : Nat} {vn vo vl : Value} {ms : Mods} {s : Sg} {a b c d : Pg}
theorem BoxS.five (H : BoxS B w bb g wd vn vo vl ms s a b c d) (j : Nat) (hj : j < 4) :
    (∃ x0 x1 x2 x3 x4, w.cell? ⟨bb, 2 + j * 5, none⟩ = some x0 ∧ w.cell? ⟨bb, 2 + j * 5 + 1, none⟩ = some x1 ∧ w.cell? ⟨bb, 2 + j * 5 + 2, none⟩ = some x2 ∧ w.cell? ⟨bb, 2 + j * 5 + 3, none⟩ = some x3 ∧ w.cell? ⟨bb, 2 + j * 5 + 4, none⟩ = some x4) ∧ ∀ j, w.frozen? ⟨bb, j, none⟩ = false := by
  refine ⟨?_, fun j => frozen_of_row w bb j _ 56 H.obj⟩
  have hs : (boxC g wd a b c d).length = 22 := rfl
  have key : ∀ k, k < 22 → ∃ x, w.cell? ⟨bb, k, none⟩ = some x := fun k hk => ⟨(boxC g wd a b c d)[k]'(by rw [hs]; exact hk), (show w.cell? ⟨bb, k, none⟩ = (boxC g wd a b c d)[k]? by simp [World.cell?, H.obj]).trans (List.getElem?_eq_getElem (by rw [hs]; exact hk))⟩
  obtain ⟨x0, h0⟩ := key (2 + j * 5) (by omega)
  obtain ⟨x1, h1⟩ := key (2 + j * 5 + 1) (by omega)
  obtain ⟨x2, h2⟩ := key (2 + j * 5 + 2) (by omega)
  obtain ⟨x3, h3⟩ := key (2 + j * 5 + 3) (by omega)
  obtain ⟨x4, h4⟩ := key (2 + j * 5 + 4) (by omega)
  exact ⟨x0, x1, x2, x3, x4, h0, h1, h2, h3, h4⟩
set_option maxRecDepth 8000 in
set_option maxHeartbeats 2000000 in
/-- A plugin is another one, in a box that keeps nothing. -/
theorem BoxS.putj (H : BoxS B w bb g wd vn vo vl ms s0 a b c d) (j : Nat) (hj : j < 4) {l : List Ex.V} {ao : Option Addr} {cap : Nat} (hc : CodeAt w (.slice ao l.length cap) l) (hl : ∀ v ∈ l, v.bad l.length 0 = 0) :
    BoxIs B (putW w bb j (.slice ao l.length cap)) bb g wd vn vo vl (ms.set j (some l)) s0 ∧ GoesB bb g wd vn vo vl w vn vo vl (putW w bb j (.slice ao l.length cap)) := by
  obtain ⟨na, nb, nc, nd, rfl, ha, hb, hc', hd⟩ := H.mods
  have hk : Kp (fun k => k = bb) w (putW w bb j (.slice ao l.length cap)) := five_set w bb (2 + j * 5) _ _ _ _ _
  have hks := H.ks
  simp only [s0, List.cons.injEq, and_true] at hks
  obtain ⟨e1, e2, e3, e4⟩ := hks
  have hp := pgs_new (F := OwnB bb g wd vn vo vl) hc hl
  obtain rfl | rfl | rfl | rfl : j = 0 ∨ j = 1 ∨ j = 2 ∨ j = 3 := by omega
  · have := H.put (a' := ⟨true, .slice ao l.length cap, v0, none, 0⟩) (b' := b) (c' := c) (d' := d) hk (put_list H.obj _ _) (s' := s0) (by simp [s0, ← e2, ← e3, ← e4]) hp hb hc' hd
    exact ⟨⟨_, _, _, _, this.1⟩, this.2⟩
  · have := H.put (a' := a) (b' := ⟨true, .slice ao l.length cap, v0, none, 0⟩) (c' := c) (d' := d) hk (put_list H.obj _ _) (s' := s0) (by simp [s0, ← e1, ← e3, ← e4]) ha hp hc' hd
    exact ⟨⟨_, _, _, _, this.1⟩, this.2⟩
  · have := H.put (a' := a) (b' := b) (c' := ⟨true, .slice ao l.length cap, v0, none, 0⟩) (d' := d) hk (put_list H.obj _ _) (s' := s0) (by simp [s0, ← e1, ← e2, ← e4]) ha hb hp hd
    exact ⟨⟨_, _, _, _, this.1⟩, this.2⟩
  · have := H.put (a' := a) (b' := b) (c' := c) (d' := ⟨true, .slice ao l.length cap, v0, none, 0⟩) hk (put_list H.obj _ _) (s' := s0) (by simp [s0, ← e1, ← e2, ← e3]) ha hb hc' hp
    exact ⟨⟨_, _, _, _, this.1⟩, this.2⟩
/-- A block beside it turns, in a box that keeps nothing. -/
theorem BoxS.beside {F : Nat → Prop} (H : BoxS B w bb g wd vn vo vl ms s0 a b c d) (q : Kp F w w') (hF : ∀ k, OwnB bb g wd vn vo vl k → ¬ F k) (hI : ∀ (k : Nat) (cs : Array Value) (t : TypeId), w.heap[k]? = some (.cells cs t (0, 0)) → t = 92 ∨ t = 86 → ¬ F k) : BoxS B w' bb g wd vn vo vl ms s0 a b c d := by
  have hks := H.ks
  simp only [s0, List.cons.injEq, and_true] at hks
  obtain ⟨e1, e2, e3, e4⟩ := hks
  refine H.kept q hF fun p hp m hm => ⟨hm.there, fun l hl => ⟨(hm.code l hl).1.kept q hI, (hm.code l hl).2⟩, hm.shape, ?_, hm.good⟩
  have : p.kept = v0 := by
    rcases hp with rfl | rfl | rfl | rfl
    · exact e1.symm
    · exact e2.symm
    · exact e3.symm
    · exact e4.symm
  rw [this]
  exact safe_leaf v0 v0_fits rfl _
end
/-- The modules so far. -/
def msAt (l : List Ex.V) (j : Nat) : Mods := List.replicate j (some l) ++ List.replicate (4 - j) none
theorem msAt_set (l : List Ex.V) (j : Nat) (hj : j < 4) : (msAt l j).set j (some l) = msAt l (j + 1) := by
  obtain rfl | rfl | rfl | rfl : j = 0 ∨ j = 1 ∨ j = 2 ∨ j = 3 := by omega
  all_goals rfl
theorem bad_of {l : List Ex.V} (h : Ex.modFault l = (0, 0)) : ∀ v ∈ l, v.bad l.length 0 = 0 := by
  unfold Ex.modFault at h
  by_cases h1 : l.length < 1 ∨ 6 < l.length
  · rw [if_pos h1] at h; cases h
  · rw [if_neg h1] at h
    exact fun v hv => Ex.fun1_ok (Ex.funs_ok _ l 0 (by rw [h]) v hv)
/-- The state of the loop over the modules. -/
structure BX (w : World) (bb g wd hb : Nat) (vn vo vl : Value) (l : List Ex.V) (j : Nat) (wr : World) : Prop where
  box : BoxIs w.heap.size wr bb g wd vn vo vl (msAt l j) s0
  home : HomeAt wr hb
  lo : w.heap.size ≤ hb
  q : Quiet w wr
set_option maxRecDepth 8000 in
set_option maxHeartbeats 4000000 in
theorem boxes4 (hN : NewC) (l : List Ex.V) (ao : Option Addr) (cap mb : Nat) (w : World) (hl : Ex.modFault l = (0, 0)) (hF : Ex.Fo (Ex.cln w) l ao) (hS : Ex.sizes l ≤ 20000) (hm : ∀ j, j < 4 → w.cell? ⟨mb, j, none⟩ = some (.slice ao l.length cap)) :
    Calls Tryz.prog 7 #[.slice (some ⟨mb, 0, none⟩) 4 4, .slice none 0 0] w fun e w' => ∃ bb g wd vn vo vl hb, e = .returned (.tuple #[.pointer (some ⟨bb, 0, none⟩), .pointer (some ⟨hb, 0, none⟩)]) ∧ BoxIs w.heap.size w' bb g wd vn vo vl (msAt l 4) s0 ∧ Quiet w w' := by
  have HF := hid (And.intro hF (And.intro hS (And.intro hl hm)))
  have HB := hid (bad_of hl)
  clear hF hS hl hm
  go_enter Tryz.func7, Tryz.ntmps7
  go_wp2_with (first
    | (go_at_call 20; refine (newHome_any w1).mono ?_; rintro e w2 ⟨hb, rfl, hh, hlo, q2⟩; have HS := hid (show BX w bb g wd hb vn vo vl l 0 w2 from ⟨⟨a, b, c, d, h1.quiet q2⟩, hh, Nat.le_trans q1.size hlo, q1.trans q2⟩); clear h1 hh)
    | (go_at_call 10; refine (hN w.heap.size w (Nat.le_refl _)).mono ?_; rintro e w1 ⟨bb, g, wd, vn, vo, vl, rfl, ⟨a, b, c, d, h1⟩, hb1, q1⟩))
  clear q1 q2 hb1 hlo
  go_loopw [8] (fun i wr => ∃ j : Nat, j ≤ 4 ∧ i = .int .i64 j ∧ Hid (BX w bb g wd hb vn vo vl l j wr)) (fun i _ => 4 - (intOf i).toNat)
  case atStart => exact ⟨0, by omega, rfl, HS⟩
  case round =>
    obtain ⟨j, hj, rfl, H⟩ := hrel
    by_cases hlt : j < 4
    · obtain ⟨a, b, c, d, hb0⟩ := H.out.box
      have HB0 := hid hb0
      have c0 := H.out.q.cell (HF.out.2.2.2 j hlt) (fun e => e)
      have HMK := hid (Ex.make_any l ao cap wr (HF.out.1.cleanQ H.out.q) HF.out.2.1)
      have hd4 : decide ((j : Int) < 4) = true := by simp; omega
      clear hb0
      go_wp2_with (first
        | (go_at_call 11; refine HMK.out.mono ?_))
      rintro e w3 ⟨f, hf, q3, hM⟩
      rcases hM with ⟨h0, _⟩ | ⟨_, sa, sc, ps, he, hmd, hps⟩
      · rw [hf, HF.out.2.2.1] at h0; exact absurd rfl h0
      · subst he
        have hc3 := (made_at hmd hps).kept (Kp.alloc (F := fun _ => False) w3 (.cells #[.int .i64 0, .int .i64 0] 46)) (fun _ _ _ _ _ e => e)
        have q4 : Quiet wr (w3.alloc (.cells #[.int .i64 0, .int .i64 0] 46)) := q3.trans (Kp.alloc _ _)
        have h4 := HB0.out.quiet q4
        obtain ⟨⟨x0, x1, x2, x3, x4, k0, k1, k2, k3, k4⟩, kf⟩ := h4.five j hlt
        have kz := h4.lt
        have hp := h4.putj j hlt hc3 HB.out
        rw [msAt_set l j hlt] at hp
        have y0 : (w3.alloc (.cells #[.int .i64 0, .int .i64 0] 46)).cell? ⟨mb, j, none⟩ = some (.slice ao l.length cap) := q4.cell c0 (fun e => e)
        have hmb : mb < w.heap.size := World.block_lt_of_cell? w _ (HF.out.2.2.2 j hlt)
        have hbb : w.heap.size ≤ bb := h4.lo
        have hne : ¬ bb = mb := by omega
        have hne2 : ¬ mb = bb := by omega
        obtain ⟨hcs, hhs, hhb⟩ := (H.out.home.quiet q4)
        have hnb : hb ≠ bb := fun e => by rw [e, h4.obj] at hhb; simp at hhb
        have hwq : Quiet w (putW (w3.alloc (.cells #[.int .i64 0, .int .i64 0] 46)) bb j (.slice sa l.length sc)) := (H.out.q.trans q4).fresh (hp.2.kp.mono fun k _ e => (h4.own k e).1)
        have hho : HomeAt (putW (w3.alloc (.cells #[.int .i64 0, .int .i64 0] 46)) bb j (.slice sa l.length sc)) hb := ⟨hcs, hhs, (hp.2.kp.block _ (lt_of_block hhb) (h4.free hhb (by decide) (by decide) (by decide) (by decide) (by decide) (by decide))).trans hhb⟩
        have HL := hid (load_any j hb hlt l ao cap _ hho ((HF.out.1.unclean).quiet hwq) HF.out.2.1)
        unfold putW at HL
        have HP := hid (And.intro hp.1 (And.intro hho hwq))
        clear hp hho hwq hhb hhs h4 hc3 hmd hps hf
        go_wp2_with (go_at_call 21; refine HL.out.mono ?_; rintro e w7 ⟨c7, rfl, h7, k7⟩)
        refine ⟨⟨j + 1, by omega, by go_num, ?_⟩, by simp [intOf]; omega⟩
        obtain ⟨⟨a7, b7, c8, d7, hb7⟩, hh7, hq7⟩ := HP.out
        have k7 : Kp (fun k => k = hb) (putW (w3.alloc (.cells #[.int .i64 0, .int .i64 0] 46)) bb j (.slice sa l.length sc)) w7 := k7
        obtain ⟨cs7, hs7, hc7⟩ := hh7
        refine ⟨⟨a7, b7, c8, d7, hb7.beside k7 (fun k e e2 => hb7.free hc7 (by decide) (by decide) (by decide) (by decide) (by decide) (by decide) (e2 ▸ e)) (fun k cs t hk ht e => ?_)⟩, h7, H.out.lo, hq7.fresh (k7.mono fun k _ e => by have := H.out.lo; omega)⟩
        rw [e, hc7] at hk
        simp at hk
        rcases ht with ht | ht
        · rw [ht] at hk; exact absurd hk.2 (by decide)
        · rw [ht] at hk; exact absurd hk.2 (by decide)
    · obtain rfl : j = 4 := by omega
      go_wp2_with fail
      go_loopw [11] (fun i wy => i = .int .i64 0 ∧ wy = wr) (fun _ _ => 0)
      case atStart => exact ⟨rfl, rfl⟩
      case round =>
        obtain ⟨rfl, rfl⟩ := hrel
        go_wp2_with fail
        go_ret2
        exact ⟨bb, g, wd, vn, vo, vl, hb, rfl, H.out.box, H.out.q⟩
end Go.Proofs.YtpppgmkefpelaaaGreat
namespace Go.Proofs.YtpppgmkefpelaaaGreat
open Go.ChangeShapes Go.WideShapes Go.ChangeAt Go.RowKit
def sealM : List Ex.V := [⟨11, 0, 0, [⟨3, 0, 0, []⟩]⟩, ⟨12, 0, 0, [⟨3, 0, 0, []⟩]⟩]
theorem sealM_fault : Ex.modFault sealM = (0, 0) := by decide
theorem sealM_sizes : Ex.sizes sealM ≤ 20000 := by decide
theorem seal_check (p : Nat) (v : V) : (⟨3, p, [v]⟩ : V).check = (⟨3, 0, [v]⟩ : V).check := by
  unfold V.check
  rw [size_mk, size_mk, fault_eq, fault_eq]
  have : ∀ p : Int, 0 ≤ p → (⟨3, p, [v]⟩ : V).fault1 = 0 := fun p h => by unfold V.fault1; simp [partsB]; omega
  rw [this p (by omega), this 0 (by omega)]
theorem fun0 (p : Nat) (hp : p < 4) : funOf (msAt sealM 4) p 0 = some ⟨11, 0, 0, [⟨3, 0, 0, []⟩]⟩ := by
  obtain rfl | rfl | rfl | rfl : p = 0 ∨ p = 1 ∨ p = 2 ∨ p = 3 := by omega
  all_goals rfl
theorem fun1' (p : Nat) (hp : p < 4) : funOf (msAt sealM 4) p 1 = some ⟨12, 0, 0, [⟨3, 0, 0, []⟩]⟩ := by
  obtain rfl | rfl | rfl | rfl : p = 0 ∨ p = 1 ∨ p = 2 ∨ p = 3 := by omega
  all_goals rfl
theorem ev2000 (ms : Mods) : evR ms 2000 = stepR (stepR (evR ms 1998) (callR (evR ms 1998) ms) ms) (callR (evR ms 1999) ms) ms := rfl
theorem seal_run (p : Nat) (hp : p < 4) (v : V) (hv : v.check = 0) (hs : (⟨3, 0, [v]⟩ : V).check = 0) : runR (msAt sealM 4) p 0 v 9 s0 = (.ok ⟨3, p, [v]⟩, 2, s0) := by
  have hs' : (⟨3, p, [v]⟩ : V).check = 0 := (seal_check p v).trans hs
  unfold runR
  rw [if_neg (by omega), fun0 p hp, if_neg (by simp), if_neg (by simp [hv])]
  have : callR (evR (msAt sealM 4) 2000) (msAt sealM 4) 0 p 0 v (9 : Int).toNat s0 = okV ⟨3, p, [v]⟩ 7 s0 := by
    unfold callR
    rw [fun0 p hp, ev2000]
    simp only [Nat.reduceEqDiff, if_false]
    show oneR (callR (evR (msAt sealM 4) 1999) (msAt sealM 4)) 1 p 11 0 v 7 s0 = _
    unfold oneR
    simp [hs']
  rw [this]
  rfl
theorem open_run (p q : Nat) (hq : q < 4) (v : V) (hs : (⟨3, 0, [v]⟩ : V).check = 0) : runR (msAt sealM 4) q 1 ⟨3, p, [v]⟩ 9 s0 = (if p = q then .ok v else .error 10, 2, s0) := by
  have hs' : (⟨3, p, [v]⟩ : V).check = 0 := (seal_check p v).trans hs
  unfold runR
  rw [if_neg (by omega), fun1' q hq, if_neg (by simp), if_neg (by simp [hs'])]
  have : callR (evR (msAt sealM 4) 2000) (msAt sealM 4) 0 q 1 ⟨3, p, [v]⟩ (9 : Int).toNat s0 = (if p = q then okV v 7 s0 else bad 10 7 s0) := by
    unfold callR
    rw [fun1' q hq, ev2000]
    simp only [Nat.reduceEqDiff, if_false]
    show oneR (callR (evR (msAt sealM 4) 1999) (msAt sealM 4)) 1 q 12 0 ⟨3, p, [v]⟩ 7 s0 = _
    unfold oneR
    by_cases e : p = q
    · simp [e]
    · have e2 : ¬ (p : Int) = (q : Int) := by omega
      simp [e, e2]
  rw [this]
  by_cases e : p = q
  · simp [e, okV]
  · simp [e, bad]
end Go.Proofs.YtpppgmkefpelaaaGreat
namespace Go.Proofs.YtpppgmkefpelaaaGreat
open Go.ChangeShapes Go.WideShapes Go.ChangeAt Go.RowKit
open Gr (Nd Res nd0 thereB deriveOf addOf gateOf cutOf rightsN wayOf gatesOf gatesW targetOf Wf NdOk GS IntsAt)
theorem safe_is {F : Nat → Prop} {w wr : World} {v : V} {ao : Option Addr} (hI : Is w v ao) (hb : Below w.heap.size w wr) (hF : ∀ k, F k → w.heap.size ≤ k) : SafeF F (fun w => Is w v ao) wr := by
  intro w2 k2
  refine hI.kept fun a x hc => ?_
  have hlt := World.block_lt_of_cell? w a hc
  exact k2.cell ((World.cell?_of_block (hb.block a.block hlt)).trans hc) fun e => by have := hF _ e; omega
/-- A value sealed in new memory. -/
theorem seal_is {w : World} {v : V} {ao : Option Addr} {cap : Nat} (hI : Is w v ao) : Is (w.alloc (.cells #[.int .i64 v.kind, .int .i64 v.n, .slice ao v.l.length cap] 24)) ⟨3, 0, [v]⟩ (some ⟨w.heap.size, 0, none⟩) :=
  ⟨⟨in_small 3 (by decide), in_small 0 (by decide)⟩, fo_single (heap_alloc_new w _) (hI.quiet (Kp.alloc _ _))⟩
/-- The module of seals lies there. -/
theorem seal_fo {w : World} {x : Nat} (b0 : w.heap[x]? = some (.cells #[.int .i64 3, .int .i64 0, .int .i64 0, .slice none 0 0] 31 (0, 0))) (b1 : w.heap[x + 1]? = some (.cells #[.int .i64 11, .int .i64 0, .int .i64 0, .slice (some ⟨x, 0, none⟩) 1 1, .int .i64 12, .int .i64 0, .int .i64 0, .slice (some ⟨x, 0, none⟩) 1 1] 31 (0, 0))) : Ex.Fo (Ex.cln w) sealM (some ⟨x + 1, 0, none⟩) := by
  have c0 := Ex.cln_same b0
  have c1 := Ex.cln_same b1
  have fit : ∀ (k kk n : Int) (l : List Ex.V), (0 ≤ k ∧ k ≤ 100) → (0 ≤ kk ∧ kk ≤ 100) → (0 ≤ n ∧ n ≤ 100) → Ex.V.fits ⟨k, kk, n, l⟩ := fun k kk n l h1 h2 h3 => ⟨in_small k h1, in_small kk h2, in_small n h3⟩
  have kid : Ex.Fo (Ex.cln w) [⟨3, 0, 0, []⟩] (some ⟨x, 0, none⟩) := by
    intro j hj
    obtain rfl : j = 0 := by simp at hj; omega
    exact ⟨x, 0, rfl, (Ex.at_iff _ _ _ _).2 ⟨⟨by simp [World.cell?, c0], by simp [World.cell?, c0], by simp [World.cell?, c0]⟩, none, 0, by simp [World.cell?, c0], fit _ _ _ _ (by decide) (by decide) (by decide), Ex.Fo.nil _ _⟩⟩
  intro i hi
  have hi2 : i < 2 := hi
  obtain rfl | rfl : i = 0 ∨ i = 1 := by omega
  · exact ⟨x + 1, 0, rfl, (Ex.at_iff _ _ _ _).2 ⟨⟨by simp [World.cell?, c1, sealM], by simp [World.cell?, c1, sealM], by simp [World.cell?, c1, sealM]⟩, some ⟨x, 0, none⟩, 1, by simp [World.cell?, c1, sealM], fit _ _ _ _ (by decide) (by decide) (by decide), kid⟩⟩
  · exact ⟨x + 1, 0, rfl, (Ex.at_iff _ _ _ _).2 ⟨⟨by simp [World.cell?, c1, sealM], by simp [World.cell?, c1, sealM], by simp [World.cell?, c1, sealM]⟩, some ⟨x, 0, none⟩, 1, by simp [World.cell?, c1, sealM], fit _ _ _ _ (by decide) (by decide) (by decide), kid⟩⟩
theorem mod4 (p : Int) : ∃ k : Nat, k < 4 ∧ wrap64 ((IntKind.u64.wrap p).tmod 4) = (k : Int) := by
  have h0 : 0 ≤ IntKind.u64.wrap p := by rw [IntKind.wrap_u64]; omega
  have h1 : (IntKind.u64.wrap p).tmod 4 = (IntKind.u64.wrap p) % 4 := Int.tmod_eq_emod_of_nonneg h0
  have h2 : 0 ≤ IntKind.u64.wrap p % 4 ∧ IntKind.u64.wrap p % 4 < 4 := ⟨Int.emod_nonneg _ (by decide), Int.emod_lt_of_pos _ (by decide)⟩
  rw [h1]
  generalize IntKind.u64.wrap p % 4 = z at h2
  exact ⟨z.toNat, by omega, by unfold wrap64; omega⟩
set_option maxRecDepth 8000 in
set_option maxHeartbeats 8000000 in
theorem sealsLaw (hN : NewC) (hR : RunC2) (hA : ArithC) (W : World) (v : V) (ao : Option Addr) (cap : Nat) (p q : Int) (hI : Is W v ao) :
    Calls Tryz.prog 3 #[.agg #[.int .i64 v.kind, .int .i64 v.n, .slice ao v.l.length cap], .int .i64 p, .int .i64 q] W fun e w' => e = .returned (.bool true) ∧ Below W.heap.size W w' := by
  have b0 := heap_alloc_new W (.cells #[.int .i64 v.kind, .int .i64 v.n, .slice ao v.l.length cap] 24)
  have HBX := hid (fun (w' : World) (q : Below (W.heap.size + 1) (W.alloc (.cells #[.int .i64 v.kind, .int .i64 v.n, .slice ao v.l.length cap] 24)) w') => box_cells ((q.block W.heap.size (by omega)).trans b0))
  have HI := hid (And.intro hI (hI.quiet (Kp.alloc W (.cells #[.int .i64 v.kind, .int .i64 v.n, .slice ao v.l.length cap] 24))))
  have HV := hid (vbegun_of hN hR hA (W.alloc (.cells #[.int .i64 v.kind, .int .i64 v.n, .slice ao v.l.length cap] 24)))
  clear b0 hI
  have hs0 : (W.alloc (.cells #[.int .i64 v.kind, .int .i64 v.n, .slice ao v.l.length cap] 24)).heap.size = W.heap.size + 1 := by simp
  rw [hs0] at HV
  have HLOW := hid (show ∀ w' : World, Below (W.heap.size + 1) (W.alloc (.cells #[.int .i64 v.kind, .int .i64 v.n, .slice ao v.l.length cap] 24)) w' → Below W.heap.size W w' from fun w' h => ((Kp.alloc (F := fun _ => False) W (.cells #[.int .i64 v.kind, .int .i64 v.n, .slice ao v.l.length cap] 24)).low).trans (h.mono (Nat.le_succ _)))
  have HIS := hid (show ∀ w2 : World, Below (W.heap.size + 1) (W.alloc (.cells #[.int .i64 v.kind, .int .i64 v.n, .slice ao v.l.length cap] 24)) w2 → Is w2 v ao from fun w2 b2 => HI.out.2.kept (fun a x hc => (World.cell?_of_block (b2.block a.block (by have := World.block_lt_of_cell? _ a hc; rw [hs0] at this; exact this))).trans hc))
  cases hd : decide (500 < v.size) with
  | true =>
    go_enter Tryz.func3, Tryz.ntmps3
    go_wp2_with (first
      | (go_at_call 5; refine (great_any v ao cap w2 (HIS.out w2 b2)).mono ?_; rintro e w3 ⟨rfl, q3⟩; rw [hd])
      | (go_at_call 4; refine HV.out.mono ?_; rintro e w2 ⟨rfl, b2⟩; obtain ⟨z0, z1, z2⟩ := HBX.out _ b2))
    go_ret
    exact ⟨rfl, HLOW.out _ (low_of b2 q3 (by have := b2.size; omega))⟩
  | false =>
    have hsz : v.size ≤ 500 := by simpa using hd
    by_cases h1 : v.check = 0
    · by_cases h2 : (⟨3, 0, [v]⟩ : V).check = 0
      · have hss : (⟨3, 0, [v]⟩ : V).size ≤ 500 := by rw [size_mk, sizes_one]; have := check_size h1; omega
        have HS := hid (fun (w3 : World) (h : Is w3 v ao) => check_any ⟨3, 0, [v]⟩ (some ⟨w3.heap.size, 0, none⟩) 1 (w3.alloc (.cells #[.int .i64 v.kind, .int .i64 v.n, .slice ao v.l.length cap] 24)) (seal_is h) hss)
        simp only [List.length_singleton, h2] at HS
        go_enter Tryz.func3, Tryz.ntmps3
        go_wp2_with (first
          | (go_at_call 6; refine (HS.out w4 (HIS.out w4 b4)).mono ?_; rintro e w5 ⟨rfl, q5⟩; have B5 := hid (low_of (low_of b4 (Kp.alloc _ _) (by have := b4.size; omega)) q5 (by have := b4.size; simp; omega)))
          | (go_at_call 6; refine (check_any v ao cap w3 (HIS.out w3 b3) hsz).mono ?_; rintro e w4 ⟨rfl, q4⟩; rw [h1]; have b4 := low_of b3 q4 (by have := b3.size; omega); obtain ⟨x0, x1, x2⟩ := HBX.out _ b4)
          | (go_at_call 5; refine (great_any v ao cap w2 (HIS.out w2 b2)).mono ?_; rintro e w3 ⟨rfl, q3⟩; rw [hd]; have b3 := low_of b2 q3 (by have := b2.size; omega); obtain ⟨y0, y1, y2⟩ := HBX.out _ b3)
          | (go_at_call 4; refine HV.out.mono ?_; rintro e w2 ⟨rfl, b2⟩; obtain ⟨z0, z1, z2⟩ := HBX.out _ b2))
        obtain ⟨pn, hpn, hpe⟩ := mod4 p
        obtain ⟨qn, hqn, hqe⟩ := mod4 q
        rw [hpe, hqe]
        clear hpe hqe z0 z1 z2 y0 y1 y2 x0 x1 x2 b2 b3 b4 q3 q4 q5 HS HV hA
        obtain ⟨o1, ho1⟩ : ∃ o, o = Obj.cells #[.int .i64 3, .int .i64 0, .int .i64 0, .slice none 0 0] 31 := ⟨_, rfl⟩
        obtain ⟨o2, ho2⟩ : ∃ o, o = Obj.cells #[.int .i64 11, .int .i64 0, .int .i64 0, .slice (some ⟨w5.heap.size, 0, none⟩) 1 1, .int .i64 12, .int .i64 0, .int .i64 0, .slice (some ⟨w5.heap.size, 0, none⟩) 1 1] 31 := ⟨_, rfl⟩
        obtain ⟨o3, ho3⟩ : ∃ o, o = Obj.cells #[.slice (some ⟨w5.heap.size + 1, 0, none⟩) 2 2] 33 := ⟨_, rfl⟩
        obtain ⟨o4, ho4⟩ : ∃ o, o = Obj.cells #[.slice (some ⟨w5.heap.size + 1, 0, none⟩) 2 2, .slice (some ⟨w5.heap.size + 1, 0, none⟩) 2 2, .slice (some ⟨w5.heap.size + 1, 0, none⟩) 2 2, .slice (some ⟨w5.heap.size + 1, 0, none⟩) 2 2] 33 := ⟨_, rfl⟩
        rw [← ho1, ← ho2, ← ho3, ← ho4]
        obtain ⟨W8, hW8⟩ : ∃ W8, W8 = (((w5.alloc o1).alloc o2).alloc o3).alloc o4 := ⟨_, rfl⟩
        have hn := four_new w5 o1 o2 o3 o4
        rw [← hW8] at hn ⊢
        have q8 : Quiet w5 W8 := by rw [hW8]; exact (((Kp.alloc _ _).trans (Kp.alloc _ _)).trans (Kp.alloc _ _)).trans (Kp.alloc _ _)
        obtain ⟨n1, n2, n3, n4⟩ := hn
        rw [ho1] at n1
        rw [ho2] at n2
        rw [ho4] at n4
        refine (boxes4 hN sealM (some ⟨w5.heap.size + 1, 0, none⟩) 2 (w5.heap.size + 1 + 1 + 1) W8 sealM_fault (seal_fo n1 n2) sealM_sizes (fun j hj => by
          obtain rfl | rfl | rfl | rfl : j = 0 ∨ j = 1 ∨ j = 2 ∨ j = 3 := by omega
          all_goals simp [World.cell?, n4, sealM])).mono ?_
        rintro e w6 ⟨bb, g, wd, vn, vo, vl, hb, he, hbox, q6⟩
        subst he
        have hz5 : W.heap.size + 1 ≤ w5.heap.size := by have := B5.out.size; omega
        have hz8 : W.heap.size + 1 ≤ W8.heap.size := Nat.le_trans hz5 q8.size
        have b6 := low_of (low_of B5.out q8 hz5) q6 hz8
        obtain ⟨z0, z1, z2⟩ := HBX.out _ b6
        have hF6 : ∀ k, OwnB bb g wd vn vo vl k → W.heap.size + 1 ≤ k := fun k e => by obtain ⟨a, b, c, d, hh⟩ := hbox; have := (hh.own k e).1; omega
        have HR1 := hid (hR W8.heap.size bb g wd vn vo vl (msAt sealM 4) s0 pn 0 9 v ao cap w6 hbox (fits_of (by kernel_rfl)) s0_fits (in_small _ (by omega)) (in_small _ (by decide)) (in_small _ (by decide)) (by simp [s0]) (safe_is HI.out.1 (HLOW.out _ b6) (fun k e => by have := hF6 k e; omega)) hsz)
        unfold RunQ at HR1
        simp only [seal_run pn hpn v h1 h2, gotV, gotC, List.length_singleton] at HR1
        have B6 := hid b6
        have H6 := hid (And.intro hbox hF6)
        clear n1 n2 n3 n4 hW8 ho1 ho2 ho3 ho4 q6 q8 b6 hbox hF6 B5
        go_wp2_with fail
        refine HR1.out.mono ?_
        rintro e w7 ⟨ao7, cap7, vn7, vo7, vl7, he, hs7, hbox7, go7⟩
        subst he
        obtain ⟨a6, b6, c6, d6, hh6⟩ := H6.out.1
        have b7 := (B6.out).trans (go7.kp.below (by have := B6.out.size; omega) fun k e => H6.out.2 k e)
        obtain ⟨a7, b7', c7, d7, hh7⟩ := hbox7
        have hF7 : ∀ k, OwnB bb g wd vn7 vo7 vl7 k → W.heap.size + 1 ≤ k := fun k e => by have := (hh7.own k e).1; omega
        have hz7 : W.heap.size + 1 ≤ w7.heap.size := by have := b7.size; omega
        have b7a := low_of b7 (Kp.alloc w7 (.cells #[.int .i64 3, .int .i64 pn, .slice ao7 1 cap7] 24)) hz7
        obtain ⟨y0, y1, y2⟩ := HBX.out _ b7a
        have hs7' : (⟨3, (pn : Int), [v]⟩ : V).size ≤ 500 := by rw [size_mk, sizes_one]; have := check_size h1; omega
        have HR2 := hid (hR W8.heap.size bb g wd vn7 vo7 vl7 (msAt sealM 4) s0 qn 1 9 ⟨3, pn, [v]⟩ ao7 cap7 (w7.alloc (.cells #[.int .i64 3, .int .i64 pn, .slice ao7 1 cap7] 24)) ⟨_, _, _, _, hh7.quiet (Kp.alloc _ _)⟩ (fits_of (by kernel_rfl)) s0_fits (in_small _ (by omega)) (in_small _ (by decide)) (in_small _ (by decide)) (by simp [s0]) (safe_quiet hs7 (Kp.alloc _ _)) hs7')
        unfold RunQ at HR2
        simp only [open_run pn qn hqn v h2, List.length_singleton] at HR2
        have B7 := hid (And.intro b7a hF7)
        have HH7 := hid (hh7.quiet (Kp.alloc w7 (.cells #[.int .i64 3, .int .i64 pn, .slice ao7 1 cap7] 24)))
        clear hs7 hh6 hh7 go7 b7 b7a hF7 H6 B6 HR1 z0 z1 z2
        by_cases hpq : pn = qn
        · subst hpq
          simp only [if_true, gotV, gotC] at HR2
          go_wp2_with fail
          refine HR2.out.mono ?_
          rintro e w9 ⟨ao9, cap9, vn9, vo9, vl9, he, hs9, hbox9, go9⟩
          subst he
          have b9 := (B7.out.1).trans (go9.kp.below (by have := B7.out.1.size; omega) fun k e => B7.out.2 k e)
          have b9a := low_of b9 (Kp.alloc w9 (.cells #[.int .i64 v.kind, .int .i64 v.n, .slice ao9 v.l.length cap9] 24)) (by have := b9.size; omega)
          obtain ⟨x0, x1, x2⟩ := HBX.out _ b9a
          have HSV := hid (sameVal_any v v ao9 ao cap9 cap (w9.alloc (.cells #[.int .i64 v.kind, .int .i64 v.n, .slice ao9 v.l.length cap9] 24)) (hs9.now.quiet (Kp.alloc _ _)) (HIS.out _ b9a) hsz)
          rw [same_refl] at HSV
          have B9 := hid b9a
          have hz9 : W.heap.size + 1 ≤ (w9.alloc (.cells #[.int .i64 v.kind, .int .i64 v.n, .slice ao9 v.l.length cap9] 24)).heap.size := by have := b9a.size; omega
          clear hs9 go9 b9 b9a hbox9 HR2
          go_wp2_with (go_at_call 9; refine HSV.out.mono ?_; rintro e w10 ⟨rfl, q10⟩)
          go_ret
          exact ⟨rfl, HLOW.out _ (low_of B9.out q10 hz9)⟩
        · have hne : ((pn : Int) == (qn : Int)) = false := by simp; omega
          have hne2 : ((pn : Int) != (qn : Int)) = true := by simp; omega
          have hne3 : ¬ (pn : Int) = (qn : Int) := by omega
          simp only [hpq, if_false, gotV, gotC, v0, List.length_nil] at HR2
          go_wp2_with fail
          refine HR2.out.mono ?_
          rintro e w9 ⟨ao9, cap9, vn9, vo9, vl9, he, hs9, hbox9, go9⟩
          subst he
          have b9 := (B7.out.1).trans (go9.kp.below (by have := B7.out.1.size; omega) fun k e => B7.out.2 k e)
          have b9a := low_of b9 (Kp.alloc w9 (.cells #[.int .i64 0, .int .i64 0, .slice ao9 0 cap9] 24)) (by have := b9.size; omega)
          have HSV := hid (sameVal_any v0 v0 ao9 none cap9 0 (w9.alloc (.cells #[.int .i64 0, .int .i64 0, .slice ao9 0 cap9] 24)) (Is.leaf _ v0 v0_fits rfl _) (Is.leaf _ v0 v0_fits rfl _) (by decide))
          rw [same_refl] at HSV
          simp only [v0, List.length_nil] at HSV
          have B9 := hid b9a
          have hz9 : W.heap.size + 1 ≤ (w9.alloc (.cells #[.int .i64 0, .int .i64 0, .slice ao9 0 cap9] 24)).heap.size := by have := b9a.size; omega
          clear hs9 go9 b9 b9a hbox9 HR2
          go_wp2_with (go_at_call 9; refine HSV.out.mono ?_; rintro e w10 ⟨rfl, q10⟩)
          go_ret
          exact ⟨rfl, HLOW.out _ (low_of B9.out q10 hz9)⟩
      · have hcb : ((⟨3, 0, [v]⟩ : V).check != 0) = true := by simpa using h2
        have hss : (⟨3, 0, [v]⟩ : V).size ≤ 500 := by rw [size_mk, sizes_one]; have := check_size h1; omega
        have HS := hid (fun (w3 : World) (h : Is w3 v ao) => check_any ⟨3, 0, [v]⟩ (some ⟨w3.heap.size, 0, none⟩) 1 (w3.alloc (.cells #[.int .i64 v.kind, .int .i64 v.n, .slice ao v.l.length cap] 24)) (seal_is h) hss)
        simp only [List.length_singleton] at HS
        generalize (⟨3, 0, [v]⟩ : V).check = c3 at *
        go_enter Tryz.func3, Tryz.ntmps3
        go_wp2_with (first
          | (go_at_call 6; refine (HS.out w4 (HIS.out w4 b4)).mono ?_; rintro e w5 ⟨rfl, q5⟩)
          | (go_at_call 6; refine (check_any v ao cap w3 (HIS.out w3 b3) hsz).mono ?_; rintro e w4 ⟨rfl, q4⟩; rw [h1]; have b4 := low_of b3 q4 (by have := b3.size; omega); obtain ⟨x0, x1, x2⟩ := HBX.out _ b4)
          | (go_at_call 5; refine (great_any v ao cap w2 (HIS.out w2 b2)).mono ?_; rintro e w3 ⟨rfl, q3⟩; rw [hd]; have b3 := low_of b2 q3 (by have := b2.size; omega); obtain ⟨y0, y1, y2⟩ := HBX.out _ b3)
          | (go_at_call 4; refine HV.out.mono ?_; rintro e w2 ⟨rfl, b2⟩; obtain ⟨z0, z1, z2⟩ := HBX.out _ b2))
        go_ret
        exact ⟨rfl, HLOW.out _ (low_of (low_of b4 (Kp.alloc _ _) (by have := b4.size; omega)) q5 (by have := b4.size; simp; omega))⟩
    · have hcb : (v.check != 0) = true := by simpa using h1
      have HC := hid (fun (w3 : World) (h : Is w3 v ao) => check_any v ao cap w3 h hsz)
      generalize v.check = c1 at *
      go_enter Tryz.func3, Tryz.ntmps3
      go_wp2_with (first
        | (go_at_call 6; refine (HC.out w3 (HIS.out w3 b3)).mono ?_; rintro e w4 ⟨rfl, q4⟩)
        | (go_at_call 5; refine (great_any v ao cap w2 (HIS.out w2 b2)).mono ?_; rintro e w3 ⟨rfl, q3⟩; rw [hd]; have b3 := low_of b2 q3 (by have := b2.size; omega); obtain ⟨y0, y1, y2⟩ := HBX.out _ b3)
        | (go_at_call 4; refine HV.out.mono ?_; rintro e w2 ⟨rfl, b2⟩; obtain ⟨z0, z1, z2⟩ := HBX.out _ b2))
      go_ret
      exact ⟨rfl, HLOW.out _ (low_of b3 q4 (by have := b3.size; omega))⟩
end Go.Proofs.YtpppgmkefpelaaaGreat
