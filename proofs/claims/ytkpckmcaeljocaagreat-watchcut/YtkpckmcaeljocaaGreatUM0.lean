/- Parts. -/
import Derived.Test.YtkpckmcaeljocaaGreatUB1
namespace Go.Proofs.YtkpckmcaeljocaaGreat
open Go.ChangeShapes Go.WideShapes Go.ChangeAt Go.RowKit
open Gr (Nd Res nd0 thereB deriveOf addOf gateOf cutOf rightsN wayOf gatesOf gatesW targetOf Wf NdOk GS IntsAt)
def gaveM (c : Int) : List PanicEntry := [{ v := .iface 175 (.int .i64 c), recovered := false }]
structure Mx where
  B : Nat
  bb : Nat
  g : Nat
  wd : Nat
  mb : Nat
  ms : Mods
  fuel : Int
structure Vs where
  n : Value
  o : Value
  l : Value
def Mx.own (M : Mx) (q : Vs) (k : Nat) : Prop := OwnB M.bb M.g M.wd q.n q.o q.l k
structure GoesM (M : Mx) (q : Vs) (w : World) (q' : Vs) (w' : World) : Prop where
  kp : Kp (fun k => M.own q k ∨ k = M.mb) w w'
  own : ∀ k, M.own q' k → M.own q k ∨ w.heap.size ≤ k
section
variable {M : Mx} {q q' q2 : Vs} {w w' w2 : World} {X X' : Nat → Prop} {s s' : Sg} {left left' : Nat} {calls calls' : Int}
theorem GoesM.refl (M : Mx) (q : Vs) (w : World) : GoesM M q w q w := ⟨Kp.refl _ _, fun _ e => .inl e⟩
theorem GoesM.quiet (M : Mx) (q : Vs) (k : Quiet w w') : GoesM M q w q w' := ⟨k.mono fun _ _ e => e.elim, fun _ e => .inl e⟩
theorem GoesM.tick (M : Mx) (q : Vs) (k : Kp (fun k => k = M.mb) w w') : GoesM M q w q w' := ⟨k.mono fun _ _ e => .inr e, fun _ e => .inl e⟩
theorem GoesM.trans (h : GoesM M q w q' w') (k : GoesM M q' w' q2 w2) : GoesM M q w q2 w2 := by
  refine ⟨⟨k.kp.os.trans h.kp.os, k.kp.tape.trans h.kp.tape, k.kp.output.trans h.kp.output, Nat.le_trans h.kp.size k.kp.size, fun i hi hF => ?_⟩, fun i hi => ?_⟩
  · refine (k.kp.block i (Nat.lt_of_lt_of_le hi h.kp.size) fun e => ?_).trans (h.kp.block i hi hF)
    rcases e with e | e
    · rcases h.own i e with e | e
      · exact hF (.inl e)
      · omega
    · exact hF (.inr e)
  · rcases k.own i hi with e | e
    · exact h.own i e
    · exact .inr (Nat.le_trans h.kp.size e)
theorem GoesM.fresh (h : GoesM M q w q' w') (k : Kp (fun i => w.heap.size ≤ i) w' w2) : GoesM M q w q' w2 := ⟨h.kp.fresh k, h.own⟩
theorem GoesM.after (k : Quiet w w2) (h : GoesM M q w2 q' w') : GoesM M q w q' w' := (GoesM.quiet M q k).trans h
theorem GoesM.box {vn vo vl : Value} (h : GoesB M.bb M.g M.wd q.n q.o q.l w vn vo vl w') : GoesM M q w ⟨vn, vo, vl⟩ w' := ⟨h.kp.mono fun _ _ e => .inl e, h.own⟩
theorem GoesM.safe {P : World → Prop} (h : GoesM M q w q' w') (hm : X M.mb) (hs : SafeF (fun k => M.own q k ∨ X k) P w) : SafeF (fun k => M.own q' k ∨ X k) P w' :=
  hs.step (h.kp.mono fun k _ e => by rcases e with e | e; exact .inl e; exact .inr (e ▸ hm)) fun k hk e => by
    rcases e with e | e
    · rcases h.own k e with e | e
      · exact .inl e
      · omega
    · exact .inr e
theorem GoesM.block (h : GoesM M q w q' w') {x : Nat} {o : Obj} (hx : w.heap[x]? = some o) (hn : ¬ M.own q x) (hm : x ≠ M.mb) : w'.heap[x]? = some o ∧ ¬ M.own q' x := by
  have hl : x < w.heap.size := (Array.getElem?_eq_some_iff.1 hx).1
  refine ⟨(h.kp.block x hl fun e => by rcases e with e | e; exact hn e; exact hm e).trans hx, fun e => ?_⟩
  rcases h.own x e with e | e
  · exact hn e
  · omega
theorem box_beside {F : Nat → Prop} {B bb g wd : Nat} {vn vo vl : Value} {ms : Mods} {a b c d : Pg} (H : BoxS B w bb g wd vn vo vl ms s a b c d)
    (hk : ∀ x, x = a ∨ x = b ∨ x = c ∨ x = d → SafeF (fun k => OwnB bb g wd vn vo vl k ∨ X k) (fun w => Is w x.kept x.ao) w) (q : Kp F w w') (hX : ∀ k, F k → X k) (ho : ∀ k, OwnB bb g wd vn vo vl k → ¬ F k)
    (hI : ∀ (k : Nat) (cs : Array Value) (t : TypeId), w.heap[k]? = some (.cells cs t (0, 0)) → t = 165 ∨ t = 159 → ¬ F k) :
    BoxS B w' bb g wd vn vo vl ms s a b c d ∧ ∀ x, x = a ∨ x = b ∨ x = c ∨ x = d → SafeF (fun k => OwnB bb g wd vn vo vl k ∨ X k) (fun w => Is w x.kept x.ao) w' := by
  have hs : ∀ x, x = a ∨ x = b ∨ x = c ∨ x = d → SafeF (fun k => OwnB bb g wd vn vo vl k ∨ X k) (fun w => Is w x.kept x.ao) w' := fun x hx => (hk x hx).step (q.mono fun k _ e => .inr (hX k e)) fun k _ e => e
  exact ⟨H.kept q ho fun p hp m hm => ⟨hm.there, fun l hl => ⟨(hm.code l hl).1.kept q hI, (hm.code l hl).2⟩, hm.shape, (hs p hp).mono fun k _ e => .inl e, hm.good⟩, hs⟩
structure MS (M : Mx) (X : Nat → Prop) (q : Vs) (s : Sg) (left : Nat) (calls : Int) (w : World) : Prop where
  box : ∃ a b c d, BoxS M.B w M.bb M.g M.wd q.n q.o q.l M.ms s a b c d ∧ ∀ x, x = a ∨ x = b ∨ x = c ∨ x = d → SafeF (fun k => M.own q k ∨ X k) (fun w => Is w x.kept x.ao) w
  ma : w.heap[M.mb]? = some (.cells #[.pointer (some ⟨M.bb, 0, none⟩), .int .i64 M.fuel, .int .i64 (M.fuel - (left : Int)), .int .i64 calls] 168 (0, 0))
  xm : X M.mb
  xo : ∀ k, X k → k < w.heap.size
  fu : M.fuel ≤ 2000
  lf : (left : Int) ≤ M.fuel
  ci : ∀ c ∈ s.cs, In64 c
theorem MS.free (H : MS M X q s left calls w) {k : Nat} {cs : Array Value} {t : TypeId} (hk : w.heap[k]? = some (.cells cs t (0, 0))) (h0 : t ≠ 67) (h1 : t ≠ 101) (h2 : t ≠ 72) (h3 : t ≠ 4) (h4 : t ≠ 96) (h5 : t ≠ 70) : ¬ M.own q k := by
  obtain ⟨a, b, c, d, hb, _⟩ := H.box
  exact hb.free hk h0 h1 h2 h3 h4 h5
theorem MS.new (H : MS M X q s left calls w) (k : Nat) (hk : w.heap.size ≤ k) : ¬ M.own q k := by
  obtain ⟨a, b, c, d, hb, _⟩ := H.box
  exact hb.new k hk
theorem MS.mfree (H : MS M X q s left calls w) : ¬ M.own q M.mb := H.free H.ma (by decide) (by decide) (by decide) (by decide) (by decide) (by decide)
theorem MS.cells (H : MS M X q s left calls w) : w.cell? ⟨M.mb, 0, none⟩ = some (.pointer (some ⟨M.bb, 0, none⟩)) ∧ w.cell? ⟨M.mb, 1, none⟩ = some (.int .i64 M.fuel) ∧ w.cell? ⟨M.mb, 2, none⟩ = some (.int .i64 (M.fuel - (left : Int))) ∧ w.cell? ⟨M.mb, 3, none⟩ = some (.int .i64 calls) := by
  refine ⟨?_, ?_, ?_, ?_⟩ <;> simp [World.cell?, H.ma]
theorem MS.bcells (H : MS M X q s left calls w) : w.cell? ⟨M.bb, 0, none⟩ = some (.pointer (some ⟨M.g, 0, none⟩)) ∧ w.cell? ⟨M.bb, 1, none⟩ = some (.pointer (some ⟨M.wd, 0, none⟩)) := by
  obtain ⟨a, b, c, d, hb, _⟩ := H.box
  refine ⟨?_, ?_⟩ <;> simp [World.cell?, hb.obj, boxC]
theorem MS.gs (H : MS M X q s left calls w) : GS 101 M.B w M.g q.n q.o s.ns s.os ∧ Wf s.ns s.os.length := by
  obtain ⟨a, b, c, d, hb, _⟩ := H.box
  exact ⟨hb.gs, hb.wf⟩
theorem MS.ws (H : MS M X q s left calls w) : Wo.WS M.B w M.wd s.cs q.l s.es := by
  obtain ⟨a, b, c, d, hb, _⟩ := H.box
  exact hb.ws
theorem MS.step (H : MS M X q s left calls w) (k : Quiet w w') (hX : ∀ k, k < w.heap.size → X' k → X k) (xm : X' M.mb) (xo : ∀ k, X' k → k < w'.heap.size) : MS M X' q s left calls w' := by
  obtain ⟨a, b, c, d, hb, hk⟩ := H.box
  refine ⟨⟨a, b, c, d, hb.quiet k, fun x hx => (hk x hx).step (k.mono fun _ _ e => e.elim) fun i hi e => ?_⟩, (k.block _ (lt_of_block H.ma) fun e => e).trans H.ma, xm, xo, H.fu, H.lf, H.ci⟩
  rcases e with e | e
  · exact .inl e
  · exact .inr (hX i hi e)
theorem MS.quiet (H : MS M X q s left calls w) (k : Quiet w w') : MS M X q s left calls w' := H.step k (fun _ _ e => e) H.xm fun i e => Nat.lt_of_lt_of_le (H.xo i e) k.size
theorem MS.less (H : MS M X q s left calls w) (hX : ∀ k, X' k → X k) (xm : X' M.mb) : MS M X' q s left calls w := H.step (Kp.refl _ _) (fun k _ e => hX k e) xm fun k e => H.xo k (hX k e)
theorem MS.beside {F : Nat → Prop} (H : MS M X q s left calls w) (k : Kp F w w') (hX : ∀ k, F k → X k) (hm : ¬ F M.mb) (ho : ∀ k, M.own q k → ¬ F k) (hI : ∀ (k : Nat) (cs : Array Value) (t : TypeId), w.heap[k]? = some (.cells cs t (0, 0)) → t = 165 ∨ t = 159 → ¬ F k) : MS M X q s left calls w' := by
  obtain ⟨a, b, c, d, hb, hk⟩ := H.box
  obtain ⟨h1, h2⟩ := box_beside hb hk k hX ho hI
  exact ⟨⟨a, b, c, d, h1, h2⟩, (k.block _ (lt_of_block H.ma) hm).trans H.ma, H.xm, fun i e => Nat.lt_of_lt_of_le (H.xo i e) k.size, H.fu, H.lf, H.ci⟩
theorem MS.put (H : MS M X q s left calls w) (k : Kp (fun k => k = M.mb) w w') (hb : w'.heap[M.mb]? = some (.cells #[.pointer (some ⟨M.bb, 0, none⟩), .int .i64 M.fuel, .int .i64 (M.fuel - (left' : Int)), .int .i64 calls'] 168 (0, 0))) (hl : (left' : Int) ≤ M.fuel) : MS M X q s left' calls' w' ∧ GoesM M q w q w' := by
  obtain ⟨a, b, c, d, hB, hk⟩ := H.box
  obtain ⟨h1, h2⟩ := box_beside hB hk k (fun i e => e ▸ H.xm) (fun i hi e => H.mfree (e ▸ hi)) (fun i cs t hi ht e => by
    rw [e, H.ma] at hi
    simp at hi
    rcases ht with ht | ht <;> rw [ht] at hi <;> exact absurd hi.2 (by decide))
  exact ⟨⟨⟨a, b, c, d, h1, h2⟩, hb, H.xm, fun i e => Nat.lt_of_lt_of_le (H.xo i e) k.size, H.fu, hl, H.ci⟩, GoesM.tick M q k⟩
theorem MS.graph {vn' vo' : Value} {ns' : List Nd} {os' : List Bool} (H : MS M X q s left calls w) (hg : Gr.Goes M.g q.n q.o w vn' vo' w') (hgs : GS 101 M.B w' M.g vn' vo' ns' os') (hwf : Wf ns' os'.length) :
    MS M X ⟨vn', vo', q.l⟩ { s with ns := ns', os := os' } left calls w' ∧ GoesM M q w ⟨vn', vo', q.l⟩ w' := by
  obtain ⟨a, b, c, d, hb, hk⟩ := H.box
  obtain ⟨h1, h2⟩ := hb.graph hg hgs hwf
  have G : GoesM M q w ⟨vn', vo', q.l⟩ w' := GoesM.box h2
  exact ⟨⟨⟨a, b, c, d, h1, fun x hx => G.safe H.xm (hk x hx)⟩, (h2.block H.ma H.mfree).1, H.xm, fun i e => Nat.lt_of_lt_of_le (H.xo i e) h2.kp.size, H.fu, H.lf, H.ci⟩, G⟩
theorem MS.world {vl' : Value} {cs' : List Int} {es' : List Wo.Ent} (H : MS M X q s left calls w) (hg : Wo.Goes M.wd q.l w vl' w') (hws : Wo.WS M.B w' M.wd cs' vl' es') (hci : ∀ c ∈ cs', In64 c) :
    MS M X ⟨q.n, q.o, vl'⟩ { s with cs := cs', es := es' } left calls w' ∧ GoesM M q w ⟨q.n, q.o, vl'⟩ w' := by
  obtain ⟨a, b, c, d, hb, hk⟩ := H.box
  obtain ⟨h1, h2⟩ := hb.world hg hws
  have G : GoesM M q w ⟨q.n, q.o, vl'⟩ w' := GoesM.box h2
  exact ⟨⟨⟨a, b, c, d, h1, fun x hx => G.safe H.xm (hk x hx)⟩, (h2.block H.ma H.mfree).1, H.xm, fun i e => Nat.lt_of_lt_of_le (H.xo i e) h2.kp.size, H.fu, H.lf, hci⟩, G⟩
def MQ (M : Mx) (X : Nat → Prop) (q : Vs) (calls : Int) (o : Out) (w : World) (e : Ending) (w' : World) : Prop :=
  ∃ q', GoesM M q w q' w' ∧ match o.got with
    | .ok v => MS M X q' o.s o.left calls w' ∧ ∃ ao cap, e = .returned (.agg #[.int .i64 v.kind, .int .i64 v.n, .slice ao v.l.length cap]) ∧ SafeF (fun k => M.own q' k ∨ X k) (fun w => Is w v ao) w'
    | .error c => (∃ calls', MS M X q' o.s o.left calls' w') ∧ e = .panicked (gaveM c)
theorem MQ.mk_ok {o : Out} {v : V} {e : Ending} {ao : Option Addr} {cap : Nat} (ho : o.got = .ok v) (g : GoesM M q w q' w') (h : MS M X q' o.s o.left calls w') (he : e = .returned (.agg #[.int .i64 v.kind, .int .i64 v.n, .slice ao v.l.length cap])) (hs : SafeF (fun k => M.own q' k ∨ X k) (fun w => Is w v ao) w') : MQ M X q calls o w e w' := by
  refine ⟨q', g, ?_⟩
  rw [ho]
  exact ⟨h, ao, cap, he, hs⟩
theorem MQ.mk_bad {o : Out} {c : Int} {e : Ending} (ho : o.got = .error c) (g : GoesM M q w q' w') (h : MS M X q' o.s o.left calls' w') (he : e = .panicked (gaveM c)) : MQ M X q calls o w e w' := by
  refine ⟨q', g, ?_⟩
  rw [ho]
  exact ⟨⟨calls', h⟩, he⟩
theorem MQ.ok {o : Out} {v : V} {e : Ending} (H : MQ M X q calls o w e w') (ho : o.got = .ok v) : ∃ q' ao cap, e = .returned (.agg #[.int .i64 v.kind, .int .i64 v.n, .slice ao v.l.length cap]) ∧ GoesM M q w q' w' ∧ MS M X q' o.s o.left calls w' ∧ SafeF (fun k => M.own q' k ∨ X k) (fun w => Is w v ao) w' := by
  obtain ⟨q', g, h⟩ := H
  rw [ho] at h
  obtain ⟨h, ao, cap, he, hs⟩ := h
  exact ⟨q', ao, cap, he, g, h, hs⟩
theorem MQ.bad {o : Out} {c : Int} {e : Ending} (H : MQ M X q calls o w e w') (ho : o.got = .error c) : e = .panicked (gaveM c) ∧ ∃ q' calls', GoesM M q w q' w' ∧ MS M X q' o.s o.left calls' w' := by
  obtain ⟨q', g, h⟩ := H
  rw [ho] at h
  obtain ⟨⟨calls', h⟩, he⟩ := h
  exact ⟨he, q', calls', g, h⟩
end
theorem xneed_yes (c : Int) (w : World) : Calls Tryz.prog 154 #[.bool true, .int .i64 c] w fun e w' => e = .returned (.tuple #[]) ∧ w' = w := by
  go_enter Tryz.func154, Tryz.ntmps154
  go_wp2
  go_end0
  exact ⟨rfl, rfl⟩
theorem xneed_no (c : Int) (w : World) : Calls Tryz.prog 154 #[.bool false, .int .i64 c] w fun e w' => e = .panicked (gaveM c) ∧ w' = w := by
  go_enter Tryz.func154, Tryz.ntmps154
  go_wp2
  exact ⟨rfl, rfl, rfl⟩
theorem xnumber_any (n : Int) (w : World) : Calls Tryz.prog 156 #[.int .i64 n] w fun e w' => e = .returned (.agg #[.int .i64 1, .int .i64 n, .slice none 0 0]) ∧ Quiet w w' := by
  go_enter Tryz.func156, Tryz.ntmps156
  go_wp2
  refine bodyPost_ret (v := .agg #[.int .i64 1, .int .i64 n, .slice none 0 0]) (by simp [results, Tryz.results156, go_sem]) rfl ⟨rfl, ?_⟩
  exact Kp.alloc _ _
def bitI (b : Bool) : Int := if b then 1 else 0
theorem xtruth_any (b : Bool) (w : World) : Calls Tryz.prog 169 #[.bool b] w fun e w' => e = .returned (.int .i64 (bitI b)) ∧ w' = w := by
  cases b
  all_goals
    go_enter Tryz.func169, Tryz.ntmps169
    go_wp2
    go_ret
    exact ⟨rfl, rfl⟩
theorem is_pair {w : World} {g : Nat} {a b : V} {aa ba : Option Addr} {ac bc : Nat} (h : w.heap[g]? = some (.cells #[.int .i64 a.kind, .int .i64 a.n, .slice aa a.l.length ac, .int .i64 b.kind, .int .i64 b.n, .slice ba b.l.length bc] 38 (0, 0))) (ha : Is w a aa) (hb : Is w b ba) : Is w ⟨2, 0, [a, b]⟩ (some ⟨g, 0, none⟩) := by
  refine ⟨⟨small_in 2 (by decide), small_in 0 (by decide)⟩, fun i hi => ?_⟩
  have hi2 : i < 2 := hi
  match i, hi2 with
  | 0, _ => exact ⟨g, 0, rfl, (at_iff _ _ _ _).2 ⟨⟨by simp [World.cell?, h], by simp [World.cell?, h]⟩, aa, ac, by simp [World.cell?, h], ha⟩⟩
  | 1, _ => exact ⟨g, 0, rfl, (at_iff _ _ _ _).2 ⟨⟨by simp [World.cell?, h], by simp [World.cell?, h]⟩, ba, bc, by simp [World.cell?, h], hb⟩⟩
theorem is_one {w : World} {g : Nat} {a : V} {aa : Option Addr} {ac : Nat} (k n : Int) (hk : In64 k) (hn : In64 n) (h : w.heap[g]? = some (.cells #[.int .i64 a.kind, .int .i64 a.n, .slice aa a.l.length ac] 38 (0, 0))) (ha : Is w a aa) : Is w ⟨k, n, [a]⟩ (some ⟨g, 0, none⟩) := by
  refine ⟨⟨hk, hn⟩, fun i hi => ?_⟩
  obtain rfl : i = 0 := by simp at hi; omega
  exact ⟨g, 0, rfl, (at_iff _ _ _ _).2 ⟨⟨by simp [World.cell?, h], by simp [World.cell?, h]⟩, aa, ac, by simp [World.cell?, h], ha⟩⟩
set_option maxRecDepth 8000 in
set_option maxHeartbeats 1000000 in
theorem xpair_any (F : Nat → Prop) (a b : V) (aa ba : Option Addr) (ac bc : Nat) (w : World) (hF : ∀ k, F k → k < w.heap.size) (ha : SafeF F (fun w => Is w a aa) w) (hb : SafeF F (fun w => Is w b ba) w) :
    Calls Tryz.prog 159 #[.agg #[.int .i64 a.kind, .int .i64 a.n, .slice aa a.l.length ac], .agg #[.int .i64 b.kind, .int .i64 b.n, .slice ba b.l.length bc]] w fun e w' => ∃ ao, e = .returned (.agg #[.int .i64 2, .int .i64 0, .slice ao 2 2]) ∧ SafeF F (fun w => Is w ⟨2, 0, [a, b]⟩ ao) w' ∧ Quiet w w' := by
  have HI := hid (And.intro hF (And.intro ha hb))
  clear hF ha hb
  go_enter Tryz.func159, Tryz.ntmps159
  go_wp2
  refine bodyPost_ret (v := .agg #[.int .i64 2, .int .i64 0, .slice (some ⟨w.heap.size + 3, 0, none⟩) 2 2]) (by simp [results, Tryz.results159, go_sem]) rfl ?_
  obtain ⟨hF, ha, hb⟩ := HI.out
  clear HI
  have hq : ∀ o1 o2 o3 o4 : Obj, Quiet w ((((w.alloc o1).alloc o2).alloc o3).alloc o4) := fun _ _ _ _ => (((Kp.alloc _ _).trans (Kp.alloc _ _)).trans (Kp.alloc _ _)).trans (Kp.alloc _ _)
  refine ⟨_, rfl, fun w' k => ?_, hq _ _ _ _⟩
  have hb4 := (four_new w (.cells #[.int .i64 a.kind, .int .i64 a.n, .slice aa a.l.length ac] 38) (.cells #[.int .i64 b.kind, .int .i64 b.n, .slice ba b.l.length bc] 38) (.cells #[.int .i64 2, .int .i64 0, .slice (some ⟨w.heap.size + 1 + 1 + 1, 0, none⟩) 2 2] 38) (.cells #[.int .i64 a.kind, .int .i64 a.n, .slice aa a.l.length ac, .int .i64 b.kind, .int .i64 b.n, .slice ba b.l.length bc] 38)).2.2.2
  refine is_pair ((k.block _ (lt_of_block hb4) fun e => ?_).trans hb4) (safe_quiet ha (hq _ _ _ _) w' k) (safe_quiet hb (hq _ _ _ _) w' k)
  have := hF _ e
  omega
theorem xisFunc_any (n : Nd) (w : World) : Calls Tryz.prog 175 #[n.agg] w fun e w' => e = .returned (.bool (decide (0 ≤ n.plugin))) ∧ Quiet w w' := by
  go_enter Tryz.func175, Tryz.ntmps175
  unfold Gr.Nd.agg
  go_wp2
  go_ret
  exact ⟨rfl, Kp.alloc _ _⟩
set_option maxRecDepth 8000 in
set_option maxHeartbeats 1000000 in
theorem xhas_any (th : Bool) (ao : Option Addr) (n cap : Nat) (x y z : Value) (f : Int) (w : World) :
    Calls Tryz.prog 104 #[.agg #[.bool th, .slice ao n cap, x, y, z], .int .i64 f] w fun e w' => e = .returned (.bool (th && decide (0 ≤ f) && decide (f < (n : Int)))) ∧ Quiet w w' := by
  cases th
  · go_enter Tryz.func104, Tryz.ntmps104
    go_wp2
    go_ret
    exact ⟨rfl, Kp.alloc _ _⟩
  · cases h1 : decide (0 ≤ f)
    · go_enter Tryz.func104, Tryz.ntmps104
      go_wp2
      go_ret
      exact ⟨rfl, Kp.alloc _ _⟩
    · go_enter Tryz.func104, Tryz.ntmps104
      go_wp2
      go_ret
      exact ⟨rfl, Kp.alloc _ _⟩
set_option maxRecDepth 8000 in
set_option maxHeartbeats 1000000 in
theorem xwhole_yes (v : V) (ao : Option Addr) (cap : Nat) (w : World) (hI : Is w v ao) (hS : v.size ≤ 500) (hc : v.check = 0) :
    Calls Tryz.prog 158 #[.agg #[.int .i64 v.kind, .int .i64 v.n, .slice ao v.l.length cap]] w fun e w' => e = .returned (.agg #[.int .i64 v.kind, .int .i64 v.n, .slice ao v.l.length cap]) ∧ Quiet w w' := by
  obtain ⟨W, hW⟩ : ∃ W, W = (w.alloc (.cells #[.int .i64 v.kind, .int .i64 v.n, .slice ao v.l.length cap] 38)).alloc (.cells #[.int .i64 0, .int .i64 0, .slice none 0 0] 38) := ⟨_, rfl⟩
  have qW : Quiet w W := by rw [hW]; exact (Kp.alloc _ _).trans (Kp.alloc _ _)
  have b0 : W.heap[w.heap.size]? = some (.cells #[.int .i64 v.kind, .int .i64 v.n, .slice ao v.l.length cap] 38 (0, 0)) := by rw [hW, Below.heap_alloc _ _ _ (by simp)]; exact heap_alloc_new w _
  have b1 : W.heap[w.heap.size + 1]? = some (.cells #[.int .i64 0, .int .i64 0, .slice none 0 0] 38 (0, 0)) := by rw [hW]; exact heap_two w _ _
  have HC := hid (check_any v ao cap W (hI.quiet qW) hS)
  have HW := hid (And.intro hW (And.intro qW (And.intro b0 b1)))
  rw [hc] at HC
  rw [hW] at HC
  clear hI hS hc qW b0 b1 hW
  go_enter Tryz.func158, Tryz.ntmps158
  go_wp2_with (first
    | (go_at_call 154; refine (xneed_yes _ _).mono ?_; rintro e w3 ⟨rfl, h3⟩; replace h3 := h3.symm; subst h3)
    | (go_at_call 105; refine HC.out.mono ?_; rintro e w2 ⟨rfl, q2⟩; rw [← HW.out.1] at q2; obtain ⟨z0, z1, z2⟩ := box_cells ((q2.block _ (lt_of_block HW.out.2.2.1) fun e => e).trans HW.out.2.2.1); have hb2 := (q2.block _ (lt_of_block HW.out.2.2.2) fun e => e).trans HW.out.2.2.2; obtain ⟨m0, m1, m2⟩ := box_cells hb2; obtain ⟨f0, f1, f2⟩ := box_free3 hb2; have hz := lt_of_block hb2; have Q2 := hid q2; clear q2 hb2))
  refine bodyPost_ret (v := .agg #[.int .i64 v.kind, .int .i64 v.n, .slice ao v.l.length cap]) (by simp [results, Tryz.results158, go_sem, m0, m1, m2]) rfl ⟨rfl, ?_⟩
  exact (HW.out.2.1.trans Q2.out).fresh ((three_set _ _ _ _ _).mono fun k _ e => by omega)
set_option maxRecDepth 8000 in
set_option maxHeartbeats 1000000 in
theorem xwhole_no (v : V) (ao : Option Addr) (cap : Nat) (w : World) (hI : Is w v ao) (hS : v.size ≤ 500) (hc : v.check ≠ 0) :
    Calls Tryz.prog 158 #[.agg #[.int .i64 v.kind, .int .i64 v.n, .slice ao v.l.length cap]] w fun e w' => e = .panicked (gaveM v.check) ∧ Quiet w w' := by
  obtain ⟨W, hW⟩ : ∃ W, W = (w.alloc (.cells #[.int .i64 v.kind, .int .i64 v.n, .slice ao v.l.length cap] 38)).alloc (.cells #[.int .i64 0, .int .i64 0, .slice none 0 0] 38) := ⟨_, rfl⟩
  have qW : Quiet w W := by rw [hW]; exact (Kp.alloc _ _).trans (Kp.alloc _ _)
  have HC := hid (check_any v ao cap W (hI.quiet qW) hS)
  have HW := hid (And.intro hW qW)
  rw [hW] at HC
  have hcb : (v.check == 0) = false := by simpa using hc
  generalize v.check = cd at *
  clear hI hS qW hW hc
  go_enter Tryz.func158, Tryz.ntmps158
  go_wp2_with (first
    | (go_at_call 154; refine (xneed_no _ _).mono ?_; rintro e w3 ⟨rfl, h3⟩; replace h3 := h3.symm; subst h3)
    | (go_at_call 105; refine HC.out.mono ?_; rintro e w2 ⟨rfl, q2⟩; rw [← HW.out.1] at q2; have Q2 := hid q2; clear q2))
  exact ⟨rfl, rfl, HW.out.2.trans Q2.out⟩
set_option maxRecDepth 8000 in
set_option maxHeartbeats 1000000 in
theorem arith_c : ArithC := by
  intro k a b w ha hb
  have ht := hid (fun b => xtruth_any b w)
  by_cases h1 : k = 1
  · subst h1
    go_enter Tryz.func157, Tryz.ntmps157
    go_wp2
    go_ret
    exact ⟨by simp [arith], Kp.refl _ _⟩
  by_cases h2 : k = 2
  · subst h2
    go_enter Tryz.func157, Tryz.ntmps157
    go_wp2
    go_ret
    exact ⟨by simp [arith], Kp.refl _ _⟩
  by_cases h3 : k = 3
  · subst h3
    go_enter Tryz.func157, Tryz.ntmps157
    go_wp2
    go_ret
    exact ⟨by simp [arith], Kp.refl _ _⟩
  by_cases h4 : k = 4
  · subst h4
    have HA := hid (show arith 4 a b = bitI (decide (a < b)) by simp [arith, bitI])
    go_enter Tryz.func157, Tryz.ntmps157
    go_wp2_with (go_at_call 169; refine (ht.out _).mono ?_; rintro e w3 ⟨rfl, h3⟩; replace h3 := h3.symm; subst h3)
    go_ret
    exact ⟨by rw [HA.out]; rfl, Kp.refl _ _⟩
  by_cases h5 : k = 5
  · subst h5
    have HA := hid (show arith 5 a b = bitI (a == b) by simp [arith, bitI])
    go_enter Tryz.func157, Tryz.ntmps157
    go_wp2_with (go_at_call 169; refine (ht.out _).mono ?_; rintro e w3 ⟨rfl, h3⟩; replace h3 := h3.symm; subst h3)
    go_ret
    exact ⟨by rw [HA.out]; rfl, Kp.refl _ _⟩
  have e1 : (k == 1) = false := by simpa using h1
  have e2 : (k == 2) = false := by simpa using h2
  have e3 : (k == 3) = false := by simpa using h3
  have e4 : (k == 4) = false := by simpa using h4
  have e5 : (k == 5) = false := by simpa using h5
  have HE := hid (show arith k a b = 0 by simp [arith, h1, h2, h3, h4, h5])
  clear h1 h2 h3 h4 h5
  go_enter Tryz.func157, Tryz.ntmps157
  go_wp2
  go_ret
  exact ⟨by rw [HE.out]; rfl, Kp.refl _ _⟩
theorem pgs_none {w : World} {F : Nat → Prop} : PgS w F none ⟨false, .slice none 0 0, v0, none, 0⟩ := ⟨rfl, fun l e => (by cases e), ⟨_, _, _, rfl⟩, safe_leaf v0 v0_fits rfl none, show v0.check = 0 by decide⟩
set_option maxRecDepth 8000 in
set_option maxHeartbeats 1000000 in
theorem new_c : NewC := by
  intro B w hB
  have H1 := hid (Gr.new_any B w hB)
  have H2 := hid (fun (w1 : World) (h : B ≤ w1.heap.size) => Wo.new_any B w1 h)
  go_enter Tryz.func44, Tryz.ntmps44
  go_wp2_with (first
    | (go_at_call 70; refine (H2.out _ (Nat.le_trans hB q1.size)).mono ?_; rintro e w2 ⟨rfl, h2, q2⟩)
    | (go_at_call 69; refine H1.out.mono ?_; rintro e w1 ⟨rfl, h1, q1⟩))
  go_ret
  have q3 : Quiet w2 (w2.alloc (.cells (boxC w.heap.size w1.heap.size ⟨false, .slice none 0 0, v0, none, 0⟩ ⟨false, .slice none 0 0, v0, none, 0⟩ ⟨false, .slice none 0 0, v0, none, 0⟩ ⟨false, .slice none 0 0, v0, none, 0⟩).toArray 67)) := Kp.alloc _ _
  refine ⟨w2.heap.size, w.heap.size, w1.heap.size, _, _, _, rfl, ⟨_, _, _, _, ⟨heap_alloc_new w2 _, (h1.quiet q2).quiet q3, ?_, h2.kept q3 fun _ _ e => e, rfl, Nat.le_trans hB (Nat.le_trans q1.size q2.size), none, none, none, none, rfl, pgs_none, pgs_none, pgs_none, pgs_none⟩⟩, Nat.le_trans q1.size q2.size, (q1.trans q2).trans q3⟩
  exact Gr.Wf.nil _
theorem Tryz.mixedM : Tryz.prog.follows .mixedOrders = true := by kernel_rfl
section
variable {M : Mx} {q : Vs} {w : World} {X : Nat → Prop} {s : Sg} {left : Nat} {calls : Int}
set_option maxRecDepth 8000 in
set_option maxHeartbeats 2000000 in
theorem xstep_no (H : MS M X q s 0 calls w) : Calls Tryz.prog 145 #[.pointer (some ⟨M.mb, 0, none⟩)] w fun e w' => e = .panicked (gaveM 12) ∧ Quiet w w' := by
  obtain ⟨c0, c1, c2, c3⟩ := H.cells
  have hd : decide (M.fuel - ((0 : Nat) : Int) < M.fuel) = false := by simp
  generalize M.fuel - ((0 : Nat) : Int) = u at *
  go_enter Tryz.func145, Tryz.ntmps145
  go_wp2
  go_still_tail 9, Tryz.mixedM
  go_wp2_with (go_at_call 154; refine (xneed_no _ _).mono ?_; rintro e w3 ⟨rfl, h3⟩; replace h3 := h3.symm; subst h3)
  exact ⟨rfl, rfl, Kp.drew _⟩
set_option maxRecDepth 8000 in
set_option maxHeartbeats 2000000 in
theorem xstep_yes (H : MS M X q s (left + 1) calls w) : Calls Tryz.prog 145 #[.pointer (some ⟨M.mb, 0, none⟩)] w fun e w' => e = .returned (.tuple #[]) ∧ MS M X q s left calls w' ∧ GoesM M q w q w' := by
  have HD := H.quiet (Kp.drew w)
  obtain ⟨c0, c1, c2, c3⟩ := H.cells
  obtain ⟨d0, d1, d2, d3⟩ := HD.cells
  have hd : decide (M.fuel - ((left + 1 : Nat) : Int) < M.fuel) = true := by simp; omega
  have hf := H.fu
  have hl := H.lf
  have hfz := fun j => frozen_of_row w.drew M.mb j _ 168 HD.ma
  have hsz := lt_of_block HD.ma
  have HU := hid (show M.fuel - ((left + 1 : Nat) : Int) + 1 = M.fuel - (left : Int) by omega)
  have hw : IntKind.i64.wrap (M.fuel - ((left + 1 : Nat) : Int) + 1) = M.fuel - ((left + 1 : Nat) : Int) + 1 := by rw [IntKind.wrap_i64]; omega
  have HM := hid HD.ma
  have HH := hid HD
  generalize M.fuel - ((left + 1 : Nat) : Int) = u at *
  clear HD H
  go_enter Tryz.func145, Tryz.ntmps145
  go_wp2
  go_still_tail 9, Tryz.mixedM
  go_wp2_with (go_at_call 154; refine (xneed_yes _ _).mono ?_; rintro e w3 ⟨rfl, h3⟩; replace h3 := h3.symm; subst h3)
  go_end0
  have hk := kp_set w.drew M.mb 2 (.int .i64 (u + 1))
  obtain ⟨h1, h2⟩ := HH.out.put (left' := left) (calls' := calls) hk (by rw [← HU.out]; simp [World.setCell, Array.getElem?_modify, HM.out]) (by omega)
  exact ⟨rfl, h1, (GoesM.quiet M q (Kp.drew w)).trans h2⟩
theorem xneedRoom_yes (H : MS M X q s left calls w) (hc : calls < 20) : Calls Tryz.prog 166 #[.pointer (some ⟨M.mb, 0, none⟩)] w fun e w' => e = .returned (.tuple #[]) ∧ w' = w := by
  obtain ⟨c0, c1, c2, c3⟩ := H.cells
  have hd : decide (calls < 20) = true := by simpa using hc
  clear hc
  go_enter Tryz.func166, Tryz.ntmps166
  go_wp2_with (go_at_call 154; refine (xneed_yes _ _).mono ?_; rintro e w3 ⟨rfl, h3⟩; replace h3 := h3.symm; subst h3)
  go_end0
  exact ⟨rfl, rfl⟩
theorem xneedRoom_no (H : MS M X q s left calls w) (hc : ¬ calls < 20) : Calls Tryz.prog 166 #[.pointer (some ⟨M.mb, 0, none⟩)] w fun e w' => e = .panicked (gaveM 4) ∧ w' = w := by
  obtain ⟨c0, c1, c2, c3⟩ := H.cells
  have hd : decide (calls < 20) = false := by simpa using hc
  clear hc
  go_enter Tryz.func166, Tryz.ntmps166
  go_wp2_with (go_at_call 154; refine (xneed_no _ _).mono ?_; rintro e w3 ⟨rfl, h3⟩; replace h3 := h3.symm; subst h3)
  exact ⟨rfl, rfl, rfl⟩
def RBit (bit : Nat) (r : Int) : Prop := (bit = 0 ∧ r = 1) ∨ (bit = 1 ∧ r = 2) ∨ (bit = 3 ∧ r = 8)
theorem rbit_and {bit : Nat} {r : Int} (h : RBit bit r) (n : Nat) (hn : n ≤ 15) : (bits .and .i64 (n : Int) r == r) = n.testBit bit := by
  have h0 : ∀ q : Fin 16, (bits .and .i64 (q.val : Int) 1 == 1) = q.val.testBit 0 := by decide +kernel
  have h1 : ∀ q : Fin 16, (bits .and .i64 (q.val : Int) 2 == 2) = q.val.testBit 1 := by decide +kernel
  have h3 : ∀ q : Fin 16, (bits .and .i64 (q.val : Int) 8 == 8) = q.val.testBit 3 := by decide +kernel
  rcases h with ⟨rfl, rfl⟩ | ⟨rfl, rfl⟩ | ⟨rfl, rfl⟩
  · exact h0 ⟨n, by omega⟩
  · exact h1 ⟨n, by omega⟩
  · exact h3 ⟨n, by omega⟩
theorem hasr_any {bit : Nat} {r : Int} (h : RBit bit r) (n : Nat) (hn : n ≤ 15) (w : World) : Calls Tryz.prog 60 #[.int .i64 n, .int .i64 r] w fun e w' => e = .returned (.bool (n.testBit bit)) ∧ w' = w := by
  have hE := hid (rbit_and h n hn)
  go_enter Tryz.func60, Tryz.ntmps60
  go_wp2
  go_ret
  exact ⟨by rw [← hE.out]; rfl, rfl⟩
set_option maxRecDepth 8000 in
set_option maxHeartbeats 2000000 in
theorem xtarget_no {bit : Nat} {r : Int} (H : MS M X q s left calls w) (hb : RBit bit r) (n : Int) (hr : (rightsN s.ns s.os n).testBit bit = false) : Calls Tryz.prog 174 #[.pointer (some ⟨M.mb, 0, none⟩), .int .i64 n, .int .i64 r] w fun e w' => e = .panicked (gaveM 9) ∧ Quiet w w' := by
  have q1 : Quiet w (w.alloc (.cells nd0.cells.toArray 72)) := Kp.alloc w _
  have H1 := H.quiet q1
  obtain ⟨c0, c1, c2, c3⟩ := H1.cells
  obtain ⟨b0, b1⟩ := H1.bcells
  have HR := hid (Gr.rights_any H1.gs.1 H1.gs.2 n)
  have HB := hid (fun w => hasr_any hb _ (Gr.rights_le s.ns s.os n) w)
  rw [hr] at HB
  simp only [Gr.Nd.cells, nd0] at q1 HR c0 c1 c2 c3 b0 b1
  have Q1 := hid q1
  generalize rightsN s.ns s.os n = rn at *
  clear H1 H q1 hr
  go_enter Tryz.func174, Tryz.ntmps174
  go_wp2_with (first
    | (go_at_call 154; refine (xneed_no _ _).mono ?_; rintro e w4 ⟨rfl, h4⟩; replace h4 := h4.symm; subst h4)
    | (go_at_call 60; refine (HB.out _).mono ?_; rintro e w3 ⟨rfl, h3⟩; replace h3 := h3.symm; subst h3)
    | (go_at_call 179; refine HR.out.mono ?_; rintro e w2 ⟨rfl, q2⟩))
  exact ⟨rfl, rfl, Q1.out.trans q2⟩
theorem six_put {w : World} {g : Nat} {x0 x1 x2 x3 x4 x5 : Value} {t : TypeId} (h : w.heap[g]? = some (.cells #[x0, x1, x2, x3, x4, x5] t (0, 0))) (t0 t1 t2 t3 t4 t5 : Value) :
    ((((((w.setCell ⟨g, 0, none⟩ t0).setCell ⟨g, 1, none⟩ t1).setCell ⟨g, 2, none⟩ t2).setCell ⟨g, 3, none⟩ t3).setCell ⟨g, 4, none⟩ t4).setCell ⟨g, 5, none⟩ t5).heap[g]? = some (.cells #[t0, t1, t2, t3, t4, t5] t (0, 0)) := by
  simp [World.setCell, Array.getElem?_modify, h]
set_option maxRecDepth 8000 in
set_option maxHeartbeats 2000000 in
theorem xtarget_yes {bit : Nat} {r : Int} (H : MS M X q s left calls w) (hb : RBit bit r) (n : Int) (hr : (rightsN s.ns s.os n).testBit bit = true) : Calls Tryz.prog 174 #[.pointer (some ⟨M.mb, 0, none⟩), .int .i64 n, .int .i64 r] w fun e w' => e = .returned (targetOf s.ns n).agg ∧ Quiet w w' := by
  have q1 : Quiet w (w.alloc (.cells nd0.cells.toArray 72)) := Kp.alloc w _
  have B1 := heap_alloc_new w (.cells nd0.cells.toArray 72)
  have H1 := H.quiet q1
  obtain ⟨c0, c1, c2, c3⟩ := H1.cells
  obtain ⟨b0, b1⟩ := H1.bcells
  have HR := hid (Gr.rights_any H1.gs.1 H1.gs.2 n)
  have HT := hid (fun (w' : World) (k : Quiet _ w') => And.intro (Gr.target_any (H1.quiet k).gs.1 (H1.quiet k).gs.2 n) (And.intro (H1.quiet k).cells.1 (And.intro (H1.quiet k).bcells.1 ((k.block _ (lt_of_block B1) fun e => e).trans B1))))
  have HB := hid (fun w => hasr_any hb _ (Gr.rights_le s.ns s.os n) w)
  rw [hr] at HB
  simp only [Gr.Nd.cells, nd0] at q1 HR c0 c1 c2 c3 b0 b1 HT
  have Q1 := hid q1
  generalize rightsN s.ns s.os n = rn at *
  generalize targetOf s.ns n = tn at *
  obtain ⟨t0, t1, t2, t3, t4, t5⟩ := tn
  simp only [Gr.Nd.agg] at HT ⊢
  generalize thereB s.ns.length n = bt at *
  clear H1 H q1 hr B1
  go_enter Tryz.func174, Tryz.ntmps174
  go_wp2_with (first
    | (go_at_call 18; refine (HT.out _ q2).1.mono ?_; rintro e w5 ⟨rfl, q5⟩; have hb5 := (HT.out _ (q2.trans q5)).2.2.2; obtain ⟨z0, z1, z2, z3, z4, z5⟩ := Gr.six hb5; obtain ⟨f0, f1, f2, f3, f4, f5⟩ := Gr.sixf hb5; have hz := lt_of_block hb5; have HB5 := hid hb5; clear hb5)
    | (go_at_call 154; refine (xneed_yes _ _).mono ?_; rintro e w4 ⟨rfl, h4⟩; replace h4 := h4.symm; subst h4)
    | (go_at_call 60; refine (HB.out _).mono ?_; rintro e w3 ⟨rfl, h3⟩; replace h3 := h3.symm; subst h3)
    | (go_at_call 179; refine HR.out.mono ?_; rintro e w2 ⟨rfl, q2⟩; have d0 := (HT.out _ q2).2.1; have d1 := (HT.out _ q2).2.2.1))
  have hb6 := six_put HB5.out (.int .i64 t0) (.int .i64 t1) (.int .i64 t2) (.int .i64 t3) (.int .i64 t4) (.int .i64 t5)
  have q6 := Gr.six_q (Q1.out.trans (q2.trans q5)) (.int .i64 t0) (.int .i64 t1) (.int .i64 t2) (.int .i64 t3) (.int .i64 t4) (.int .i64 t5)
  generalize (((((w5.setCell ⟨w.heap.size, 0, none⟩ (.int .i64 t0)).setCell ⟨w.heap.size, 1, none⟩ (.int .i64 t1)).setCell ⟨w.heap.size, 2, none⟩ (.int .i64 t2)).setCell ⟨w.heap.size, 3, none⟩ (.int .i64 t3)).setCell ⟨w.heap.size, 4, none⟩ (.int .i64 t4)).setCell ⟨w.heap.size, 5, none⟩ (.int .i64 t5) = W6 at *
  obtain ⟨y0, y1, y2, y3, y4, y5⟩ := Gr.six ((Below.heap_alloc W6 (.cells #[.int .i64 t0, .int .i64 t1, .int .i64 t2, .int .i64 t3, .int .i64 t4, .int .i64 t5] 72) _ (lt_of_block hb6)).trans hb6)
  refine bodyPost_ret (v := .agg #[.int .i64 t0, .int .i64 t1, .int .i64 t2, .int .i64 t3, .int .i64 t4, .int .i64 t5]) (by simp [results, Tryz.results174, go_sem, y0, y1, y2, y3, y4, y5]) rfl ⟨rfl, ?_⟩
  exact q6.trans (Kp.alloc _ _)
end
def cellE (r : Except Int Int) : Ending := match r with
  | .ok c => .returned (.int .i64 c)
  | .error c => .panicked (gaveM c)
section
variable {M : Mx} {q : Vs} {w : World} {X : Nat → Prop} {s : Sg} {left : Nat} {calls : Int}
set_option maxRecDepth 8000 in
set_option maxHeartbeats 2000000 in
theorem xcell_any {bit : Nat} {r : Int} (H : MS M X q s left calls w) (hb : RBit bit r) (n : Int) : Calls Tryz.prog 171 #[.pointer (some ⟨M.mb, 0, none⟩), .int .i64 n, .int .i64 r] w fun e w' => e = cellE (cellR s (capV n) bit) ∧ Quiet w w' := by
  cases hr : (rightsN s.ns s.os n).testBit bit with
  | false =>
    have HE := hid (show cellR s (capV n) bit = .error 9 by simp [cellR, capV, hr])
    have HT := hid (xtarget_no H hb n hr)
    clear hr
    go_enter Tryz.func171, Tryz.ntmps171
    go_wp2_with (go_at_call 174; refine HT.out.mono ?_; rintro e w2 ⟨rfl, q2⟩)
    exact ⟨rfl, by rw [HE.out]; rfl, q2⟩
  | true =>
    have HT := hid (xtarget_yes H hb n hr)
    by_cases hp : 0 ≤ (targetOf s.ns n).plugin
    · have HE := hid (show cellR s (capV n) bit = .error 2 by simp [cellR, capV, hr, hp])
      generalize targetOf s.ns n = tn at *
      have HF := hid (fun w => xisFunc_any tn w)
      rw [decide_eq_true hp] at HF
      obtain ⟨t0, t1, t2, t3, t4, t5⟩ := tn
      simp only [Gr.Nd.agg] at HT HF
      clear hr hp
      go_enter Tryz.func171, Tryz.ntmps171
      go_wp2_with (first
        | (go_at_call 154; refine (xneed_no _ _).mono ?_; rintro e w4 ⟨rfl, h4⟩; replace h4 := h4.symm; subst h4)
        | (go_at_call 175; refine (HF.out _).mono ?_; rintro e w3 ⟨rfl, q3⟩)
        | (go_at_call 174; refine HT.out.mono ?_; rintro e w2 ⟨rfl, q2⟩))
      exact ⟨rfl, by rw [HE.out]; rfl, (q2.trans (Kp.alloc _ _)).trans q3⟩
    · have HE := hid (show cellR s (capV n) bit = .ok (targetOf s.ns n).cell by simp [cellR, capV, hr, hp])
      generalize targetOf s.ns n = tn at *
      have HF := hid (fun w => xisFunc_any tn w)
      rw [decide_eq_false hp] at HF
      obtain ⟨t0, t1, t2, t3, t4, t5⟩ := tn
      simp only [Gr.Nd.agg] at HT HF
      clear hr hp
      go_enter Tryz.func171, Tryz.ntmps171
      go_wp2_with (first
        | (go_at_call 154; refine (xneed_yes _ _).mono ?_; rintro e w4 ⟨rfl, h4⟩; replace h4 := h4.symm; subst h4)
        | (go_at_call 175; refine (HF.out _).mono ?_; rintro e w3 ⟨rfl, q3⟩; obtain ⟨y0, y1, y2, y3, y4, y5⟩ := Gr.six ((q3.block _ (by simp) fun e => e).trans (heap_alloc_new w2 (.cells #[.int .i64 t0, .int .i64 t1, .int .i64 t2, .int .i64 t3, .int .i64 t4, .int .i64 t5] 72))))
        | (go_at_call 174; refine HT.out.mono ?_; rintro e w2 ⟨rfl, q2⟩))
      go_ret
      exact ⟨by rw [HE.out]; rfl, (q2.trans (Kp.alloc _ _)).trans q3⟩
theorem derive_wf {ns : List Nd} {os : List Bool} (h : Wf ns os.length) (hl : ns.length ≤ 80) (p r g : Int) : Wf (deriveOf ns os p r g).ns (deriveOf ns os p r g).os.length := by
  rw [derive_os]; exact (derive_nx h hl p r g).1.wf
set_option maxRecDepth 8000 in
set_option maxHeartbeats 2000000 in
theorem xderive_any (H : MS M X q s left calls w) (n r g : Int) : Calls Tryz.prog 164 #[.pointer (some ⟨M.mb, 0, none⟩), .int .i64 n, .int .i64 r, .int .i64 g] w fun e w' => MQ M X q calls (madeR (deriveOf s.ns s.os n r g) left s) w e w' := by
  obtain ⟨W, hW⟩ : ∃ W, W = w.alloc (.cells #[.int .i64 0, .int .i64 0, .slice none 0 0] 38) := ⟨_, rfl⟩
  have qW : Quiet w W := by rw [hW]; exact Kp.alloc _ _
  have bW : W.heap[w.heap.size]? = some (.cells #[.int .i64 0, .int .i64 0, .slice none 0 0] 38 (0, 0)) := by rw [hW]; exact heap_alloc_new w _
  have H1 : MS M (fun k => X k ∨ k = w.heap.size) q s left calls W := H.step qW (fun k hk e => by rcases e with e | e; exact e; omega) (.inl H.xm) (fun k e => by rcases e with e | e; exact Nat.lt_of_lt_of_le (H.xo k e) qW.size; rw [e]; exact lt_of_block bW)
  obtain ⟨c0, c1, c2, c3⟩ := H1.cells
  obtain ⟨b0, b1⟩ := H1.bcells
  have HN := hid (derive_wf H1.gs.2 H1.gs.1.ln n r g)
  have HD := hid (Gr.derive_any H1.gs.1 n r g)
  have HH := hid (And.intro H1 (And.intro qW (And.intro bW (And.intro H.xm (And.intro hW (H1.free bW (by decide) (by decide) (by decide) (by decide) (by decide) (by decide)))))))
  have HO := hid (show madeR (deriveOf s.ns s.os n r g) left s = madeR (deriveOf s.ns s.os n r g) left s from rfl)
  unfold Gr.StepP at HD
  have hnum := derive_num s.ns s.os n r g H1.gs.1.ln
  generalize deriveOf s.ns s.os n r g = R at *
  obtain ⟨rn, rc, rns, ros⟩ := R
  simp only at HD HN hnum
  rw [hW] at HD c0 c1 c2 c3 b0 b1
  have hmb : w.heap.size ≠ M.mb := fun e => by have := lt_of_block H.ma; omega
  clear H H1 qW bW hW
  by_cases hc : rc = 0
  · subst hc
    go_enter Tryz.func164, Tryz.ntmps164
    go_wp2_with (first
      | (go_at_call 154; refine (xneed_yes _ _).mono ?_; rintro e w4 ⟨rfl, h4⟩; replace h4 := h4.symm; subst h4)
      | (go_at_call 173; refine HD.out.mono ?_; rintro e w2 ⟨rfl, vn', vo', hg2, go2⟩; rw [← HH.out.2.2.2.2.1] at go2; have hx := HH.out.1.graph go2 hg2 HN.out; have hb2 := hx.2.block HH.out.2.2.1 HH.out.2.2.2.2.2 hmb; obtain ⟨m0, m1, m2⟩ := box_cells hb2.1; obtain ⟨f0, f1, f2⟩ := box_free3 hb2.1; have hz := lt_of_block hb2.1; have HX := hid (And.intro hx hb2); clear hx hb2 hg2 go2))
    refine bodyPost_ret (v := .agg #[.int .i64 4, .int .i64 rn, .slice none 0 0]) (by simp [results, Tryz.results164, go_sem, m0, m1, m2]) rfl ?_
    obtain ⟨⟨hx1, hx2⟩, hx3, hx4⟩ := HX.out
    have hk := three_set w2 w.heap.size (.int .i64 4) (.int .i64 rn) (.slice none 0 0)
    refine MQ.mk_ok (q' := ⟨vn', vo', q.l⟩) (v := capV rn) (ao := none) (cap := 0) rfl ((hx2.after HH.out.2.1).fresh (hk.mono fun k _ e => by omega)) ?_ rfl (safe_leaf _ ⟨small_in 4 (by decide), hnum⟩ rfl none)
    refine MS.less (X := fun k => X k ∨ k = w.heap.size) (hx1.beside hk (fun k e => .inr e) (fun e => hmb e.symm) (fun k hk2 e => hx4 (e ▸ hk2)) (fun k cs t hk2 ht e => ?_)) (fun k e => .inl e) HH.out.2.2.2.1
    rw [e, hx3] at hk2
    simp at hk2
    rcases ht with ht | ht <;> rw [ht] at hk2 <;> exact absurd hk2.2 (by decide)
  · have hcb : (rc == 0) = false := by simpa using hc
    have HC := hid hc
    clear hc
    go_enter Tryz.func164, Tryz.ntmps164
    go_wp2_with (first
      | (go_at_call 154; refine (xneed_no _ _).mono ?_; rintro e w4 ⟨rfl, h4⟩; replace h4 := h4.symm; subst h4)
      | (go_at_call 173; refine HD.out.mono ?_; rintro e w2 ⟨rfl, vn', vo', hg2, go2⟩; rw [← HH.out.2.2.2.2.1] at go2; have hx := HH.out.1.graph go2 hg2 HN.out; have HX := hid hx; clear hx hg2 go2))
    have ho : madeR ⟨rn, rc, rns, ros⟩ left s = bad rc left { s with ns := rns, os := ros } := by unfold madeR; rw [if_neg HC.out]
    refine ⟨rfl, MQ.mk_bad (q' := ⟨vn', vo', q.l⟩) (calls' := calls) (c := rc) (by rw [ho]; rfl) (HX.out.2.after HH.out.2.1) ?_ rfl⟩
    rw [ho]
    exact HX.out.1.less (fun k e => .inl e) HH.out.2.2.2.1
theorem MS.ext {w' : World} (H : MS M X q s left calls w) (k : Quiet w w') (b : Nat) (hb : w.heap.size ≤ b) (hlt : b < w'.heap.size) : MS M (fun k => X k ∨ k = b) q s left calls w' :=
  H.step k (fun k hk e => by rcases e with e | e; exact e; omega) (.inl H.xm) fun i e => by rcases e with e | e; exact Nat.lt_of_lt_of_le (H.xo i e) k.size; rw [e]; exact hlt
theorem MS.apart (H : MS M X q s left calls w) {b : Nat} {cs : Array Value} (hb : w.heap[b]? = some (.cells cs 38 (0, 0))) : b ≠ M.mb ∧ ¬ M.own q b :=
  ⟨fun e => by rw [e, H.ma] at hb; simp at hb, H.free hb (by decide) (by decide) (by decide) (by decide) (by decide) (by decide)⟩
theorem MS.unext {w' : World} {b : Nat} {cs : Array Value} (H : MS M (fun k => X k ∨ k = b) q s left calls w) (k : Kp (fun k => k = b) w w') (hb : w.heap[b]? = some (.cells cs 38 (0, 0))) (hx : X M.mb) : MS M X q s left calls w' := by
  obtain ⟨h1, h2⟩ := H.apart hb
  refine MS.less (X := fun k => X k ∨ k = b) (H.beside k (fun k e => .inr e) (fun e => h1 e.symm) (fun k hk e => h2 (e ▸ hk)) (fun i cs' t hi ht e => ?_)) (fun k e => .inl e) hx
  rw [e, hb] at hi
  simp at hi
  rcases ht with ht | ht <;> rw [ht] at hi <;> exact absurd hi.2 (by decide)
theorem safe_unext {w' : World} {b : Nat} {P : World → Prop} (h : SafeF (fun k => M.own q k ∨ (X k ∨ k = b)) P w) (k : Kp (fun k => k = b) w w') : SafeF (fun k => M.own q k ∨ X k) P w' :=
  h.step (k.mono fun k _ e => .inr (.inr e)) fun k _ e => by rcases e with e | e; exact .inl e; exact .inr (.inl e)
theorem safe_ext {w' : World} {b : Nat} {P : World → Prop} (h : SafeF (fun k => M.own q k ∨ X k) P w) (k : Quiet w w') (hb : w.heap.size ≤ b) : SafeF (fun k => M.own q k ∨ (X k ∨ k = b)) P w' :=
  h.step (k.mono fun _ _ e => e.elim) fun k hk e => by
    rcases e with e | e | e
    · exact .inl e
    · exact .inr e
    · omega
theorem MS.ownlt (H : MS M X q s left calls w) (k : Nat) (hk : M.own q k ∨ X k) : k < w.heap.size := by
  rcases hk with hk | hk
  · obtain ⟨a, b, c, d, hb, _⟩ := H.box
    exact (hb.own k hk).2
  · exact H.xo k hk
def wrapR (n : Int) (left : Nat) (s : Sg) : Out :=
  if (gateOf s.ns s.os).code = 0 then (madeR (deriveOf s.ns (gateOf s.ns s.os).os n 15 (gateOf s.ns s.os).num) left { s with os := (gateOf s.ns s.os).os }).then fun v left' s' => okV ⟨2, 0, [v, ⟨5, (gateOf s.ns s.os).num, []⟩]⟩ left' s'
  else bad (gateOf s.ns s.os).code left s
theorem gate_ns (ns : List Nd) (os : List Bool) : (gateOf ns os).ns = ns ∧ ((gateOf ns os).code ≠ 0 → (gateOf ns os).os = os) ∧ os.length ≤ (gateOf ns os).os.length ∧ (os.length ≤ 20 → In64 (gateOf ns os).num) := by
  unfold gateOf In64
  split
  · exact ⟨rfl, fun _ => rfl, Nat.le_refl _, fun _ => by simp⟩
  · exact ⟨rfl, fun h => absurd rfl h, by simp, fun h => by simp only; omega⟩
set_option maxRecDepth 8000 in
set_option maxHeartbeats 4000000 in
theorem xwrap_any (H : MS M X q s left calls w) (n : Int) : Calls Tryz.prog 165 #[.pointer (some ⟨M.mb, 0, none⟩), .int .i64 n] w fun e w' => MQ M X q calls (wrapR n left s) w e w' := by
  obtain ⟨W, hW⟩ : ∃ W, W = w.alloc (.cells #[.int .i64 0, .int .i64 0, .slice none 0 0] 38) := ⟨_, rfl⟩
  have qW : Quiet w W := by rw [hW]; exact Kp.alloc _ _
  have bW : W.heap[w.heap.size]? = some (.cells #[.int .i64 0, .int .i64 0, .slice none 0 0] 38 (0, 0)) := by rw [hW]; exact heap_alloc_new w _
  have H1 := H.ext qW w.heap.size (Nat.le_refl _) (lt_of_block bW)
  obtain ⟨c0, c1, c2, c3⟩ := H1.cells
  obtain ⟨b0, b1⟩ := H1.bcells
  have HG := hid (Gr.gate_any H1.gs.1)
  obtain ⟨g1, g2, g3, g4⟩ := gate_ns s.ns s.os
  have hnum := g4 H1.gs.1.lg
  have HH := hid (And.intro H1 (And.intro qW (And.intro bW (And.intro H.xm (And.intro hW (And.intro g2 (And.intro hnum (H1.gs.2.more g3))))))))
  unfold wrapR
  generalize hR : gateOf s.ns s.os = R at *
  obtain ⟨rn, rc, rns, ros⟩ := R
  simp only at g1
  subst g1
  simp only at HG HH ⊢
  rw [hW] at HG c0 c1 c2 c3 b0 b1
  clear H H1 qW bW hW g2 g3 g4 hnum hR
  by_cases hc : rc = 0
  · subst hc
    simp only [if_true]
    obtain ⟨o, ho⟩ : ∃ o, o = madeR (deriveOf s.ns ros n 15 rn) left { s with os := ros } := ⟨_, rfl⟩
    have HD := hid (fun (w2 : World) (q2 : Vs) (h : MS M (fun k => X k ∨ k = w.heap.size) q2 { s with ns := s.ns, os := ros } left calls w2) => (show Calls Tryz.prog 164 #[.pointer (some ⟨M.mb, 0, none⟩), .int .i64 n, .int .i64 15, .int .i64 rn] w2 fun e w' => MQ M (fun k => X k ∨ k = w.heap.size) q2 calls o w2 e w' by rw [ho]; exact xderive_any h n 15 rn))
    rw [← ho]
    clear ho
    cases hg : o.got with
    | error c =>
      have HO := hid hg
      have HT := hid (show (o.then fun v left' s' => okV ⟨2, 0, [v, ⟨5, rn, []⟩]⟩ left' s') = o by unfold Out.then; rw [hg])
      clear hg
      go_enter Tryz.func165, Tryz.ntmps165
      go_wp2_with (first
        | (go_at_call 164; refine (HD.out _ _ HX.out.1).mono ?_; rintro e w5 h5; obtain ⟨rfl, q5, calls5, g5, m5⟩ := h5.bad HO.out; have H5 := hid (And.intro g5 m5); clear h5 g5 m5)
        | (go_at_call 154; refine (xneed_yes _ _).mono ?_; rintro e w4 ⟨rfl, h4⟩; replace h4 := h4.symm; subst h4)
        | (go_at_call 49; refine HG.out.mono ?_; rintro e w2 ⟨rfl, vo', hg2, go2⟩; rw [← HH.out.2.2.2.2.1] at go2; have hx := HH.out.1.graph go2 hg2 HH.out.2.2.2.2.2.2.2; have HX := hid hx; clear hx hg2 go2))
      refine ⟨rfl, ?_⟩
      rw [HT.out]
      exact MQ.mk_bad (q' := q5) (calls' := calls5) HO.out ((HX.out.2.after HH.out.2.1).trans H5.out.1) (H5.out.2.less (fun k e => .inl e) HH.out.2.2.2.1) rfl
    | ok v =>
      have HO := hid hg
      have HT := hid (show (o.then fun v left' s' => okV ⟨2, 0, [v, ⟨5, rn, []⟩]⟩ left' s') = okV ⟨2, 0, [v, ⟨5, rn, []⟩]⟩ o.left o.s by unfold Out.then; rw [hg])
      clear hg
      go_enter Tryz.func165, Tryz.ntmps165
      go_wp2_with (first
        | (go_at_call 159; refine (xpair_any (fun k => M.own q5 k ∨ (X k ∨ k = w.heap.size)) v ⟨5, rn, []⟩ a5 none c5 0 _ H5.out.2.1.ownlt H5.out.2.2 (safe_leaf _ ⟨small_in 5 (by decide), HH.out.2.2.2.2.2.2.1⟩ rfl none)).mono ?_; rintro e w6 ⟨a6, rfl, h6, k6⟩; have hb6 := (k6.block _ (lt_of_block HB5.out) fun e => e).trans HB5.out; obtain ⟨m0, m1, m2⟩ := box_cells hb6; obtain ⟨f0, f1, f2⟩ := box_free3 hb6; have hz := lt_of_block hb6; have H6 := hid (And.intro h6 (And.intro k6 hb6)); clear h6 k6 hb6)
        | (go_at_call 164; refine (HD.out _ _ HX.out.1).mono ?_; rintro e w5 h5; obtain ⟨q5, a5, c5, rfl, g5, m5, s5⟩ := h5.ok HO.out; have hb2 := (HX.out.2.block HH.out.2.2.1 (HH.out.1.apart HH.out.2.2.1).2 (HH.out.1.apart HH.out.2.2.1).1); have hb5 := g5.block hb2.1 hb2.2 (HH.out.1.apart HH.out.2.2.1).1; have HB5 := hid hb5.1; have H5 := hid (And.intro g5 (And.intro m5 s5)); clear h5 g5 m5 s5 hb2 hb5)
        | (go_at_call 154; refine (xneed_yes _ _).mono ?_; rintro e w4 ⟨rfl, h4⟩; replace h4 := h4.symm; subst h4)
        | (go_at_call 49; refine HG.out.mono ?_; rintro e w2 ⟨rfl, vo', hg2, go2⟩; rw [← HH.out.2.2.2.2.1] at go2; have hx := HH.out.1.graph go2 hg2 HH.out.2.2.2.2.2.2.2; have HX := hid hx; clear hx hg2 go2))
      refine bodyPost_ret (v := .agg #[.int .i64 2, .int .i64 0, .slice a6 2 2]) (by simp [results, Tryz.results165, go_sem, m0, m1, m2]) rfl ?_
      have hk := three_set w6 w.heap.size (.int .i64 2) (.int .i64 0) (.slice a6 2 2)
      rw [HT.out]
      obtain ⟨h6, k6, hb6⟩ := H6.out
      refine MQ.mk_ok (q' := q5) (v := ⟨2, 0, [v, ⟨5, rn, []⟩]⟩) (ao := a6) (cap := 2) rfl ((((HX.out.2.after HH.out.2.1).trans H5.out.1).trans (GoesM.quiet M q5 k6)).fresh (hk.mono fun k _ e => by omega)) ?_ rfl (safe_unext h6 hk)
      exact (H5.out.2.1.quiet k6).unext hk hb6 HH.out.2.2.2.1
  · have hcb : (rc == 0) = false := by simpa using hc
    rw [if_neg hc]
    have HC := hid hc
    clear hc
    go_enter Tryz.func165, Tryz.ntmps165
    go_wp2_with (first
      | (go_at_call 154; refine (xneed_no _ _).mono ?_; rintro e w4 ⟨rfl, h4⟩; replace h4 := h4.symm; subst h4)
      | (go_at_call 49; refine HG.out.mono ?_; rintro e w2 ⟨rfl, vo', hg2, go2⟩; rw [← HH.out.2.2.2.2.1] at go2; have hx := HH.out.1.graph go2 hg2 HH.out.2.2.2.2.2.2.2; have HX := hid hx; clear hx hg2 go2))
    refine ⟨rfl, MQ.mk_bad (q' := ⟨q.n, vo', q.l⟩) (calls' := calls) rfl (HX.out.2.after HH.out.2.1) ?_ rfl⟩
    have h1 := HX.out.1
    rw [HH.out.2.2.2.2.2.1 HC.out] at h1
    exact h1.less (fun k e => .inl e) HH.out.2.2.2.1
end
theorem three_put {w : World} {g : Nat} {x0 x1 x2 : Value} {t : TypeId} (h : w.heap[g]? = some (.cells #[x0, x1, x2] t (0, 0))) (t0 t1 t2 : Value) : (((w.setCell ⟨g, 0, none⟩ t0).setCell ⟨g, 1, none⟩ t1).setCell ⟨g, 2, none⟩ t2).heap[g]? = some (.cells #[t0, t1, t2] t (0, 0)) := by
  simp [World.setCell, Array.getElem?_modify, h]
theorem MS.turn {M : Mx} {X X' F : Nat → Prop} {q : Vs} {s : Sg} {left : Nat} {calls : Int} {w w' : World} (H : MS M X q s left calls w) (k : Kp F w w') (hX : ∀ k, F k → X k) (hm : ¬ F M.mb) (ho : ∀ k, M.own q k → ¬ F k) (hI : ∀ (k : Nat) (cs : Array Value) (t : TypeId), w.heap[k]? = some (.cells cs t (0, 0)) → t = 165 ∨ t = 159 → ¬ F k)
    (hX' : ∀ k, k < w.heap.size → X' k → X k) (xm : X' M.mb) (xo : ∀ k, X' k → k < w'.heap.size) : MS M X' q s left calls w' := by
  obtain ⟨a, b, c, d, hb, hk⟩ := H.box
  obtain ⟨h1, _⟩ := box_beside hb hk k hX ho hI
  refine ⟨⟨a, b, c, d, h1, fun x hx => (hk x hx).step (k.mono fun i _ e => .inr (hX i e)) fun i hi e => ?_⟩, (k.block _ (lt_of_block H.ma) hm).trans H.ma, xm, xo, H.fu, H.lf, H.ci⟩
  rcases e with e | e
  · exact .inl e
  · exact .inr (hX' i hi e)
structure Cx where
  m : Mx
  fb : Nat
  fr : Nat
  j : Nat
  arg : V
  aa : Option Addr
  ac : Nat
  X : Nat → Prop
  q0 : Vs
  w0 : World
  bs : List (Nat × Array Value × TypeId)
structure Rw where
  sa : Option Addr
  n : Nat
  sc : Nat
  ps : List Kd
  na : Option Addr
  m : Nat
  nc : Nat
  qs : List Kd
def Cx.x (C : Cx) (R : Rw) (k : Nat) : Prop := C.X k ∨ k = C.fb ∨ blk R.sa R.n R.sc = some k ∨ blk R.na R.m R.nc = some k
def Cx.ext (C : Cx) (b : Nat) (cs : Array Value) (t : TypeId) : Cx := { C with X := fun k => C.X k ∨ k = b, bs := (b, cs, t) :: C.bs }
def LocT (t : TypeId) : Prop := t = 38 ∨ t = 165
theorem LocT.ne {t : TypeId} (h : LocT t) : t ≠ 67 ∧ t ≠ 101 ∧ t ≠ 72 ∧ t ≠ 4 ∧ t ≠ 96 ∧ t ≠ 70 ∧ t ≠ 168 ∧ t ≠ 201 := by
  rcases h with rfl | rfl <;> decide
theorem MS.loc {M : Mx} {X : Nat → Prop} {q : Vs} {s : Sg} {left : Nat} {calls : Int} {w : World} (H : MS M X q s left calls w) {b : Nat} {cs : Array Value} {t : TypeId} (hb : w.heap[b]? = some (.cells cs t (0, 0))) (ht : LocT t) : b ≠ M.mb ∧ ¬ M.own q b := by
  obtain ⟨h0, h1, h2, h3, h4, h5, h6, _⟩ := ht.ne
  exact ⟨fun e => by rw [e, H.ma] at hb; simp at hb; exact h6 hb.2.symm, H.free hb h0 h1 h2 h3 h4 h5⟩
structure FrS (C : Cx) (q : Vs) (s : Sg) (left : Nat) (R : Rw) (w : World) : Prop where
  m : MS C.m (C.x R) q s left C.fr w
  fr : w.heap[C.fb]? = some (.cells #[.pointer (some ⟨C.m.mb, 0, none⟩), .int .i64 C.j, .int .i64 C.arg.kind, .int .i64 C.arg.n, .slice C.aa C.arg.l.length C.ac, .slice R.na R.m R.nc, .slice R.sa R.n R.sc] 201 (0, 0))
  two : Two (fun k => C.m.own q k ∨ C.X k ∨ k = C.fb) C.w0.heap.size w R.sa R.n R.sc R.ps R.na R.m R.nc R.qs
  arg : SafeF (fun k => C.m.own q k ∨ C.x R k) (fun w => Is w C.arg C.aa) w
  xm : C.X C.m.mb
  xr : ∀ k, C.X k → blk R.sa R.n R.sc ≠ some k ∧ blk R.na R.m R.nc ≠ some k
  lo : C.w0.heap.size ≤ C.fb
  went : GoesM C.m C.q0 C.w0 q w
  st : ∀ p ∈ C.bs, w.heap[p.1]? = some (.cells p.2.1 p.2.2 (0, 0)) ∧ C.X p.1 ∧ LocT p.2.2
def BadF (C : Cx) (s : Sg) (left : Nat) (w : World) : Prop := ∃ q' calls', GoesM C.m C.q0 C.w0 q' w ∧ MS C.m C.X q' s left calls' w
section
variable {C : Cx} {q q' : Vs} {s s' : Sg} {left left' : Nat} {R R' : Rw} {w w' : World}
theorem FrS.ffree (H : FrS C q s left R w) : ¬ C.m.own q C.fb ∧ C.fb ≠ C.m.mb := by
  refine ⟨H.m.free H.fr (by decide) (by decide) (by decide) (by decide) (by decide) (by decide), fun e => ?_⟩
  have h1 := H.fr
  rw [e, H.m.ma] at h1
  simp at h1
theorem FrS.rfree (H : FrS C q s left R w) (k : Nat) (hk : blk R.sa R.n R.sc = some k ∨ blk R.na R.m R.nc = some k) : ¬ C.m.own q k ∧ k ≠ C.m.mb ∧ k ≠ C.fb ∧ ¬ C.X k ∧ C.w0.heap.size ≤ k ∧ k < w.heap.size ∧ ∃ cs, w.heap[k]? = some (.cells cs 38 (0, 0)) := by
  have hc : ∃ cs, w.heap[k]? = some (.cells cs 38 (0, 0)) := by
    rcases hk with hk | hk
    · exact row_box H.two.rs hk
    · exact row_box H.two.rn hk
  have hl : C.w0.heap.size ≤ k ∧ k < w.heap.size := by
    rcases hk with hk | hk
    · exact H.two.rs.lt k hk
    · exact H.two.rn.lt k hk
  obtain ⟨cs, hc'⟩ := hc
  refine ⟨(H.m.apart hc').2, (H.m.apart hc').1, fun e => ?_, fun e => ?_, hl.1, hl.2, cs, hc'⟩
  · rw [e, H.fr] at hc'; simp at hc'
  · rcases hk with hk | hk
    · exact (H.xr k e).1 hk
    · exact (H.xr k e).2 hk
theorem FrS.bad (H : FrS C q s left R w) : BadF C s left w := ⟨q, C.fr, H.went, H.m.less (fun _ e => .inl e) H.xm⟩
theorem FrS.quiet (H : FrS C q s left R w) (k : Quiet w w') : FrS C q s left R w' :=
  ⟨H.m.quiet k, (k.block _ (lt_of_block H.fr) fun e => e).trans H.fr, H.two.quiet k, safe_quiet H.arg k, H.xm, H.xr, H.lo, H.went.trans (GoesM.quiet C.m q k), fun p hp => ⟨(k.block _ (lt_of_block (H.st p hp).1) fun e => e).trans (H.st p hp).1, (H.st p hp).2⟩⟩
theorem FrS.mach (H : FrS C q s left R w) (g : GoesM C.m q w q' w') (h : MS C.m (C.x R) q' s' left' C.fr w') : FrS C q' s' left' R w' := by
  refine ⟨h, (g.block H.fr H.ffree.1 H.ffree.2).1, H.two.goes (g.kp.mono fun _ _ e => ?_) (fun k hk e => ?_) (fun k e => ?_), g.safe (.inl H.xm) H.arg, H.xm, H.xr, H.lo, H.went.trans g, fun p hp => ⟨(g.block (H.st p hp).1 (H.m.loc (H.st p hp).1 (H.st p hp).2.2).2 (H.m.loc (H.st p hp).1 (H.st p hp).2.2).1).1, (H.st p hp).2⟩⟩
  · rcases e with e | e
    · exact .inl e
    · exact .inr (.inl (e ▸ H.xm))
  · obtain ⟨h1, h2, h3, h4, _⟩ := H.rfree k hk
    rcases e with e | e | e
    · exact h1 e
    · exact h4 e
    · exact h3 e
  · rcases e with e | e
    · rcases g.own k e with e | e
      · exact .inl (.inl e)
      · exact .inr e
    · exact .inl (.inr e)
theorem FrS.badm {calls' : Int} (H : FrS C q s left R w) (g : GoesM C.m q w q' w') (h : MS C.m (C.x R) q' s' left' calls' w') : BadF C s' left' w' :=
  ⟨q', calls', H.went.trans g, h.less (fun _ e => .inl e) H.xm⟩
theorem FrS.turn (H : FrS C q s left R w) (k : Kp (fun k => k = C.fb ∨ blk R.sa R.n R.sc = some k ∨ blk R.na R.m R.nc = some k) w w')
    (hf : w'.heap[C.fb]? = some (.cells #[.pointer (some ⟨C.m.mb, 0, none⟩), .int .i64 C.j, .int .i64 C.arg.kind, .int .i64 C.arg.n, .slice C.aa C.arg.l.length C.ac, .slice R'.na R'.m R'.nc, .slice R'.sa R'.n R'.sc] 201 (0, 0)))
    (ht : Two (fun k => C.m.own q k ∨ C.X k ∨ k = C.fb) C.w0.heap.size w' R'.sa R'.n R'.sc R'.ps R'.na R'.m R'.nc R'.qs)
    (hr : ∀ k, blk R'.sa R'.n R'.sc = some k ∨ blk R'.na R'.m R'.nc = some k → (blk R.sa R.n R.sc = some k ∨ blk R.na R.m R.nc = some k) ∨ w.heap.size ≤ k) : FrS C q s left R' w' := by
  have hX : ∀ i, i < w.heap.size → C.x R' i → C.x R i := fun i hi e => by
    rcases e with e | e | e
    · exact .inl e
    · exact .inr (.inl e)
    · rcases hr i e with e | e
      · exact .inr (.inr e)
      · omega
  have hxo : ∀ i, C.x R' i → i < w'.heap.size := fun i e => by
    rcases e with e | e | e
    · exact Nat.lt_of_lt_of_le (H.m.xo i (.inl e)) k.size
    · rw [e]; exact lt_of_block hf
    · rcases e with e | e
      · exact (ht.rs.lt i e).2
      · exact (ht.rn.lt i e).2
  have hm := H.m.turn (X' := C.x R') k (fun i e => .inr e) (fun e => by
      rcases e with e | e
      · exact H.ffree.2 e.symm
      · exact (H.rfree _ e).2.1 rfl) (fun i hi e => by
      rcases e with e | e
      · exact H.ffree.1 (e ▸ hi)
      · exact (H.rfree _ e).1 hi) (fun i cs t hi ht e => by
      rcases e with e | e
      · rw [e, H.fr] at hi
        simp at hi
        rcases ht with ht | ht <;> rw [ht] at hi <;> exact absurd hi.2 (by decide)
      · obtain ⟨_, _, _, _, _, _, cs', hc'⟩ := H.rfree i e
        rw [hc'] at hi
        simp at hi
        rcases ht with ht | ht <;> rw [ht] at hi <;> exact absurd hi.2 (by decide)) hX (.inl H.xm) hxo
  refine ⟨hm, hf, ht, ?_, H.xm, fun i hi => ?_, H.lo, H.went.fresh (k.mono fun i _ e => ?_), fun p hp => ⟨(k.block _ (lt_of_block (H.st p hp).1) fun e => ?_).trans (H.st p hp).1, (H.st p hp).2⟩⟩
  · exact H.arg.step (k.mono fun i _ e => .inr (.inr e)) fun i hi e => by
      rcases e with e | e
      · exact .inl e
      · exact .inr (hX i hi e)
  · refine ⟨fun e => ?_, fun e => ?_⟩
    · rcases hr i (.inl e) with e | e
      · exact (H.rfree i e).2.2.2.1 hi
      · have := H.m.xo i (.inl hi); omega
    · rcases hr i (.inr e) with e | e
      · exact (H.rfree i e).2.2.2.1 hi
      · have := H.m.xo i (.inl hi); omega
  · rcases e with e | e
    · rw [e]; exact H.lo
    · exact (H.rfree i e).2.2.2.2.1
  · rcases e with e | e
    · have h1 := (H.st p hp).1
      rw [e, H.fr] at h1
      simp at h1
      exact (H.st p hp).2.2.ne.2.2.2.2.2.2.2 h1.2.symm
    · exact (H.rfree _ e).2.2.2.1 (H.st p hp).2.1
theorem FrS.pop {g n sc m nc : Nat} {ps qs : List Kd} {p : Kd} {na : Option Addr} (H : FrS C q s left ⟨some ⟨g, 0, none⟩, n + 1, sc, ps ++ [p], na, m, nc, qs⟩ w) (k : Kp (fun k => k = C.fb) w w')
    (hf : w'.heap[C.fb]? = some (.cells #[.pointer (some ⟨C.m.mb, 0, none⟩), .int .i64 C.j, .int .i64 C.arg.kind, .int .i64 C.arg.n, .slice C.aa C.arg.l.length C.ac, .slice na m nc, .slice (some ⟨g, 0, none⟩) n sc] 201 (0, 0))) :
    FrS C q s left ⟨some ⟨g, 0, none⟩, n, sc, ps, na, m, nc, qs⟩ w' ∧ SafeF (fun k => C.m.own q k ∨ C.x ⟨some ⟨g, 0, none⟩, n, sc, ps, na, m, nc, qs⟩ k) (fun w => Is w p.1 p.2.1) w' := by
  have hb : ∀ k : Nat, blk (some ⟨g, 0, none⟩) n sc = some k ↔ blk (some ⟨g, 0, none⟩) (n + 1) sc = some k := fun k => by simp [Value.ownBlock]
  have ht := H.two.goes (F' := fun k => C.m.own q k ∨ C.X k ∨ k = C.fb) (k.mono fun i _ e => .inr (.inr e)) (fun i hi e => by
    obtain ⟨h1, h2, h3, h4, _⟩ := H.rfree i hi
    rcases e with e | e | e
    · exact h1 e
    · exact h4 e
    · exact h3 e) (fun i e => .inl e)
  obtain ⟨t1, t2, _⟩ := ht.pop
  refine ⟨H.turn (k.mono fun i _ e => .inl e) hf t1 fun i e => .inl ?_, t2.mono fun i _ e => ?_⟩
  · rcases e with e | e
    · exact .inl ((hb i).1 e)
    · exact .inr e
  · rcases e with e | e | e | e
    · exact .inl (.inl e)
    · exact .inl (.inr (.inl e))
    · exact .inl (.inr (.inr e))
    · exact .inr e
theorem FrS.top {g n sc m nc : Nat} {ps qs : List Kd} {p : Kd} {na : Option Addr} (H : FrS C q s left ⟨some ⟨g, 0, none⟩, n + 1, sc, ps ++ [p], na, m, nc, qs⟩ w) : w.cell? ⟨g, n * 3, none⟩ = some (.int .i64 p.1.kind) ∧ w.cell? ⟨g, n * 3 + 1, none⟩ = some (.int .i64 p.1.n) ∧ w.cell? ⟨g, n * 3 + 2, none⟩ = some (.slice p.2.1 p.1.l.length p.2.2) := by
  obtain ⟨_, _, c⟩ := H.two.pop
  exact ⟨c 0 (by decide), c 1 (by decide), c 2 (by decide)⟩
theorem FrS.cells (H : FrS C q s left R w) : w.cell? ⟨C.fb, 0, none⟩ = some (.pointer (some ⟨C.m.mb, 0, none⟩)) ∧ w.cell? ⟨C.fb, 1, none⟩ = some (.int .i64 C.j) ∧ w.cell? ⟨C.fb, 2, none⟩ = some (.int .i64 C.arg.kind) ∧ w.cell? ⟨C.fb, 3, none⟩ = some (.int .i64 C.arg.n) ∧ w.cell? ⟨C.fb, 4, none⟩ = some (.slice C.aa C.arg.l.length C.ac) ∧ w.cell? ⟨C.fb, 5, none⟩ = some (.slice R.na R.m R.nc) ∧ w.cell? ⟨C.fb, 6, none⟩ = some (.slice R.sa R.n R.sc) := by
  refine ⟨?_, ?_, ?_, ?_, ?_, ?_, ?_⟩ <;> simp [World.cell?, H.fr]
theorem FrS.shape {ps : List Kd} {p : Kd} (H : FrS C q s left R w) (h : R.ps = ps ++ [p]) : ∃ g, R = ⟨some ⟨g, 0, none⟩, ps.length + 1, R.sc, ps ++ [p], R.na, R.m, R.nc, R.qs⟩ := by
  obtain ⟨sa, n, sc, ps', na, m, nc, qs⟩ := R
  simp only at h
  subst h
  have hn : n = ps.length + 1 := by simpa using H.two.ls
  subst hn
  obtain ⟨g, cap, e⟩ := lies_shape H.two.rs (Nat.succ_pos _)
  simp only [Value.slice.injEq, true_and] at e
  obtain ⟨rfl, rfl⟩ := e
  exact ⟨g, rfl⟩
theorem lay_row {lo g n cap : Nat} {ps : List Kd} (p z : Kd) (hn : n = ps.length) (h : w.ownsRow lo 38 3 (.slice (some ⟨g, 0, none⟩) (n + 1) cap) (n + 1) (tris ps ++ tri z)) :
    (((w.setCell ⟨g, n * 3, none⟩ (.int .i64 p.1.kind)).setCell ⟨g, n * 3 + 1, none⟩ (.int .i64 p.1.n)).setCell ⟨g, n * 3 + 2, none⟩ (.slice p.2.1 p.1.l.length p.2.2)).ownsRow lo 38 3 (.slice (some ⟨g, 0, none⟩) (n + 1) cap) (n + 1) (tris ps ++ tri p) ∧
    w.grownBy (((w.setCell ⟨g, n * 3, none⟩ (.int .i64 p.1.kind)).setCell ⟨g, n * 3 + 1, none⟩ (.int .i64 p.1.n)).setCell ⟨g, n * 3 + 2, none⟩ (.slice p.2.1 p.1.l.length p.2.2)) (some g) := by
  obtain ⟨a1, b1⟩ := h.stored (n * 3) (.int .i64 p.1.kind)
  obtain ⟨a2, b2⟩ := a1.stored (n * 3 + 1) (.int .i64 p.1.n)
  obtain ⟨a3, b3⟩ := a2.stored (n * 3 + 2) (.slice p.2.1 p.1.l.length p.2.2)
  have hl : (tris ps).length = n * 3 := by rw [tris_len, hn]
  have e : (((tris ps ++ tri z).set (n * 3) (.int .i64 p.1.kind)).set (n * 3 + 1) (.int .i64 p.1.n)).set (n * 3 + 2) (.slice p.2.1 p.1.l.length p.2.2) = tris ps ++ tri p := by
    rw [← hl]
    simp [tri, List.set_append_right]
  rw [e] at a3
  refine ⟨a3, ⟨by rw [b3.os, b2.os, b1.os], by rw [b3.tape, b2.tape, b1.tape], by rw [b3.output, b2.output, b1.output], Nat.le_trans b1.size (Nat.le_trans b2.size b3.size), fun k hk hne => ?_⟩⟩
  rw [b3.block k (Nat.lt_of_lt_of_le hk (Nat.le_trans b1.size b2.size)) hne, b2.block k (Nat.lt_of_lt_of_le hk b1.size) hne, b1.block k hk hne]
theorem grown_then {W w3 w4 : World} {row : Option Nat} {g : Nat} (h : W.grownBy w3 row) (k : w3.grownBy w4 (some g)) (hat : row = some g ∨ g = W.heap.size) : W.grownBy w4 row := by
  refine ⟨by rw [k.os, h.os], by rw [k.tape, h.tape], by rw [k.output, h.output], Nat.le_trans h.size k.size, fun i hi hne => ?_⟩
  rw [k.block i (Nat.lt_of_lt_of_le hi h.size) (fun e => ?_), h.block i hi hne]
  simp only [Option.some.injEq] at e
  rcases hat with e2 | e2
  · exact hne (by rw [e2, e])
  · omega
theorem FrS.push {W w4 : World} {o : Obj} {g cap : Nat} {p : Kd} (H : FrS C q s left R w) (kW : Quiet w W) (hv : SafeF (fun k => C.m.own q k ∨ C.x R k) (fun w => Is w p.1 p.2.1) w)
    (hr : w4.ownsRow C.w0.heap.size 38 3 (.slice (some ⟨g, 0, none⟩) (R.n + 1) cap) (R.n + 1) (tris R.ps ++ tri p)) (hg : (W.alloc o).grownBy w4 (blk R.sa R.n R.sc)) (hat : blk R.sa R.n R.sc = some g ∨ g = W.heap.size + 1) :
    FrS C q s left ⟨some ⟨g, 0, none⟩, R.n + 1, cap, R.ps ++ [p], R.na, R.m, R.nc, R.qs⟩ (w4.setCell ⟨C.fb, 6, none⟩ (.slice (some ⟨g, 0, none⟩) (R.n + 1) cap)) ∧
    w4.cell? ⟨C.fb, 6, none⟩ = some (.slice R.sa R.n R.sc) ∧ w4.frozen? ⟨C.fb, 6, none⟩ = false ∧ C.fb < w4.heap.size := by
  have HW := H.quiet kW
  obtain ⟨t1, k1⟩ := HW.two.push (p := p) ((safe_quiet hv kW).mono fun i _ e => by
    rcases e with (e | e | e) | e
    · exact .inl e
    · exact .inr (.inl e)
    · exact .inr (.inr (.inl e))
    · exact .inr (.inr (.inr e))) hr hg hat
  have hfr : ∀ i, blk R.sa R.n R.sc = some i ∨ blk R.na R.m R.nc = some i → i ≠ C.fb := fun i e => (HW.rfree i e).2.2.1
  have hb4 : w4.heap[C.fb]? = some (.cells #[.pointer (some ⟨C.m.mb, 0, none⟩), .int .i64 C.j, .int .i64 C.arg.kind, .int .i64 C.arg.n, .slice C.aa C.arg.l.length C.ac, .slice R.na R.m R.nc, .slice R.sa R.n R.sc] 201 (0, 0)) := (k1.block _ (lt_of_block HW.fr) fun e => hfr _ (.inl e) rfl).trans HW.fr
  have k2 := kp_set w4 C.fb 6 (.slice (some ⟨g, 0, none⟩) (R.n + 1) cap)
  have hgn : (Value.slice (some ⟨g, 0, none⟩) (R.n + 1) cap).ownBlock = some g := rfl
  have hgf : g ≠ C.fb := by
    rcases hat with e | e
    · exact hfr _ (.inl e)
    · have := lt_of_block HW.fr; omega
  have ht := t1.goes (F' := fun k => C.m.own q k ∨ C.X k ∨ k = C.fb) (k2.mono fun i _ e => .inr (.inr e)) (fun i hi e => by
    have hx : ¬ C.m.own q i ∧ ¬ C.X i ∧ i ≠ C.fb := by
      rcases hi with hi | hi
      · simp only [blk, hgn, Option.some.injEq] at hi
        subst hi
        rcases hat with e | e
        · obtain ⟨h1, _, h3, h4, _⟩ := HW.rfree _ (.inl e)
          exact ⟨h1, h4, h3⟩
        · refine ⟨fun h => ?_, fun h => ?_, hgf⟩
          · have := HW.m.ownlt _ (.inl h); omega
          · have := HW.m.xo _ (.inl h); omega
      · obtain ⟨h1, _, h3, h4, _⟩ := HW.rfree _ (.inr hi)
        exact ⟨h1, h4, h3⟩
    rcases e with e | e | e
    · exact hx.1 e
    · exact hx.2.1 e
    · exact hx.2.2 e) (fun i e => .inl e)
  refine ⟨HW.turn ((k1.mono fun i _ e => .inr (.inl e)).trans (k2.mono fun i _ e => .inl e)) (by simp [World.setCell, Array.getElem?_modify, hb4]) ht fun i e => ?_, by simp [World.cell?, hb4], frozen_of_row w4 _ 6 _ _ hb4, lt_of_block hb4⟩
  rcases e with e | e
  · simp only [blk, hgn, Option.some.injEq] at e
    subst e
    rcases hat with e | e
    · exact .inl (.inl e)
    · right; omega
  · exact .inl (.inr e)
theorem FrS.bind {W w4 : World} {o : Obj} {g cap : Nat} {p : Kd} (H : FrS C q s left R w) (kW : Quiet w W) (hv : SafeF (fun k => C.m.own q k ∨ C.x R k) (fun w => Is w p.1 p.2.1) w)
    (hr : w4.ownsRow C.w0.heap.size 38 3 (.slice (some ⟨g, 0, none⟩) (R.m + 1) cap) (R.m + 1) (tris R.qs ++ tri p)) (hg : (W.alloc o).grownBy w4 (blk R.na R.m R.nc)) (hat : blk R.na R.m R.nc = some g ∨ g = W.heap.size + 1) :
    FrS C q s left ⟨R.sa, R.n, R.sc, R.ps, some ⟨g, 0, none⟩, R.m + 1, cap, R.qs ++ [p]⟩ (w4.setCell ⟨C.fb, 5, none⟩ (.slice (some ⟨g, 0, none⟩) (R.m + 1) cap)) ∧
    w4.cell? ⟨C.fb, 5, none⟩ = some (.slice R.na R.m R.nc) ∧ w4.frozen? ⟨C.fb, 5, none⟩ = false ∧ C.fb < w4.heap.size := by
  have HW := H.quiet kW
  obtain ⟨t1, k1⟩ := HW.two.swap.push (p := p) ((safe_quiet hv kW).mono fun i _ e => by
    rcases e with (e | e | e) | e
    · exact .inl e
    · exact .inr (.inl e)
    · exact .inr (.inr (.inl e))
    · exact .inr (.inr (.inr e.symm))) hr hg hat
  replace t1 := t1.swap
  have hfr : ∀ i, blk R.sa R.n R.sc = some i ∨ blk R.na R.m R.nc = some i → i ≠ C.fb := fun i e => (HW.rfree i e).2.2.1
  have hb4 : w4.heap[C.fb]? = some (.cells #[.pointer (some ⟨C.m.mb, 0, none⟩), .int .i64 C.j, .int .i64 C.arg.kind, .int .i64 C.arg.n, .slice C.aa C.arg.l.length C.ac, .slice R.na R.m R.nc, .slice R.sa R.n R.sc] 201 (0, 0)) := (k1.block _ (lt_of_block HW.fr) fun e => hfr _ (.inr e) rfl).trans HW.fr
  have k2 := kp_set w4 C.fb 5 (.slice (some ⟨g, 0, none⟩) (R.m + 1) cap)
  have hgn : (Value.slice (some ⟨g, 0, none⟩) (R.m + 1) cap).ownBlock = some g := rfl
  have hgf : g ≠ C.fb := by
    rcases hat with e | e
    · exact hfr _ (.inr e)
    · have := lt_of_block HW.fr; omega
  have ht := t1.goes (F' := fun k => C.m.own q k ∨ C.X k ∨ k = C.fb) (k2.mono fun i _ e => .inr (.inr e)) (fun i hi e => by
    have hx : ¬ C.m.own q i ∧ ¬ C.X i ∧ i ≠ C.fb := by
      rcases hi.symm with hi | hi
      · simp only [blk, hgn, Option.some.injEq] at hi
        subst hi
        rcases hat with e | e
        · obtain ⟨h1, _, h3, h4, _⟩ := HW.rfree _ (.inr e)
          exact ⟨h1, h4, h3⟩
        · refine ⟨fun h => ?_, fun h => ?_, hgf⟩
          · have := HW.m.ownlt _ (.inl h); omega
          · have := HW.m.xo _ (.inl h); omega
      · obtain ⟨h1, _, h3, h4, _⟩ := HW.rfree _ (.inl hi)
        exact ⟨h1, h4, h3⟩
    rcases e with e | e | e
    · exact hx.1 e
    · exact hx.2.1 e
    · exact hx.2.2 e) (fun i e => .inl e)
  refine ⟨HW.turn ((k1.mono fun i _ e => .inr (.inr e)).trans (k2.mono fun i _ e => .inl e)) (by simp [World.setCell, Array.getElem?_modify, hb4]) ht fun i e => ?_, by simp [World.cell?, hb4], frozen_of_row w4 _ 5 _ _ hb4, lt_of_block hb4⟩
  rcases e.symm with e | e
  · simp only [blk, hgn, Option.some.injEq] at e
    subst e
    rcases hat with e | e
    · exact .inl (.inr e)
    · right; omega
  · exact .inl (.inl e)
theorem FrS.drop {g n sc m nc : Nat} {ps qs : List Kd} {p : Kd} {sa : Option Addr} (H : FrS C q s left ⟨sa, n, sc, ps, some ⟨g, 0, none⟩, m + 1, nc, qs ++ [p]⟩ w) (k : Kp (fun k => k = C.fb) w w')
    (hf : w'.heap[C.fb]? = some (.cells #[.pointer (some ⟨C.m.mb, 0, none⟩), .int .i64 C.j, .int .i64 C.arg.kind, .int .i64 C.arg.n, .slice C.aa C.arg.l.length C.ac, .slice (some ⟨g, 0, none⟩) m nc, .slice sa n sc] 201 (0, 0))) :
    FrS C q s left ⟨sa, n, sc, ps, some ⟨g, 0, none⟩, m, nc, qs⟩ w' := by
  have hb : ∀ k : Nat, blk (some ⟨g, 0, none⟩) m nc = some k ↔ blk (some ⟨g, 0, none⟩) (m + 1) nc = some k := fun k => by simp [Value.ownBlock]
  have ht := H.two.goes (F' := fun k => C.m.own q k ∨ C.X k ∨ k = C.fb) (k.mono fun i _ e => .inr (.inr e)) (fun i hi e => by
    obtain ⟨h1, h2, h3, h4, _⟩ := H.rfree i hi
    rcases e with e | e | e
    · exact h1 e
    · exact h4 e
    · exact h3 e) (fun i e => .inl e)
  obtain ⟨t1, _, _⟩ := ht.swap.pop
  refine H.turn (k.mono fun i _ e => .inl e) hf t1.swap fun i e => .inl ?_
  rcases e with e | e
  · exact .inl e
  · exact .inr ((hb i).1 e)
theorem FrS.nshape {qs : List Kd} {p : Kd} (H : FrS C q s left R w) (h : R.qs = qs ++ [p]) : ∃ g, R = ⟨R.sa, R.n, R.sc, R.ps, some ⟨g, 0, none⟩, qs.length + 1, R.nc, qs ++ [p]⟩ := by
  obtain ⟨sa, n, sc, ps', na, m, nc, qs'⟩ := R
  simp only at h
  subst h
  have hn : m = qs.length + 1 := by simpa using H.two.ln
  subst hn
  obtain ⟨g, cap, e⟩ := lies_shape H.two.rn (Nat.succ_pos _)
  simp only [Value.slice.injEq, true_and] at e
  obtain ⟨rfl, rfl⟩ := e
  exact ⟨g, rfl⟩
end
structure PopQ (C : Cx) (q : Vs) (s : Sg) (left : Nat) (R : Rw) (v : V) (va : Option Addr) (w' : World) : Prop where
  fs : FrS C q s left R w'
  safe : SafeF (fun k => C.m.own q k ∨ C.x R k) (fun w => Is w v va) w'
structure PopK (C : Cx) (q : Vs) (s : Sg) (left : Nat) (R : Rw) (v : V) (va : Option Addr) (w w' : World) : Prop extends PopQ C q s left R v va w' where
  kp : Kp (fun k => k = C.fb) w w'
section
variable {C : Cx} {q : Vs} {s : Sg} {left : Nat} {R : Rw} {w : World} {g n sc m nc : Nat} {ps qs : List Kd} {v : V} {va : Option Addr} {vc : Nat} {na : Option Addr}
set_option maxRecDepth 8000 in
set_option maxHeartbeats 2000000 in
theorem xpop_any (H : FrS C q s left ⟨some ⟨g, 0, none⟩, n + 1, sc, ps ++ [(v, va, vc)], na, m, nc, qs⟩ w) (hn : n ≤ 2000) : Calls Tryz.prog 146 #[.pointer (some ⟨C.fb, 0, none⟩)] w fun e w' => e = .returned (.agg #[.int .i64 v.kind, .int .i64 v.n, .slice va v.l.length vc]) ∧ PopK C q s left ⟨some ⟨g, 0, none⟩, n, sc, ps, na, m, nc, qs⟩ v va w w' := by
  have q1 : Quiet w (w.alloc (.cells #[.int .i64 0, .int .i64 0, .slice none 0 0] 38)) := Kp.alloc _ _
  have q2 : Quiet w ((w.alloc (.cells #[.int .i64 0, .int .i64 0, .slice none 0 0] 38)).alloc (.cells #[.int .i64 v.kind, .int .i64 v.n, .slice va v.l.length vc] 38)) := q1.trans (Kp.alloc _ _)
  have H1 := H.quiet q1
  have H2 := H.quiet q2
  obtain ⟨_, _, _, _, _, _, c6⟩ := H1.cells
  obtain ⟨_, _, _, _, _, _, d6⟩ := H2.cells
  obtain ⟨t0, t1, t2⟩ := H1.top
  have f6 := frozen_of_row _ C.fb 6 _ _ H2.fr
  have hz := lt_of_block H2.fr
  have hw : IntKind.i64.wrap ((n : Int) + 1 - 1) = n := by rw [IntKind.wrap_i64]; omega
  have B1 : ((w.alloc (.cells #[.int .i64 0, .int .i64 0, .slice none 0 0] 38)).alloc (.cells #[.int .i64 v.kind, .int .i64 v.n, .slice va v.l.length vc] 38)).heap[w.heap.size]? = some (.cells #[.int .i64 0, .int .i64 0, .slice none 0 0] 38 (0, 0)) := by rw [Below.heap_alloc _ _ _ (by simp)]; exact heap_alloc_new w _
  have B2 := heap_two w (.cells #[.int .i64 0, .int .i64 0, .slice none 0 0] 38) (.cells #[.int .i64 v.kind, .int .i64 v.n, .slice va v.l.length vc] 38)
  have hcp := owns_cap H2.two.rs
  have HF := hid H2.fr
  have HH := hid H
  obtain ⟨m0, m1, m2⟩ := box_cells B1
  have hfw : ¬ C.fb = w.heap.size := fun e => by have := lt_of_block H.fr; omega
  have HB := hid q2
  simp only at c6 d6 t0 t1 t2 hcp
  clear H H1 H2 q1 q2 B1 B2
  go_enter Tryz.func146, Tryz.ntmps146
  go_wp2
  refine bodyPost_ret (v := .agg #[.int .i64 v.kind, .int .i64 v.n, .slice va v.l.length vc]) (by simp [results, Tryz.results146, go_sem, m0, m1, m2]) rfl ?_
  have k1 := kp_set ((w.alloc (.cells #[.int .i64 0, .int .i64 0, .slice none 0 0] 38)).alloc (.cells #[.int .i64 v.kind, .int .i64 v.n, .slice va v.l.length vc] 38)) C.fb 6 (.slice (some ⟨g, 0, none⟩) n sc)
  have hb1 : (((w.alloc (.cells #[.int .i64 0, .int .i64 0, .slice none 0 0] 38)).alloc (.cells #[.int .i64 v.kind, .int .i64 v.n, .slice va v.l.length vc] 38)).setCell ⟨C.fb, 6, none⟩ (.slice (some ⟨g, 0, none⟩) n sc)).heap[C.fb]? = some (.cells #[.pointer (some ⟨C.m.mb, 0, none⟩), .int .i64 C.j, .int .i64 C.arg.kind, .int .i64 C.arg.n, .slice C.aa C.arg.l.length C.ac, .slice na m nc, .slice (some ⟨g, 0, none⟩) n sc] 201 (0, 0)) := by
    have h := HF.out
    simp [World.setCell, Array.getElem?_modify, h]
  generalize ((w.alloc (.cells #[.int .i64 0, .int .i64 0, .slice none 0 0] 38)).alloc (.cells #[.int .i64 v.kind, .int .i64 v.n, .slice va v.l.length vc] 38)).setCell ⟨C.fb, 6, none⟩ (.slice (some ⟨g, 0, none⟩) n sc) = W3 at *
  have k2 := three_set W3 w.heap.size (.int .i64 v.kind) (.int .i64 v.n) (.slice va v.l.length vc)
  have kf := ((HB.out.mono fun _ _ e => e.elim).trans k1).fresh (k2.mono fun k _ e => by omega)
  obtain ⟨x1, x2⟩ := HH.out.pop kf ((k2.block _ (lt_of_block hb1) hfw).trans hb1)
  exact ⟨rfl, ⟨x1, x2⟩, kf⟩
theorem FrS.ext {w' : World} {cs : Array Value} {t : TypeId} (H : FrS C q s left R w) (k : Quiet w w') (b : Nat) (hb : w.heap.size ≤ b) (hbk : w'.heap[b]? = some (.cells cs t (0, 0))) (ht : LocT t) : FrS (C.ext b cs t) q s left R w' := by
  have hlt := lt_of_block hbk
  have hX : ∀ i, i < w.heap.size → (C.ext b cs t).x R i → C.x R i := fun i hi e => by
    rcases e with (e | e) | e
    · exact .inl e
    · omega
    · exact .inr e
  refine ⟨H.m.step k hX (.inl (.inl H.xm)) (fun i e => ?_), (k.block _ (lt_of_block H.fr) fun e => e).trans H.fr, H.two.goes (k.mono fun _ _ e => e.elim) (fun i hi e => ?_) (fun i e => ?_), H.arg.step (k.mono fun _ _ e => e.elim) (fun i hi e => ?_), .inl H.xm, fun i hi => ?_, H.lo, H.went.trans (GoesM.quiet C.m q k), fun p hp => ?_⟩
  · rcases e with (e | e) | e
    · exact Nat.lt_of_lt_of_le (H.m.xo i (.inl e)) k.size
    · rw [e]; exact hlt
    · exact Nat.lt_of_lt_of_le (H.m.xo i (.inr e)) k.size
  · obtain ⟨h1, h2, h3, h4, _⟩ := H.rfree i hi
    rcases e with e | e | e
    · exact h1 e
    · exact h4 e
    · exact h3 e
  · rcases e with e | (e | e) | e
    · exact .inl (.inl e)
    · exact .inl (.inr (.inl e))
    · right; rw [e]; exact hb
    · exact .inl (.inr (.inr e))
  · rcases e with e | e
    · exact .inl e
    · exact .inr (hX i hi e)
  · rcases hi with hi | hi
    · exact H.xr i hi
    · refine ⟨fun e => ?_, fun e => ?_⟩
      · have := (H.two.rs.lt i e).2; omega
      · have := (H.two.rn.lt i e).2; omega
  · rcases List.mem_cons.1 hp with e | e
    · rw [e]; exact ⟨hbk, .inr rfl, ht⟩
    · exact ⟨(k.block _ (lt_of_block (H.st p e).1) fun e => e).trans (H.st p e).1, .inl (H.st p e).2.1, (H.st p e).2.2⟩
theorem FrS.unext {w' : World} {b : Nat} {cs : Array Value} (H : FrS (C.ext b cs 38) q s left R w) (k : Kp (fun k => k = b) w w') (hx : C.X C.m.mb) (hlo : C.w0.heap.size ≤ b) (hbs : ∀ p ∈ C.bs, p.1 < b) : FrS C q s left R w' := by
  have hb : w.heap[b]? = some (.cells cs 38 (0, 0)) := (H.st (b, cs, 38) (by simp [Cx.ext])).1
  obtain ⟨h1, h2⟩ := H.m.apart hb
  have hfb : b ≠ C.fb := fun e => by
    have h := H.fr
    rw [show (C.ext b cs 38).fb = b from e.symm, hb] at h
    simp at h
  have hX : ∀ i, C.x R i → (C.ext b cs 38).x R i := fun i e => by
    rcases e with e | e
    · exact .inl (.inl e)
    · exact .inr e
  refine ⟨H.m.turn k (fun i e => .inl (.inr e)) (fun e => h1 e.symm) (fun i hi e => h2 (e ▸ hi)) (fun i cs' t hi ht e => ?_) (fun i _ e => hX i e) (.inl hx) (fun i e => Nat.lt_of_lt_of_le (H.m.xo i (hX i e)) k.size), (k.block _ (lt_of_block H.fr) fun e => hfb e.symm).trans H.fr, H.two.goes (k.mono fun i _ e => .inr (.inl (.inr e))) (fun i hi e => ?_) (fun i e => .inl ?_), H.arg.step (k.mono fun i _ e => .inr (.inl (.inr e))) (fun i _ e => ?_), hx, fun i hi => H.xr i (.inl hi), H.lo, H.went.fresh (k.mono fun i _ e => by rw [e]; exact hlo), fun p hp => ?_⟩
  · rw [e, hb] at hi
    simp at hi
    rcases ht with ht | ht <;> rw [ht] at hi <;> exact absurd hi.2 (by decide)
  · obtain ⟨g1, g2, g3, g4, _⟩ := H.rfree i hi
    rcases e with e | e | e
    · exact g1 e
    · exact g4 e
    · exact g3 e
  · rcases e with e | e | e
    · exact .inl e
    · exact .inr (.inl (.inl e))
    · exact .inr (.inr e)
  · rcases e with e | e
    · exact .inl e
    · exact .inr (hX i e)
  · have h1 := (H.st p (by simp [Cx.ext, hp])).1
    have h2 := hbs p hp
    refine ⟨(k.block _ (lt_of_block h1) fun e => ?_).trans h1, ?_⟩
    · omega
    · refine ⟨?_, (H.st p (by simp [Cx.ext, hp])).2.2⟩
      rcases (H.st p (by simp [Cx.ext, hp])).2.1 with e | e
      · exact e
      · omega
theorem FrS.unread {b : Nat} {cs : Array Value} {t : TypeId} (H : FrS (C.ext b cs t) q s left R w) (hx : C.X C.m.mb) (hbs : ∀ p ∈ C.bs, p.1 < b) : FrS C q s left R w := by
  have hX : ∀ i, C.x R i → (C.ext b cs t).x R i := fun i e => by
    rcases e with e | e
    · exact .inl (.inl e)
    · exact .inr e
  refine ⟨H.m.less hX (.inl hx), H.fr, H.two.goes (Kp.refl _ _) (fun i hi e => ?_) (fun i e => .inl ?_), H.arg.mono fun i _ e => ?_, hx, fun i hi => H.xr i (.inl hi), H.lo, H.went, fun p hp => ?_⟩
  · obtain ⟨g1, g2, g3, g4, _⟩ := H.rfree i hi
    rcases e with e | e | e
    · exact g1 e
    · exact g4 e
    · exact g3 e
  · rcases e with e | e | e
    · exact .inl e
    · exact .inr (.inl (.inl e))
    · exact .inr (.inr e)
  · rcases e with e | e
    · exact .inl e
    · exact .inr (hX i e)
  · have h2 := hbs p hp
    refine ⟨(H.st p (by simp [Cx.ext, hp])).1, ?_, (H.st p (by simp [Cx.ext, hp])).2.2⟩
    rcases (H.st p (by simp [Cx.ext, hp])).2.1 with e | e
    · exact e
    · omega
theorem fsafe_unext {w' : World} {b : Nat} {cs : Array Value} {t : TypeId} {P : World → Prop} (h : SafeF (fun k => C.m.own q k ∨ (C.ext b cs t).x R k) P w) (k : Kp (fun k => k = b) w w') : SafeF (fun k => C.m.own q k ∨ C.x R k) P w' :=
  h.step (k.mono fun i _ e => .inr (.inl (.inr e))) fun i _ e => by
    rcases e with e | e | e
    · exact .inl e
    · exact .inr (.inl (.inl e))
    · exact .inr (.inr e)
theorem FrS.bslt (H : FrS C q s left R w) : ∀ p ∈ C.bs, p.1 < w.heap.size := fun p hp => lt_of_block (H.st p hp).1
theorem BadF.less {b : Nat} {cs : Array Value} {t : TypeId} (h : BadF (C.ext b cs t) s left w) (hx : C.X C.m.mb) : BadF C s left w := by
  obtain ⟨q', calls', g, m⟩ := h
  exact ⟨q', calls', g, m.less (fun _ e => .inl e) hx⟩
theorem BadF.quiet {w' : World} (h : BadF C s left w) (k : Quiet w w') : BadF C s left w' := by
  obtain ⟨q', calls', g, m⟩ := h
  exact ⟨q', calls', g.trans (GoesM.quiet C.m q' k), m.quiet k⟩
set_option maxRecDepth 8000 in
set_option maxHeartbeats 2000000 in
theorem xtake_yes (k : Int) (H : FrS C q s left ⟨some ⟨g, 0, none⟩, n + 1, sc, ps ++ [(v, va, vc)], na, m, nc, qs⟩ w) (hn : n ≤ 2000) (hk : v.kind = k) : Calls Tryz.prog 155 #[.pointer (some ⟨C.fb, 0, none⟩), .int .i64 k] w fun e w' => e = .returned (.agg #[.int .i64 v.kind, .int .i64 v.n, .slice va v.l.length vc]) ∧ PopK C q s left ⟨some ⟨g, 0, none⟩, n, sc, ps, na, m, nc, qs⟩ v va w w' := by
  have q1 : Quiet w (w.alloc (.cells #[.int .i64 0, .int .i64 0, .slice none 0 0] 38)) := Kp.alloc _ _
  have B1 := heap_alloc_new w (.cells #[.int .i64 0, .int .i64 0, .slice none 0 0] 38)
  have H1 := H.ext q1 w.heap.size (Nat.le_refl _) (heap_alloc_new w (.cells #[.int .i64 0, .int .i64 0, .slice none 0 0] 38)) (.inl rfl)
  have HP := hid (xpop_any H1 hn)
  have HH := hid (And.intro H (And.intro q1 B1))
  have hkb : (v.kind == k) = true := by simpa using hk
  clear H H1 q1 B1 hk
  go_enter Tryz.func155, Tryz.ntmps155
  go_wp2_with (first
    | (go_at_call 154; refine (xneed_yes _ _).mono ?_; rintro e w4 ⟨rfl, h4⟩; replace h4 := h4.symm; subst h4)
    | (go_at_call 146; refine HP.out.mono ?_; rintro e w2 ⟨rfl, h2⟩; have hb2 := (h2.fs.st (w.heap.size, #[.int .i64 0, .int .i64 0, .slice none 0 0], 38) (by simp [Cx.ext])).1; obtain ⟨m0, m1, m2⟩ := box_cells hb2; obtain ⟨f0, f1, f2⟩ := box_free3 hb2; have hz := lt_of_block hb2; have H2 := hid (And.intro h2 hb2); clear h2 hb2))
  have k1 := three_set w2 w.heap.size (.int .i64 v.kind) (.int .i64 v.n) (.slice va v.l.length vc)
  have b3 := three_put H2.out.2 (.int .i64 v.kind) (.int .i64 v.n) (.slice va v.l.length vc)
  generalize ((w2.setCell ⟨w.heap.size, 0, none⟩ (.int .i64 v.kind)).setCell ⟨w.heap.size, 1, none⟩ (.int .i64 v.n)).setCell ⟨w.heap.size, 2, none⟩ (.slice va v.l.length vc) = W3 at *
  obtain ⟨y0, y1, y2⟩ := box_cells ((Below.heap_alloc W3 (.cells #[.int .i64 v.kind, .int .i64 v.n, .slice va v.l.length vc] 38) _ (lt_of_block b3)).trans b3)
  refine bodyPost_ret (v := .agg #[.int .i64 v.kind, .int .i64 v.n, .slice va v.l.length vc]) (by simp [results, Tryz.results155, go_sem, y0, y1, y2]) rfl ⟨rfl, ?_⟩
  have q4 : Quiet W3 (W3.alloc (.cells #[.int .i64 v.kind, .int .i64 v.n, .slice va v.l.length vc] 38)) := Kp.alloc _ _
  obtain ⟨h, hq1, _⟩ := HH.out
  exact ⟨⟨(H2.out.1.fs.unext k1 h.xm h.went.kp.size h.bslt).quiet q4, safe_quiet (fsafe_unext H2.out.1.safe k1) q4⟩, (((hq1.mono fun _ _ e => e.elim).trans H2.out.1.kp).fresh (k1.mono fun k _ e => by omega)).trans (q4.mono fun _ _ e => e.elim)⟩
set_option maxRecDepth 8000 in
set_option maxHeartbeats 2000000 in
theorem xtake_no (k : Int) (H : FrS C q s left ⟨some ⟨g, 0, none⟩, n + 1, sc, ps ++ [(v, va, vc)], na, m, nc, qs⟩ w) (hn : n ≤ 2000) (hk : v.kind ≠ k) : Calls Tryz.prog 155 #[.pointer (some ⟨C.fb, 0, none⟩), .int .i64 k] w fun e w' => e = .panicked (gaveM 2) ∧ BadF C s left w' := by
  have q1 : Quiet w (w.alloc (.cells #[.int .i64 0, .int .i64 0, .slice none 0 0] 38)) := Kp.alloc _ _
  have H1 := H.ext q1 w.heap.size (Nat.le_refl _) (heap_alloc_new w (.cells #[.int .i64 0, .int .i64 0, .slice none 0 0] 38)) (.inl rfl)
  have HP := hid (xpop_any H1 hn)
  have HH := hid (And.intro H q1)
  have hkb : (v.kind == k) = false := by simpa using hk
  clear H H1 q1 hk
  go_enter Tryz.func155, Tryz.ntmps155
  go_wp2_with (first
    | (go_at_call 154; refine (xneed_no _ _).mono ?_; rintro e w4 ⟨rfl, h4⟩; replace h4 := h4.symm; subst h4)
    | (go_at_call 146; refine HP.out.mono ?_; rintro e w2 ⟨rfl, h2⟩; have H2 := hid h2; clear h2))
  exact ⟨rfl, rfl, (H2.out.fs.bad.less HH.out.1.xm).quiet (Kp.alloc _ _)⟩
theorem fieldN (x y z : Value) (w : World) : (Instr.field 38 (.agg #[x, y, z]) 1).run Tryz.prog w = .ok y w := by kernel_rfl
theorem fieldL (x y z : Value) (w : World) : (Instr.field 38 (.agg #[x, y, z]) 2).run Tryz.prog w = .ok z w := by kernel_rfl
set_option maxRecDepth 8000 in
set_option maxHeartbeats 2000000 in
theorem xtakeInt_yes (H : FrS C q s left ⟨some ⟨g, 0, none⟩, n + 1, sc, ps ++ [(v, va, vc)], na, m, nc, qs⟩ w) (hn : n ≤ 2000) (hk : v.kind = 1) : Calls Tryz.prog 147 #[.pointer (some ⟨C.fb, 0, none⟩)] w fun e w' => e = .returned (.int .i64 v.n) ∧ PopK C q s left ⟨some ⟨g, 0, none⟩, n, sc, ps, na, m, nc, qs⟩ v va w w' := by
  have HP := hid (xtake_yes 1 H hn hk)
  have hfd := fieldN
  clear H hk
  go_enter Tryz.func147, Tryz.ntmps147
  go_wp2_with (go_at_call 155; refine HP.out.mono ?_; rintro e w2 ⟨rfl, h2⟩; have H2 := hid h2; clear h2)
  go_ret
  exact ⟨rfl, H2.out⟩
theorem xtakeInt_no (H : FrS C q s left ⟨some ⟨g, 0, none⟩, n + 1, sc, ps ++ [(v, va, vc)], na, m, nc, qs⟩ w) (hn : n ≤ 2000) (hk : v.kind ≠ 1) : Calls Tryz.prog 147 #[.pointer (some ⟨C.fb, 0, none⟩)] w fun e w' => e = .panicked (gaveM 2) ∧ BadF C s left w' := by
  have HP := hid (xtake_no 1 H hn hk)
  clear H hk
  go_enter Tryz.func147, Tryz.ntmps147
  go_wp2_with (go_at_call 155; refine HP.out.mono ?_; rintro e w2 ⟨rfl, h2⟩; have H2 := hid h2; clear h2)
  exact ⟨rfl, rfl, H2.out⟩
set_option maxRecDepth 8000 in
set_option maxHeartbeats 2000000 in
theorem xtakeCap_yes (H : FrS C q s left ⟨some ⟨g, 0, none⟩, n + 1, sc, ps ++ [(v, va, vc)], na, m, nc, qs⟩ w) (hn : n ≤ 2000) (hk : v.kind = 4) : Calls Tryz.prog 162 #[.pointer (some ⟨C.fb, 0, none⟩)] w fun e w' => e = .returned (.int .i64 v.n) ∧ PopK C q s left ⟨some ⟨g, 0, none⟩, n, sc, ps, na, m, nc, qs⟩ v va w w' := by
  have HP := hid (xtake_yes 4 H hn hk)
  have hfd := fieldN
  clear H hk
  go_enter Tryz.func162, Tryz.ntmps162
  go_wp2_with (go_at_call 155; refine HP.out.mono ?_; rintro e w2 ⟨rfl, h2⟩; have H2 := hid h2; clear h2)
  go_ret
  exact ⟨rfl, H2.out⟩
theorem xtakeCap_no (H : FrS C q s left ⟨some ⟨g, 0, none⟩, n + 1, sc, ps ++ [(v, va, vc)], na, m, nc, qs⟩ w) (hn : n ≤ 2000) (hk : v.kind ≠ 4) : Calls Tryz.prog 162 #[.pointer (some ⟨C.fb, 0, none⟩)] w fun e w' => e = .panicked (gaveM 2) ∧ BadF C s left w' := by
  have HP := hid (xtake_no 4 H hn hk)
  clear H hk
  go_enter Tryz.func162, Tryz.ntmps162
  go_wp2_with (go_at_call 155; refine HP.out.mono ?_; rintro e w2 ⟨rfl, h2⟩; have H2 := hid h2; clear h2)
  exact ⟨rfl, rfl, H2.out⟩
end
end Go.Proofs.YtkpckmcaeljocaaGreat
