/- Parts. -/
import Derived.Test.YtkpckmcaeljocaaGreatUV7
import Derived.Test.YtkpckmcaeljocaaGreatUV6
import Derived.Carry
namespace Go.Proofs.YtkpckmcaeljocaaGreat
open Go.ChangeShapes Go.WideShapes Go.ChangeAt Go.RowKit
open Gr (Nd Res nd0 thereB openB deriveOf addOf gateOf cutOf cellB cellOf funcB funcOf rightsN wayOf gatesOf gatesW targetOf Wf NdOk GS IntsAt)
section
variable {B bb g wd : Nat} {vn vo vl : Value} {ms : Mods} {s : Sg} {w w' : World} {X X' F : Nat → Prop} {M : Hx} {q : Hq} {h : Hs}
theorem BoxX.turn2 (H : BoxX X B w bb g wd vn vo vl ms s) (k : Kp F w w') (hX : ∀ i, F i → X i) (ho : ∀ i, OwnB bb g wd vn vo vl i → ¬ F i)
    (hI : ∀ (i : Nat) (cs : Array Value) (t : TypeId), w.heap[i]? = some (.cells cs t (0, 0)) → t = 165 ∨ t = 159 → ¬ F i) (hX' : ∀ i, i < w.heap.size → X' i → X i) : BoxX X' B w' bb g wd vn vo vl ms s := by
  obtain ⟨a, b, c, d, hb, hk⟩ := H
  have hs : ∀ x, x = a ∨ x = b ∨ x = c ∨ x = d → SafeF (fun k => OwnB bb g wd vn vo vl k ∨ X' k) (fun w => Is w x.kept x.ao) w' := fun x hx => (hk x hx).step (k.mono fun i _ e => .inr (hX i e)) fun i hi e => by
    rcases e with e | e
    · exact .inl e
    · exact .inr (hX' i hi e)
  exact ⟨a, b, c, d, hb.kept k ho fun p hp m hm => ⟨hm.there, fun l hl => ⟨(hm.code l hl).1.kept k hI, (hm.code l hl).2⟩, hm.shape, (hs p hp).mono fun i _ e => .inl e, hm.good⟩, hs⟩
theorem HouseS.turn2 (H : HouseS X M q h w) (k : Kp F w w') (hX : ∀ i, F i → X i) (hI : ∀ (i : Nat) (cs : Array Value) (t : TypeId), w.heap[i]? = some (.cells cs t (0, 0)) → t = 165 ∨ t = 159 → ¬ F i) (hX' : ∀ i, i < w.heap.size → X' i → X i) (xo : ∀ i, X' i → i < w'.heap.size ∧ ¬ OwnH M q i) : HouseS X' M q h w' := by
  have hn : ∀ i, OwnH M q i → ¬ F i := fun i hi e => (H.xo i (hX i e)).2 hi
  exact ⟨H.box.turn2 k (fun i e => .inr (hX i e)) (fun i hi => hn i (.inl hi)) hI (fun i hi e => by
    rcases e with e | e
    · exact .inl e
    · exact .inr (hX' i hi e)), (k.block _ (lt_of_block H.obj) (hn _ (.inr (.inl rfl)))).trans H.obj, fun p hp => k.row (H.row p hp) fun i e => hn i (.inr (.inr ⟨p, hp, (own_len _ _ _ _ _).trans e⟩)), H.ap, H.leaf, H.ok, H.fit, H.ci, H.lo, xo⟩
end
structure Yx where
  h : Hx
  wb : Nat
def OwnY (P : Yx) (q : Hq) (k : Nat) : Prop := OwnH P.h q k ∨ k = P.wb
def yC (P : Yx) (n : Nat) : Array Value := #[.pointer (some ⟨P.h.hb, 0, none⟩), .int .i64 n, .int .i64 0, .int .i64 0]
structure YN (X : Nat → Prop) (P : Yx) (q : Hq) (h : Hs) (tr : List (Sp × Int)) (n : Nat) (w : World) : Prop where
  s : HouseS (fun k => k = P.wb ∨ X k) P.h q h w
  obj : w.heap[P.wb]? = some (.cells (yC P n) 55 (0, 0))
  lo : P.h.B ≤ P.wb
  xw : ¬ X P.wb
  hand : HandT tr h
section
variable {X X' F : Nat → Prop} {P : Yx} {q : Hq} {h : Hs} {tr : List (Sp × Int)} {n : Nat} {w w' : World}
theorem YN.cell (H : YN X P q h tr n w) : w.cell? ⟨P.wb, 0, none⟩ = some (.pointer (some ⟨P.h.hb, 0, none⟩)) := by simp [World.cell?, H.obj, yC]
theorem YN.cells (H : YN X P q h tr n w) : w.cell? ⟨P.wb, 0, none⟩ = some (.pointer (some ⟨P.h.hb, 0, none⟩)) ∧ w.cell? ⟨P.wb, 1, none⟩ = some (.int .i64 (n : Nat)) ∧ w.cell? ⟨P.wb, 2, none⟩ = some (.int .i64 0) ∧ w.cell? ⟨P.wb, 3, none⟩ = some (.int .i64 0) := by
  refine ⟨?_, ?_, ?_, ?_⟩ <;> simp [World.cell?, H.obj, yC]
theorem YN.lt (H : YN X P q h tr n w) {k : Nat} (hk : OwnY P q k) : P.h.B ≤ k ∧ k < w.heap.size := by
  rcases hk with e | e
  · exact H.s.own k e
  · rw [e]; exact ⟨H.lo, lt_of_block H.obj⟩
theorem YN.xo (H : YN X P q h tr n w) {k : Nat} (hk : X k) : k < w.heap.size ∧ ¬ OwnY P q k :=
  ⟨(H.s.xo k (.inr hk)).1, fun e => by
    rcases e with e | e
    · exact (H.s.xo k (.inr hk)).2 e
    · rw [e] at hk; exact H.xw hk⟩
theorem YN.step (H : YN X P q h tr n w) (k : Quiet w w') (hX : ∀ i, i < w.heap.size → X' i → X i) (xo : ∀ i, X' i → i < w'.heap.size) : YN X' P q h tr n w' :=
  ⟨H.s.step k (fun i hi e => by
      rcases e with e | e
      · exact .inl e
      · exact .inr (hX i hi e)) (fun i e => by
      rcases e with e | e
      · rw [e]; exact Nat.lt_of_lt_of_le (lt_of_block H.obj) k.size
      · exact xo i e), (k.block _ (lt_of_block H.obj) fun e => e).trans H.obj, H.lo, fun e => H.xw (hX _ (lt_of_block H.obj) e), H.hand⟩
theorem YN.quiet (H : YN X P q h tr n w) (k : Quiet w w') : YN X P q h tr n w' := H.step k (fun _ _ e => e) fun _ e => Nat.lt_of_lt_of_le (H.xo e).1 k.size
theorem YN.turn (H : YN X P q h tr n w) (k : Kp F w w') (hX : ∀ i, F i → X i) (hI : ∀ (i : Nat) (cs : Array Value) (t : TypeId), w.heap[i]? = some (.cells cs t (0, 0)) → t = 165 ∨ t = 159 → ¬ F i) (hX' : ∀ i, i < w.heap.size → X' i → X i) (xo : ∀ i, X' i → i < w'.heap.size ∧ ¬ OwnY P q i) : YN X' P q h tr n w' := by
  have hw : ¬ F P.wb := fun e => H.xw (hX _ e)
  have hl := lt_of_block H.obj
  exact ⟨H.s.turn2 k (fun i e => .inr (hX i e)) hI (fun i hi e => by
      rcases e with e | e
      · exact .inl e
      · exact .inr (hX' i hi e)) (fun i e => by
      rcases e with e | e
      · rw [e]; exact ⟨Nat.lt_of_lt_of_le hl k.size, (H.s.xo _ (.inl rfl)).2⟩
      · exact ⟨(xo i e).1, fun e2 => (xo i e).2 (.inl e2)⟩), (k.block _ hl hw).trans H.obj, H.lo, fun e => (xo _ e).2 (.inr rfl), H.hand⟩
end
def yT : WT where
  P := Yx
  Q := Hq
  hx p := p.h
  wb p := p.wb
  hq q := q
  own := OwnY
  S X p q h tr w := YN X p q h tr tr.length w
  house H := ⟨_, H.s⟩
  cell H := H.cell
  sub e := .inl e
  lt H e := H.lt e
  xo H e := H.xo e
  step H k a b := H.step k a b
  turn H k a b c d := H.turn k a b c d
theorem YN.few {X : Nat → Prop} {P : Yx} {q : Hq} {h : Hs} {tr : List (Sp × Int)} {n : Nat} {w : World} (H : YN X P q h tr n w) (hl : tr.length ≤ 100000) : FewH h := by
  refine few_of fun x hx => ?_
  obtain ⟨p, hp, e⟩ := List.getElem_of_mem hx
  have h4 : p < 4 := by have := H.s.ok.len; omega
  have h1 : h.hs.getD p [] = x := by rw [List.getD_eq_getElem?_getD, List.getElem?_eq_getElem hp, e]; rfl
  have h2 := congrArg List.length (H.hand.gifts p h4)
  rw [h1] at h2
  simp only [List.length_map, giftsOf] at h2
  have := List.length_filter_le (gaveY p) tr
  omega
section
variable {M : Hx} {q q' : Hq} {h h' : Hs} {w w' W w4 : World} {X : Nat → Prop} {vn' vo' vl' : Value} {ms' : Mods} {s' : Sg}
theorem HouseS.bfree (H : HouseS X M q h w) : ¬ OwnB M.bb M.g M.wd q.n q.o q.l M.hb ∧ ∀ p, p < 4 → ∀ k, (Value.slice (q.r p).1 0 0).ownBlock = some k → ¬ OwnB M.bb M.g M.wd q.n q.o q.l k ∧ k ≠ M.hb := by
  obtain ⟨a, b, c, d, hb⟩ := H.box.is
  refine ⟨hb.free H.obj (by decide) (by decide) (by decide) (by decide) (by decide) (by decide), fun p hp k hk => ?_⟩
  obtain ⟨cs, hc⟩ := row_type (H.row p hp) ((own_len _ _ _ _ _).trans hk)
  exact ⟨hb.free hc (by decide) (by decide) (by decide) (by decide) (by decide) (by decide), fun e => by rw [e, H.obj] at hc; simp at hc⟩
theorem HouseS.goesB (H : HouseS X M q h w) (g : GoesB M.bb M.g M.wd q.n q.o q.l w vn' vo' vl' w') (hb : BoxX (fun k => OwnX M q k ∨ X k) M.B w' M.bb M.g M.wd vn' vo' vl' ms' s') (ok : HOk ⟨s', ms', h.hs⟩) (fit : FitsM ms') (ci : ∀ c ∈ s'.cs, In64 c) :
    HouseS X M ⟨vn', vo', vl', q.r⟩ ⟨s', ms', h.hs⟩ w' ∧ GoesH M q w ⟨vn', vo', vl', q.r⟩ w' := by
  have G : GoesH M q w ⟨vn', vo', vl', q.r⟩ w' := ⟨g.kp.mono fun _ _ e => .inl e, fun k e => by
    rcases e with e | e
    · rcases g.own k e with e | e
      · exact .inl (.inl e)
      · exact .inr e
    · exact .inl (.inr e)⟩
  obtain ⟨f1, f2⟩ := H.bfree
  refine ⟨⟨hb, (g.block H.obj f1).1, fun p hp => g.kp.row (H.row p hp) fun k hk => (f2 p hp k ((own_len _ _ _ _ _).trans hk)).1, H.ap, H.leaf, ok, fit, ci, H.lo, fun k hk => ⟨Nat.lt_of_lt_of_le (H.xo k hk).1 g.kp.size, fun e => ?_⟩⟩, G⟩
  rcases G.own k e with e | e
  · exact (H.xo k hk).2 e
  · have := (H.xo k hk).1; omega
theorem BoxX.goes {B bb g wd : Nat} {vn vo vl : Value} {ms : Mods} {s : Sg} {Y : Nat → Prop} (H : BoxX Y B w bb g wd vn vo vl ms s) (hg : GoesB bb g wd vn vo vl w vn' vo' vl' w') (hb : ∀ a b c d, BoxS B w bb g wd vn vo vl ms s a b c d → BoxS B w' bb g wd vn' vo' vl' ms s' a b c d) : BoxX Y B w' bb g wd vn' vo' vl' ms s' := by
  obtain ⟨a, b, c, d, h, hk⟩ := H
  refine ⟨a, b, c, d, hb a b c d h, fun x hx => (hk x hx).step (hg.kp.mono fun _ _ e => .inl e) fun k hk e => ?_⟩
  rcases e with e | e
  · rcases hg.own k e with e | e
    · exact .inl e
    · omega
  · exact .inr e
theorem HouseS.graph {ns' : List Nd} {os' : List Bool} (H : HouseS X M q h w) (hg : Gr.Goes M.g q.n q.o w vn' vo' w') (hgs : GS 101 M.B w' M.g vn' vo' ns' os') (hwf : Wf ns' os'.length) (ok : HOk { h with s := { h.s with ns := ns', os := os' } }) :
    HouseS X M ⟨vn', vo', q.l, q.r⟩ { h with s := { h.s with ns := ns', os := os' } } w' ∧ GoesH M q w ⟨vn', vo', q.l, q.r⟩ w' := by
  obtain ⟨a, b, c, d, hb⟩ := H.box.is
  obtain ⟨_, g⟩ := hb.graph hg hgs hwf
  exact H.goesB (s' := { h.s with ns := ns', os := os' }) (ms' := h.ms) g (H.box.goes g fun a b c d hb => (hb.graph hg hgs hwf).1) ok H.fit H.ci
theorem HouseS.run {p k : Int} {v : V} {e : Ending} (H : HouseS X M q h w) (hr : RunXQ (fun k => OwnX M q k ∨ X k) M.B M.bb M.g M.wd q.n q.o q.l h.ms (runR h.ms p k v 2000 h.s) w e w') :
    ∃ q' ao cap, e = .returned (.tuple #[.agg #[.int .i64 (gotV (runR h.ms p k v 2000 h.s).1).kind, .int .i64 (gotV (runR h.ms p k v 2000 h.s).1).n, .slice ao (gotV (runR h.ms p k v 2000 h.s).1).l.length cap], .int .i64 (runR h.ms p k v 2000 h.s).2.1, .int .i64 (gotC (runR h.ms p k v 2000 h.s).1)]) ∧ HouseS X M q' (runH h p k v).2 w' ∧ GoesH M q w q' w' ∧ SafeF (fun k => OwnH M q' k ∨ X k) (fun w => Is w (gotV (runR h.ms p k v 2000 h.s).1) ao) w' := by
  obtain ⟨ao, cap, vn', vo', vl', he, hs, hb, g, ci⟩ := hr
  obtain ⟨h1, h2⟩ := H.goesB g hb (H.ok.run p k v) H.fit ci
  refine ⟨_, ao, cap, he, h1, h2, hs.mono fun i _ e => ?_⟩
  rcases e with (e | e) | e
  · exact .inl e
  · exact .inr (.inl e)
  · exact .inr (.inr e)
def loadW (w : World) (bb j : Nat) (code : Value) : World := ((((w.setCell ⟨bb, 2 + j * 5, none⟩ (.bool true)).setCell ⟨bb, 2 + j * 5 + 1, none⟩ code).setCell ⟨bb, 2 + j * 5 + 2, none⟩ (.int .i64 0)).setCell ⟨bb, 2 + j * 5 + 3, none⟩ (.int .i64 0)).setCell ⟨bb, 2 + j * 5 + 4, none⟩ (.slice none 0 0)
theorem load_list {w : World} {b : Nat} {L : List Value} {t : TypeId} (h : w.heap[b]? = some (.cells L.toArray t (0, 0))) (j : Nat) (code : Value) : (loadW w b j code).heap[b]? = some (.cells (((((L.set (2 + j * 5) (.bool true)).set (2 + j * 5 + 1) code).set (2 + j * 5 + 2) (.int .i64 0)).set (2 + j * 5 + 3) (.int .i64 0)).set (2 + j * 5 + 4) (.slice none 0 0)).toArray t (0, 0)) :=
  list_set (list_set (list_set (list_set (list_set h _ _) _ _) _ _) _ _) _ _
theorem load_kp (w : World) (bb j : Nat) (code : Value) : Kp (fun k => k = bb) w (loadW w bb j code) := ((((kp_set _ _ _ _).trans (kp_set _ _ _ _)).trans (kp_set _ _ _ _)).trans (kp_set _ _ _ _)).trans (kp_set _ _ _ _)
theorem BoxX.load {B bb g wd : Nat} {vn vo vl : Value} {ms : Mods} {s : Sg} {Y : Nat → Prop} {l : List Ex.V} {ao : Option Addr} {cap j : Nat} (H : BoxX Y B w bb g wd vn vo vl ms s) (hj : j < 4) (hc : CodeAt w (.slice ao l.length cap) l) (hl : ∀ v ∈ l, v.bad l.length 0 = 0) :
    BoxX Y B (loadW w bb j (.slice ao l.length cap)) bb g wd vn vo vl (ms.set j (some l)) { s with ks := s.ks.set j v0 } ∧ GoesB bb g wd vn vo vl w vn vo vl (loadW w bb j (.slice ao l.length cap)) := by
  obtain ⟨a, b, c, d, h, hk⟩ := H
  obtain ⟨ma, mb, mc, md, e, ha, hb, hc', hd⟩ := h.mods
  have kp := load_kp w bb j (.slice ao l.length cap)
  have hks := h.ks
  have hs : ∀ x, x = a ∨ x = b ∨ x = c ∨ x = d → SafeF (fun k => OwnB bb g wd vn vo vl k ∨ Y k) (fun w => Is w x.kept x.ao) (loadW w bb j (.slice ao l.length cap)) := fun x hx => (hk x hx).step (kp.mono fun k _ e => .inl (.inl e)) fun _ _ e => e
  have hz : SafeF (fun k => OwnB bb g wd vn vo vl k ∨ Y k) (fun w => Is w v0 none) (loadW w bb j (.slice ao l.length cap)) := safe_leaf v0 v0_fits rfl none
  have hp : PgS w (OwnB bb g wd vn vo vl) (some l) ⟨true, .slice ao l.length cap, v0, none, 0⟩ := pgs_new hc hl
  subst e
  obtain rfl | rfl | rfl | rfl : j = 0 ∨ j = 1 ∨ j = 2 ∨ j = 3 := by omega
  · obtain ⟨h1, h2⟩ := h.put (a' := ⟨true, .slice ao l.length cap, v0, none, 0⟩) (b' := b) (c' := c) (d' := d) kp (load_list h.obj _ _) (s' := { s with ks := s.ks.set 0 v0 }) (by rw [hks]; rfl) hp hb hc' hd
    exact ⟨⟨_, _, _, _, h1, fun x hx => by rcases hx with rfl | hx; exact hz; exact hs x (.inr hx)⟩, h2⟩
  · obtain ⟨h1, h2⟩ := h.put (a' := a) (b' := ⟨true, .slice ao l.length cap, v0, none, 0⟩) (c' := c) (d' := d) kp (load_list h.obj _ _) (s' := { s with ks := s.ks.set 1 v0 }) (by rw [hks]; rfl) ha hp hc' hd
    exact ⟨⟨_, _, _, _, h1, fun x hx => by rcases hx with hx | rfl | hx; exact hs x (.inl hx); exact hz; exact hs x (.inr (.inr hx))⟩, h2⟩
  · obtain ⟨h1, h2⟩ := h.put (a' := a) (b' := b) (c' := ⟨true, .slice ao l.length cap, v0, none, 0⟩) (d' := d) kp (load_list h.obj _ _) (s' := { s with ks := s.ks.set 2 v0 }) (by rw [hks]; rfl) ha hb hp hd
    exact ⟨⟨_, _, _, _, h1, fun x hx => by rcases hx with hx | hx | rfl | hx; exact hs x (.inl hx); exact hs x (.inr (.inl hx)); exact hz; exact hs x (.inr (.inr (.inr hx)))⟩, h2⟩
  · obtain ⟨h1, h2⟩ := h.put (a' := a) (b' := b) (c' := c) (d' := ⟨true, .slice ao l.length cap, v0, none, 0⟩) kp (load_list h.obj _ _) (s' := { s with ks := s.ks.set 3 v0 }) (by rw [hks]; rfl) ha hb hc' hp
    exact ⟨⟨_, _, _, _, h1, fun x hx => by rcases hx with hx | hx | hx | rfl; exact hs x (.inl hx); exact hs x (.inr (.inl hx)); exact hs x (.inr (.inr (.inl hx))); exact hz⟩, h2⟩
theorem HouseS.load {l : List Ex.V} {ao : Option Addr} {cap j : Nat} (H : HouseS X M q h w) (hj : j < 4) (hc : CodeAt w (.slice ao l.length cap) l) (hl : ∀ v ∈ l, v.bad l.length 0 = 0) (hf : ∀ x ∈ l, ∀ i ∈ Ex.funC x, In64 i.n) (ok : HOk ⟨{ h.s with ks := h.s.ks.set j v0 }, h.ms.set j (some l), h.hs⟩) :
    HouseS X M q ⟨{ h.s with ks := h.s.ks.set j v0 }, h.ms.set j (some l), h.hs⟩ (loadW w M.bb j (.slice ao l.length cap)) ∧ GoesH M q w q (loadW w M.bb j (.slice ao l.length cap)) := by
  obtain ⟨h1, h2⟩ := H.box.load hj hc hl
  refine H.goesB h2 h1 ok (fun i m hm x hx k hk => ?_) H.ci
  rw [List.getD_eq_getElem?_getD, List.getElem?_set] at hm
  by_cases e : j = i
  · rw [if_pos e] at hm
    by_cases e2 : j < h.ms.length
    · rw [if_pos e2] at hm
      simp only [Option.getD_some, Option.some.injEq] at hm
      subst hm
      exact hf x hx k hk
    · rw [if_neg e2] at hm; cases hm
  · rw [if_neg e, ← List.getD_eq_getElem?_getD] at hm
    exact H.fit i m hm x hx k hk
theorem HouseS.push {g cap p : Nat} {v : V} (H : HouseS X M q h w) (kW : Quiet w W) (hp : p < 4) (hv : v.l = [] ∧ v.fits) (ok : HOk { h with hs := h.hs.set p (h.hs.getD p [] ++ [v]) })
    (hr : w4.ownsRow M.B 38 3 (.slice (some ⟨g, 0, none⟩) ((h.hs.getD p []).length + 1) cap) ((h.hs.getD p []).length + 1) (tris (hd (h.hs.getD p [])) ++ tri (v, none, 0))) (hg : W.grownBy w4 (handV q h p).ownBlock) (hat : (handV q h p).ownBlock = some g ∨ W.heap.size ≤ g) :
    HouseS X M { q with r := upd q.r p (some ⟨g, 0, none⟩, cap) } { h with hs := h.hs.set p (h.hs.getD p [] ++ [v]) } (w4.setCell ⟨M.hb, 1 + p, none⟩ (.slice (some ⟨g, 0, none⟩) ((h.hs.getD p []).length + 1) cap)) ∧
    GoesH M q w { q with r := upd q.r p (some ⟨g, 0, none⟩, cap) } (w4.setCell ⟨M.hb, 1 + p, none⟩ (.slice (some ⟨g, 0, none⟩) ((h.hs.getD p []).length + 1) cap)) := by
  have HW := H.quiet kW
  obtain ⟨f1, f2⟩ := HW.bfree
  have hlen := H.ok.len
  have hrow : ∀ k, (handV q h p).ownBlock = some k ↔ (Value.slice (q.r p).1 0 0).ownBlock = some k := fun k => by unfold handV; rw [own_len]
  have hgd : ∀ i, (h.hs.set p (h.hs.getD p [] ++ [v])).getD i [] = if i = p then h.hs.getD p [] ++ [v] else h.hs.getD i [] := fun i => by
    rw [List.getD_eq_getElem?_getD, List.getElem?_set]
    by_cases e : p = i
    · rw [if_pos e, if_pos (by omega), if_pos e.symm]; rfl
    · rw [if_neg e, if_neg fun e2 => e e2.symm, ← List.getD_eq_getElem?_getD]
  have hur : ∀ i, upd q.r p (some ⟨g, 0, none⟩, cap) i = if i = p then (some ⟨g, 0, none⟩, cap) else q.r i := fun i => rfl
  have hgb : ∀ k, (Value.slice (some (⟨g, 0, none⟩ : Addr)) 0 0).ownBlock = some k → k = g := fun k e => by simp [Value.ownBlock] at e; exact e.symm
  have hwz := kW.size
  have hgx : g ≠ M.hb := by
    rcases hat with e | e
    · exact (f2 p hp g ((hrow g).1 e)).2
    · have := lt_of_block HW.obj; omega
  -- what may turn
  have k1 : Kp (fun k => (handV q h p).ownBlock = some k) W w4 := Kp.grown hg fun k _ e => e.symm
  have k2 := kp_set w4 M.hb (1 + p) (.slice (some ⟨g, 0, none⟩) ((h.hs.getD p []).length + 1) cap)
  have kp : Kp (fun k => k = M.hb ∨ (handV q h p).ownBlock = some k) W (w4.setCell ⟨M.hb, 1 + p, none⟩ (.slice (some ⟨g, 0, none⟩) ((h.hs.getD p []).length + 1) cap)) := (k1.mono fun _ _ e => .inr e).trans (k2.mono fun _ _ e => .inl e)
  have hb4 : w4.heap[M.hb]? = _ := (k1.block _ (lt_of_block HW.obj) fun e => (f2 p hp _ ((hrow _).1 e)).2 rfl).trans HW.obj
  -- blocks that are its own then
  have hown : ∀ k, OwnX M { q with r := upd q.r p (some ⟨g, 0, none⟩, cap) } k → OwnX M q k ∨ W.heap.size ≤ k := fun k e => by
    rcases e with e | ⟨i, hi, e⟩
    · exact .inl (.inl e)
    · simp only [hur] at e
      by_cases ei : i = p
      · rw [if_pos ei] at e
        rw [hgb k e]
        rcases hat with e2 | e2
        · exact .inl (.inr ⟨p, hp, (hrow g).1 e2⟩)
        · exact .inr e2
      · rw [if_neg ei] at e
        exact .inl (.inr ⟨i, hi, e⟩)
  have hF : ∀ k, (k = M.hb ∨ (handV q h p).ownBlock = some k) → OwnX M q k := fun k e => by
    rcases e with e | e
    · exact .inl e
    · exact .inr ⟨p, hp, (hrow k).1 e⟩
  have hFB : ∀ k, OwnB M.bb M.g M.wd q.n q.o q.l k → ¬ (k = M.hb ∨ (handV q h p).ownBlock = some k) := fun k hk e => by
    rcases e with e | e
    · exact f1 (e ▸ hk)
    · exact (f2 p hp k ((hrow k).1 e)).1 hk
  have hbox : BoxX (fun k => OwnX M { q with r := upd q.r p (some ⟨g, 0, none⟩, cap) } k ∨ X k) M.B (w4.setCell ⟨M.hb, 1 + p, none⟩ (.slice (some ⟨g, 0, none⟩) ((h.hs.getD p []).length + 1) cap)) M.bb M.g M.wd q.n q.o q.l h.ms h.s := by
    have b1 := HW.box.step (X' := fun k => OwnX M q k ∨ OwnX M { q with r := upd q.r p (some ⟨g, 0, none⟩, cap) } k ∨ X k) (Kp.refl _ _) (fun i hi e => by
      rcases e with e | e | e
      · exact .inl e
      · rcases hown i e with e | e
        · exact .inl e
        · omega
      · exact .inr e)
    have b2 := b1.beside kp (fun k e => .inl (hF k e)) hFB (fun k cs t hk ht e => by
      rcases e with e | e
      · rw [e, HW.obj] at hk
        simp at hk
        rcases ht with ht | ht <;> rw [ht] at hk <;> exact absurd hk.2 (by decide)
      · obtain ⟨cs', hc'⟩ := row_type (HW.row p hp) e
        rw [hc'] at hk
        simp at hk
        rcases ht with ht | ht <;> rw [ht] at hk <;> exact absurd hk.2 (by decide))
    exact b2.step (Kp.refl _ _) fun i _ e => .inr e
  have hobj : (w4.setCell ⟨M.hb, 1 + p, none⟩ (.slice (some ⟨g, 0, none⟩) ((h.hs.getD p []).length + 1) cap)).heap[M.hb]? = some (.cells #[.pointer (some ⟨M.bb, 0, none⟩), handV { q with r := upd q.r p (some ⟨g, 0, none⟩, cap) } { h with hs := h.hs.set p (h.hs.getD p [] ++ [v]) } 0, handV { q with r := upd q.r p (some ⟨g, 0, none⟩, cap) } { h with hs := h.hs.set p (h.hs.getD p [] ++ [v]) } 1, handV { q with r := upd q.r p (some ⟨g, 0, none⟩, cap) } { h with hs := h.hs.set p (h.hs.getD p [] ++ [v]) } 2, handV { q with r := upd q.r p (some ⟨g, 0, none⟩, cap) } { h with hs := h.hs.set p (h.hs.getD p [] ++ [v]) } 3] 59 (0, 0)) := by
    have hs := list_set (L := [_, _, _, _, _]) hb4 (1 + p) (.slice (some ⟨g, 0, none⟩) ((h.hs.getD p []).length + 1) cap)
    rw [hs]
    unfold handV
    simp only [hur, hgd]
    obtain rfl | rfl | rfl | rfl : p = 0 ∨ p = 1 ∨ p = 2 ∨ p = 3 := by omega
    all_goals simp
  have hrows : ∀ i, i < 4 → (w4.setCell ⟨M.hb, 1 + p, none⟩ (.slice (some ⟨g, 0, none⟩) ((h.hs.getD p []).length + 1) cap)).ownsRow M.B 38 3 (handV { q with r := upd q.r p (some ⟨g, 0, none⟩, cap) } { h with hs := h.hs.set p (h.hs.getD p [] ++ [v]) } i) ((h.hs.set p (h.hs.getD p [] ++ [v])).getD i []).length (tris (hd ((h.hs.set p (h.hs.getD p [] ++ [v])).getD i []))) := fun i hi => by
    unfold handV
    simp only [hur, hgd]
    by_cases ei : i = p
    · simp only [if_pos ei]
      have h1 := k2.row hr (fun k hk e => by simp [Value.ownBlock] at hk; omega)
      rw [show (h.hs.getD p [] ++ [v]).length = (h.hs.getD p []).length + 1 by simp, show hd (h.hs.getD p [] ++ [v]) = hd (h.hs.getD p []) ++ [(v, none, 0)] by simp [hd], tris_app, tris_one]
      exact h1
    · simp only [if_neg ei]
      exact kp.row (HW.row i hi) fun k hk e => by
        have hk' : (Value.slice (q.r i).1 0 0).ownBlock = some k := (own_len _ _ _ _ _).trans hk
        rcases e with e | e
        · exact (f2 i hi k hk').2 e
        · exact H.ap i p hi hp ei k hk' ((hrow k).1 e)
  have hap : ∀ i j, i < 4 → j < 4 → i ≠ j → ∀ k, (Value.slice (upd q.r p (some ⟨g, 0, none⟩, cap) i).1 0 0).ownBlock = some k → (Value.slice (upd q.r p (some ⟨g, 0, none⟩, cap) j).1 0 0).ownBlock ≠ some k := fun i j hi hj hij k hk hk2 => by
    have other : ∀ i, i < 4 → i ≠ p → (Value.slice (q.r i).1 0 0).ownBlock ≠ some g := fun i hi ei e => by
      rcases hat with e2 | e2
      · exact H.ap i p hi hp ei g e ((hrow g).1 e2)
      · have := ((HW.row i hi).lt g ((own_len _ _ _ _ _).trans e)).2; omega
    simp only [hur] at hk hk2
    by_cases ei : i = p
    · have ej : j ≠ p := fun e => hij (ei.trans e.symm)
      rw [if_pos ei] at hk
      rw [if_neg ej] at hk2
      exact other j hj ej (hgb k hk ▸ hk2)
    · rw [if_neg ei] at hk
      by_cases ej : j = p
      · rw [if_pos ej] at hk2
        exact other i hi ei (hgb k hk2 ▸ hk)
      · rw [if_neg ej] at hk2
        exact H.ap i j hi hj hij k hk hk2
  have G : GoesH M q w { q with r := upd q.r p (some ⟨g, 0, none⟩, cap) } (w4.setCell ⟨M.hb, 1 + p, none⟩ (.slice (some ⟨g, 0, none⟩) ((h.hs.getD p []).length + 1) cap)) := ⟨(kW.mono fun _ _ e => e.elim).trans (kp.mono fun k _ e => .inr (hF k e)), fun k e => by
    rcases e with e | e
    · exact .inl (.inl e)
    · rcases hown k e with e | e
      · exact .inl (.inr e)
      · exact .inr (by omega)⟩
  refine ⟨⟨hbox, hobj, hrows, hap, fun i hi u hu => ?_, ok, H.fit, H.ci, H.lo, fun k hk => ⟨Nat.lt_of_lt_of_le (H.xo k hk).1 G.kp.size, fun e => ?_⟩⟩, G⟩
  · simp only [hgd] at hu
    by_cases ei : i = p
    · rw [if_pos ei] at hu
      rcases List.mem_append.1 hu with hu | hu
      · exact H.leaf p hp u hu
      · rw [List.mem_singleton.1 hu]; exact hv
    · rw [if_neg ei] at hu
      exact H.leaf i hi u hu
  · rcases G.own k e with e | e
    · exact (H.xo k hk).2 e
    · have := (H.xo k hk).1; omega
theorem box_mono {B B' bb g wd : Nat} {vn vo vl : Value} {ms : Mods} {s : Sg} {a b c d : Pg} (h : BoxS B w bb g wd vn vo vl ms s a b c d) (hB : B' ≤ B) : BoxS B' w bb g wd vn vo vl ms s a b c d :=
  ⟨h.obj, ⟨h.gs.obj, owns_mono h.gs.rn hB, owns_mono h.gs.ro hB, h.gs.nb, h.gs.ob, h.gs.no, Nat.le_trans hB h.gs.lo, h.gs.ln, h.gs.lg⟩, h.wf, ⟨h.ws.obj, owns_mono h.ws.row hB, h.ws.ne, Nat.le_trans hB h.ws.lo⟩, h.ks, Nat.le_trans hB h.lo, h.mods⟩
theorem boxx_new {B bb g wd : Nat} {vn vo vl : Value} {ms : Mods} {Y : Nat → Prop} (H : BoxIs B w bb g wd vn vo vl ms s0) : BoxX Y B w bb g wd vn vo vl ms s0 := by
  obtain ⟨a, b, c, d, h⟩ := H
  refine ⟨a, b, c, d, h, fun x hx => ?_⟩
  have hks := h.ks
  simp only [s0, List.cons.injEq, and_true] at hks
  obtain ⟨e1, e2, e3, e4⟩ := hks
  have e : x.kept = v0 := by
    rcases hx with rfl | rfl | rfl | rfl
    · exact e1.symm
    · exact e2.symm
    · exact e3.symm
    · exact e4.symm
  rw [e]
  exact safe_leaf v0 v0_fits rfl x.ao
theorem house_new {B bb g wd : Nat} {vn vo vl : Value} (H : BoxIs B w bb g wd vn vo vl [none, none, none, none] s0) (hX : ∀ k, X k → k < w.heap.size ∧ ¬ OwnB bb g wd vn vo vl k) (hB : B ≤ w.heap.size) :
    HouseS X ⟨B, w.heap.size, bb, g, wd⟩ ⟨vn, vo, vl, fun _ => (none, 0)⟩ h00 (w.alloc (.cells #[.pointer (some ⟨bb, 0, none⟩), .slice none 0 0, .slice none 0 0, .slice none 0 0, .slice none 0 0] 59)) := by
  have q1 : Quiet w (w.alloc (.cells #[.pointer (some ⟨bb, 0, none⟩), .slice none 0 0, .slice none 0 0, .slice none 0 0, .slice none 0 0] 59)) := Kp.alloc _ _
  have hnb : ∀ k : Nat, ¬ (Value.slice none 0 0).ownBlock = some k := fun k e => by simp [Value.ownBlock] at e
  have hrep : ∀ p : Nat, (List.replicate 4 ([] : List V)).getD p [] = [] := fun p => by
    rw [List.getD_eq_getElem?_getD, List.getElem?_replicate]; split <;> rfl
  have hh : ∀ p : Nat, h00.hs.getD p [] = [] := hrep
  refine ⟨(boxx_new (Y := fun k => OwnX _ _ k ∨ X k) H).quiet q1, ?_, fun p _ => ?_, fun p p' _ _ _ k hk => absurd hk (hnb k), fun p _ v hv => ?_, hok0, fun j l hl => ?_, ?_, hB, fun k hk => ⟨?_, fun e => ?_⟩⟩
  · have h1 := heap_alloc_new w (.cells #[.pointer (some ⟨bb, 0, none⟩), .slice none 0 0, .slice none 0 0, .slice none 0 0, .slice none 0 0] 59)
    unfold handV
    simp only [hh, List.length_nil]
    exact h1
  · unfold handV
    rw [hh]
    exact World.ownsRow_nil _ _ _ _
  · rw [hh] at hv; simp at hv
  · exfalso
    have : (List.replicate 4 (none : Option (List Ex.V))).getD j none = none := by rw [List.getD_eq_getElem?_getD, List.getElem?_replicate]; split <;> rfl
    rw [show h00.ms.getD j none = none from this] at hl
    cases hl
  · intro c hc
    have : c = 0 := List.eq_of_mem_replicate (show c ∈ List.replicate 12 (0 : Int) from hc)
    rw [this]; exact ⟨by decide, by decide⟩
  · exact Nat.lt_of_lt_of_le (hX k hk).1 q1.size
  · rcases e with e | e | ⟨p, _, e⟩
    · exact (hX k hk).2 e
    · have := (hX k hk).1; simp only at e; omega
    · exact hnb k e
end
end Go.Proofs.YtkpckmcaeljocaaGreat
namespace Go.Proofs.YtkpckmcaeljocaaGreat
open Go.ChangeShapes Go.WideShapes Go.ChangeAt Go.RowKit
theorem head_fun {w : World} {v u : V} {b off : Nat} (h : v.head w b off) (h' : u.head w b off) : v.kind = u.kind ∧ v.n = u.n := by
  obtain ⟨a1, a2⟩ := h; obtain ⟨b1, b2⟩ := h'
  rw [a1] at b1; rw [a2] at b2
  simp only [Option.some.injEq, Value.int.injEq, true_and] at b1 b2
  exact ⟨b1, b2⟩
theorem at_fun {w : World} (v : V) : ∀ (u : V) (b off : Nat), v.at w b off → u.at w b off → v = u := by
  induction v using V.ind' with
  | h v ih =>
    intro u b off hv hu
    rw [at_iff] at hv hu
    obtain ⟨c0, ao, cap, c2, hI⟩ := hv
    obtain ⟨d0, ao', cap', d2, hU⟩ := hu
    rw [c2] at d2
    simp only [Option.some.injEq, Value.slice.injEq] at d2
    obtain ⟨rfl, hlen, _⟩ := d2
    rw [v_ext]
    refine ⟨head_fun c0 d0, ?_⟩
    refine List.ext_getElem hlen fun i h1 h2 => ?_
    obtain ⟨b1, o1, e1, k1⟩ := hI.fo i h1
    obtain ⟨b2, o2, e2, k2⟩ := hU.fo i h2
    rw [e1] at e2; cases e2
    exact ih _ (List.getElem_mem h1) _ _ _ k1 k2
theorem at_write {w w' : World} {t : V} {b off : Nat} {cap' : Nat} {ao' : Option Addr} (ht : t.at w b off)
    (hk : ∀ (a : Addr) (x : Value), a ≠ ⟨b, off + 2, none⟩ → w.cell? a = some x → w'.cell? a = some x) (hn : w'.cell? ⟨b, off + 2, none⟩ = some (.slice ao' t.l.length cap')) (hF : Fo w t.l ao') :
    ∀ (m : Nat) (v : V) (b1 o1 : Nat), v.size ≤ m → v.at w b1 o1 → v.at w' b1 o1 := by
  intro m
  induction m with
  | zero => intro v _ _ h; have := size_pos v; omega
  | succ m ih =>
    intro v b1 o1 hs hv
    have hv0 := hv
    rw [at_iff] at hv ⊢
    obtain ⟨hh, a1, p1, c2, hI⟩ := hv
    obtain ⟨_, a0, p0, h2, _⟩ := (at_iff _ _ _ _).1 ht
    have hn' : ∀ (a : Addr) (k : Int), w.cell? a = some (.int .i64 k) → w'.cell? a = some (.int .i64 k) := by
      intro a k hc
      refine hk a _ ?_ hc
      rintro rfl
      rw [h2] at hc; simp at hc
    have kid : ∀ (l : List V) (ax : Option Addr), sizes l ≤ m → Fo w l ax → Fo w' l ax := by
      intro l ax hx hf i hi
      obtain ⟨bb, oo, e, k⟩ := hf i hi
      refine ⟨bb, oo, e, ih _ _ _ ?_ k⟩
      have := size_get l i hi; omega
    have hl : sizes v.l ≤ m := by have := size_eq v; omega
    refine ⟨⟨hn' _ _ hh.1, hn' _ _ hh.2⟩, ?_⟩
    by_cases he : (⟨b1, o1 + 2, none⟩ : Addr) = ⟨b, off + 2, none⟩
    · simp only [Addr.mk.injEq, and_true] at he
      obtain ⟨rfl, ho⟩ := he
      obtain rfl : o1 = off := by omega
      obtain rfl := at_fun v t _ _ hv0 ht
      exact ⟨ao', cap', hn, hI.fit, kid _ _ hl hF⟩
    · exact ⟨a1, p1, hk _ _ he c2, hI.fit, kid _ _ hl hI.fo⟩
def cutV (R : Nat → Bool) (h : Nat) (w : World) : World := { w with heap := w.heap.mapIdx fun i o => if R i then .cells #[] 0 (0, 0) else if i < h then o else match o with | .cells c t z => if t = 38 then .cells c t z else .cells #[] 0 (0, 0) | _ => .cells #[] 0 (0, 0) }
def IsV (w : World) (b : Nat) : Prop := ∃ c, w.heap[b]? = some (.cells c 38 (0, 0))
theorem cutV_old {R : Nat → Bool} {h : Nat} {w : World} {k : Nat} (hr : R k = false) (hk : k < h) : (cutV R h w).heap[k]? = w.heap[k]? := by
  simp only [cutV, Array.getElem?_mapIdx, hr, hk, if_true, if_false, Bool.false_eq_true]
  cases w.heap[k]? <;> rfl
theorem cutV_val {R : Nat → Bool} {h : Nat} {w : World} {k : Nat} {c : Array Value} {z : Nat × Nat} (hr : R k = false) (hk : w.heap[k]? = some (.cells c 38 z)) : (cutV R h w).heap[k]? = w.heap[k]? := by
  by_cases hh : k < h
  · exact cutV_old hr hh
  · simp only [cutV, Array.getElem?_mapIdx, hk, Option.map_some, if_true]
    rw [if_neg (by simp [hr]), if_neg hh]
theorem cutV_cell {R : Nat → Bool} {h : Nat} {w : World} {a : Addr} {x : Value} (hc : (cutV R h w).cell? a = some x) : w.cell? a = some x ∧ R a.block = false ∧ (a.block < h ∨ ∃ c z, w.heap[a.block]? = some (.cells c 38 z)) := by
  have hb := World.block_lt_of_cell? (cutV R h w) a hc
  have hs : a.block < w.heap.size := by simpa [cutV] using hb
  have e0 : w.heap[a.block]? = some w.heap[a.block] := Array.getElem?_eq_getElem hs
  by_cases hr0 : R a.block = true
  · exfalso
    have hr := hr0
    have e1 : (cutV R h w).heap[a.block]? = some (.cells #[] 0 (0, 0)) := by
      simp only [cutV, Array.getElem?_mapIdx, e0, Option.map_some]
      rw [if_pos hr]
    simp [World.cell?, e1] at hc
  · have hr : R a.block = false := by simpa using hr0
    by_cases hk : a.block < h
    · exact ⟨(World.cell?_of_block (cutV_old hr hk)).symm.trans hc, hr, .inl hk⟩
    · cases ho : w.heap[a.block] with
      | cells c t z =>
        by_cases ht : t = 38
        · subst ht
          rw [ho] at e0
          exact ⟨(World.cell?_of_block (cutV_val hr e0)).symm.trans hc, hr, .inr ⟨c, z, e0⟩⟩
        · exfalso
          rw [ho] at e0
          have e1 : (cutV R h w).heap[a.block]? = some (.cells #[] 0 (0, 0)) := by
            simp only [cutV, Array.getElem?_mapIdx, e0, Option.map_some, hr, hk, ht, if_false, Bool.false_eq_true]
          simp [World.cell?, e1] at hc
      | _ =>
        exfalso
        rw [ho] at e0
        have e1 : (cutV R h w).heap[a.block]? = some (.cells #[] 0 (0, 0)) := by
          simp only [cutV, Array.getElem?_mapIdx, e0, Option.map_some, hr, hk, if_false, Bool.false_eq_true]
        simp [World.cell?, e1] at hc
theorem cutV_mk {R : Nat → Bool} {h : Nat} {w : World} {a : Addr} {x : Value} (hc : w.cell? a = some x) (hr : R a.block = false) (ha : a.block < h ∨ ∃ c z, w.heap[a.block]? = some (.cells c 38 z)) : (cutV R h w).cell? a = some x := by
  rcases ha with ha | ⟨c, z, ha⟩
  · exact (World.cell?_of_block (cutV_old hr ha)).trans hc
  · exact (World.cell?_of_block (cutV_val hr ha)).trans hc
theorem Fo.uncut {R : Nat → Bool} {h : Nat} {w : World} {l : List V} {ao : Option Addr} (hv : Fo (cutV R h w) l ao) : Fo w l ao := hv.kept fun _ _ hc => (cutV_cell hc).1
def Keeps (R : Nat → Bool) (h : Nat) (w w' : World) : Prop := (∀ k, R k = false → k < h → w'.heap[k]? = w.heap[k]?) ∧ ∀ (k : Nat) (c : Array Value) (z : Nat × Nat), R k = false → w.heap[k]? = some (Obj.cells c 38 z) → w'.heap[k]? = some (Obj.cells c 38 z)
theorem Keeps.cell {R : Nat → Bool} {h : Nat} {w w' : World} (hk : Keeps R h w w') : ∀ (a : Addr) (x : Value), (cutV R h w).cell? a = some x → (cutV R h w').cell? a = some x := by
  intro a x hc
  obtain ⟨h1, hr, h2⟩ := cutV_cell hc
  rcases h2 with h2 | ⟨c, z, h2⟩
  · exact cutV_mk ((World.cell?_of_block (hk.1 _ hr h2)).trans h1) hr (.inl h2)
  · have := hk.2 _ _ _ hr h2
    exact cutV_mk ((World.cell?_of_block (this.trans h2.symm)).trans h1) hr (.inr ⟨c, z, this⟩)
theorem Keeps.trans {R : Nat → Bool} {h : Nat} {a b c : World} (h1 : Keeps R h a b) (h2 : Keeps R h b c) : Keeps R h a c := ⟨fun k hr hk => (h2.1 k hr hk).trans (h1.1 k hr hk), fun k _ _ hr e => h2.2 k _ _ hr (h1.2 k _ _ hr e)⟩
theorem Keeps.quiet {R : Nat → Bool} {h : Nat} {w w' : World} (q : Quiet w w') (hh : h ≤ w.heap.size) : Keeps R h w w' :=
  ⟨fun k _ hk => q.block k (by omega) fun e => e, fun k _ _ _ e => (q.block k (lt_of_block e) fun e => e).trans e⟩
theorem Keeps.isV {R : Nat → Bool} {h : Nat} {w w' : World} (hk : Keeps R h w w') {b : Nat} (hr : R b = false) (hb : IsV w b) : IsV w' b := by obtain ⟨c, hc⟩ := hb; exact ⟨c, hk.2 b c _ hr hc⟩
theorem Keeps.grown {R : Nat → Bool} {h : Nat} {w w' : World} {B : Nat} {t : TypeId} {s : Nat} {v : Value} {n : Nat} {xs : List Value} (hr : w.ownsRow B t s v n xs) (ht : t ≠ 38) (hB : h ≤ B) (hg : w.grownBy w' v.ownBlock) (hh : h ≤ w.heap.size) : Keeps R h w w' := by
  refine ⟨fun k _ hk => hg.block k (by omega) fun e => by have := (hr.lt k e.symm).1; omega, fun k c z _ e => (hg.block k (lt_of_block e) fun e' => ?_).trans e⟩
  rcases hr.2 with ⟨rfl, _⟩ | ⟨g, cap, cur, rfl, _, hh, _⟩
  · simp [Value.ownBlock] at e'
  · simp [Value.ownBlock] at e'
    subst e'
    rw [hh] at e
    simp at e
    exact ht e.2.1
theorem kids_of {w : World} {l : List V} {b o : Nat} (h : Fo w l (some ⟨b, o, none⟩)) : ∃ ps : List Kd, ps.map (·.1) = l ∧ (∀ p ∈ ps, Is w p.1 p.2.1) ∧ ∀ j x, (tris ps)[j]? = some x → w.cell? ⟨b, o + j, none⟩ = some x := by
  have key : ∀ i, i < l.length → ∃ p : Option Addr × Nat, ∀ hi : i < l.length, Is w l[i] p.1 ∧ ∀ c, c < 3 → w.cell? ⟨b, o + i * 3 + c, none⟩ = (tri (l[i], p))[c]? := by
    intro i hi
    obtain ⟨b', o', e, hh, ai, ci, c2, hI⟩ := h.get i hi
    cases e
    refine ⟨(ai, ci), fun _ => ⟨hI, fun c hc => ?_⟩⟩
    match c, hc with
    | 0, _ => exact hh.1
    | 1, _ => exact hh.2
    | 2, _ => exact c2
  haveI : Inhabited (Option Addr × Nat) := ⟨(none, 0)⟩
  obtain ⟨f, hf⟩ := Deep.choose_lt key
  refine ⟨l.mapIdx fun i x => (x, f i), ?_, fun p hp => ?_, fun j x hx => ?_⟩
  · apply List.ext_getElem <;> simp
  · obtain ⟨i, hi, rfl⟩ := List.getElem_of_mem hp
    have hi' : i < l.length := by simpa using hi
    simpa using (hf i hi' hi').1
  · have hlen := tris_len (l.mapIdx fun i x => (x, f i))
    have hj : j < (l.mapIdx fun i x => (x, f i)).length * 3 := by
      rw [← hlen]
      rcases Nat.lt_or_ge j (tris (l.mapIdx fun i x => (x, f i))).length with h' | h'
      · exact h'
      · rw [List.getElem?_eq_none h'] at hx; simp at hx
    have hi : j / 3 < l.length := by simp at hj; omega
    have e : j = j / 3 * 3 + j % 3 := by omega
    have h1 := (hf (j / 3) hi hi).2 (j % 3) (by omega)
    have h2 := tris_at (l.mapIdx fun i x => (x, f i)) (j / 3) (j % 3) (by simpa using hi) (by omega)
    rw [← e] at h2
    rw [h2] at hx
    simp only [List.getElem_mapIdx] at hx
    rw [show o + j = o + j / 3 * 3 + j % 3 by omega, h1]
    exact hx
theorem copied {w w4 : World} {R : Nat → Bool} {h B : Nat} {l : List V} {G m cap : Nat} {ps : List Kd} (hps : ps.map (·.1) = l) (hI : ∀ p ∈ ps, Is (cutV R h w) p.1 p.2.1) (hk : Keeps R h w w4) (hr : w4.ownsRow B 38 3 (.slice (some ⟨G, 0, none⟩) m cap) m (tris ps)) (hm : m = ps.length) (hm0 : 0 < m) (hGr : R G = false) :
    Fo (cutV R h w4) l (some ⟨G, 0, none⟩) ∧ IsV w4 G := by
  have hG : IsV w4 G := by
    rcases hr.2 with ⟨e, _⟩ | ⟨g, cp, cur, e, _, hh, _⟩
    · simp at e
    · simp only [Value.slice.injEq, Option.some.injEq, Addr.mk.injEq] at e
      obtain ⟨⟨rfl, _⟩, _⟩ := e
      exact ⟨cur, hh⟩
  refine ⟨?_, hG⟩
  subst hm hps
  intro i hi
  have hi' : i < ps.length := by simpa using hi
  obtain ⟨g, e, d⟩ := owns_at hr hm0
  cases e
  obtain ⟨c, hc⟩ := hG
  refine ⟨G, 0, rfl, ?_⟩
  have e : (ps.map (·.1))[i] = ps[i].1 := by simp
  rw [e, Nat.zero_add]
  refine tri_at (fun j hj => ?_) ((hI _ (List.getElem_mem hi')).kept hk.cell)
  have h1 := d (i * 3 + j) (by omega)
  rw [tris_at ps i j hi' hj] at h1
  have hj' : j < (tri ps[i]).length := by simp [tri]; omega
  rw [List.getElem?_eq_getElem hj'] at h1 ⊢
  exact cutV_mk h1 hGr (.inr ⟨c, _, hc⟩)
theorem cell_set {w : World} {p a : Addr} {x y : Value} (hne : a ≠ p) (hc : w.cell? a = some x) : (w.setCell p y).cell? a = some x := by
  rw [World.cell?_setCell_other (h := fun e => hne e.symm)]; exact hc
theorem cell_again {w : World} {p a : Addr} {x y : Value} (hp : w.cell? p = some y) (hc : w.cell? a = some x) : (w.setCell p y).cell? a = some x := by
  by_cases e : a = p
  · subst e; rw [hp] at hc; cases hc; exact World.cell?_setCell_same' _ _ _ (by rw [hp]; rfl)
  · exact cell_set e hc
theorem set_kind {w : World} {p : Addr} {y : Value} {k : Nat} {c : Array Value} {t : TypeId} {z : Nat × Nat} (hk : w.heap[k]? = some (.cells c t z)) : ∃ c', (w.setCell p y).heap[k]? = some (.cells c' t z) := by
  by_cases e : k = p.block
  · subst e
    exact ⟨_, by simp [World.setCell, Array.getElem?_modify, hk]; rfl⟩
  · exact ⟨c, (Below.heap_setCell _ _ _ _ e).trans hk⟩
structure Wrt (w w' : World) (b off : Nat) (y : Value) : Prop where
  cell : ∀ (a : Addr) (x : Value), a ≠ ⟨b, off + 2, none⟩ → w.cell? a = some x → w'.cell? a = some x
  new : w'.cell? ⟨b, off + 2, none⟩ = some y
  kp : Kp (fun k => k = b) w w'
  kind : ∀ (k : Nat) (c : Array Value) (t : TypeId) (z : Nat × Nat), w.heap[k]? = some (Obj.cells c t z) → ∃ c', w'.heap[k]? = some (Obj.cells c' t z)
theorem wrt_set {w : World} {b off : Nat} {v : V} {x y : Value} (hh : v.head w b off) (hs : w.cell? ⟨b, off + 2, none⟩ = some x) :
    Wrt w (((w.setCell ⟨b, off, none⟩ (.int .i64 v.kind)).setCell ⟨b, off + 1, none⟩ (.int .i64 v.n)).setCell ⟨b, off + 2, none⟩ y) b off y := by
  obtain ⟨h0, h1⟩ := hh
  have s1 : ∀ (a : Addr) (z : Value), w.cell? a = some z → (w.setCell ⟨b, off, none⟩ (.int .i64 v.kind)).cell? a = some z := fun a z hz => cell_again h0 hz
  have s3 : ∀ (a : Addr) (z : Value), w.cell? a = some z → ((w.setCell ⟨b, off, none⟩ (.int .i64 v.kind)).setCell ⟨b, off + 1, none⟩ (.int .i64 v.n)).cell? a = some z := fun a z hz => cell_again (s1 _ _ h1) (s1 _ _ hz)
  refine ⟨fun a z hne hz => cell_set hne (s3 a z hz), World.cell?_setCell_same' _ _ _ (by rw [s3 _ _ hs]; rfl), ?_, fun k c t z hk => ?_⟩
  · exact ((kp_set _ _ _ _).trans (kp_set _ _ _ _)).trans (kp_set _ _ _ _)
  · obtain ⟨c1, k1⟩ := set_kind (p := ⟨b, off, none⟩) (y := .int .i64 v.kind) hk
    obtain ⟨c3, k3⟩ := set_kind (p := ⟨b, off + 1, none⟩) (y := .int .i64 v.n) k1
    exact set_kind k3
def keyOf (a : Option Addr) (n : Nat) : Value := .agg #[.pointer (if n = 0 then none else a), .int .i64 n]
set_option maxRecDepth 8000 in
set_option maxHeartbeats 1000000 in
theorem listOf_any (a : Option Addr) (n cap : Nat) (w : World) (ha : 0 < n → ∃ b o, a = some ⟨b, o, none⟩) :
    Calls Tryz.prog 144 #[.slice a n cap] w fun e w' => e = .returned (keyOf a n) ∧ Quiet w w' := by
  by_cases hn : n = 0
  · subst hn
    go_enter Tryz.func144, Tryz.ntmps144
    go_wp2
    refine bodyPost_ret (v := .agg #[.pointer none, .int .i64 0]) (by simp [results, Tryz.results144, go_sem]) rfl ?_
    exact ⟨rfl, Kp.alloc _ _⟩
  · obtain ⟨b, o, rfl⟩ := ha (by omega)
    have hn1 : ¬ (n : Int) = 0 := by omega
    have hn2 : (0 : Int) < (n : Int) := by omega
    have hE := hid (show keyOf (some ⟨b, o, none⟩) n = .agg #[.pointer (some ⟨b, o, none⟩), .int .i64 n] by simp [keyOf, hn])
    clear hn
    go_enter Tryz.func144, Tryz.ntmps144
    go_wp2
    refine bodyPost_ret (v := .agg #[.pointer (some ⟨b, o, none⟩), .int .i64 n]) (by simp [results, Tryz.results144, go_sem]) rfl ?_
    exact ⟨by rw [hE.out], Kp.alloc _ _⟩
theorem part0 (p : Option Addr) (n : Int) (w : World) : (part 218 #[.pointer p, .int .i64 n] 0).run Tryz.prog w = .ok (.pointer p) w := by
  simp [go_sem, part]
theorem part1 (p : Option Addr) (n : Int) (w : World) : (part 3 #[.pointer p, .int .i64 n] 1).run Tryz.prog w = .ok (.int .i64 n) w := by
  simp [go_sem, part]
theorem key_p (e : Bool) (p : Option Addr) (m : Nat) (w : World) : (Instr.checkKey e (m + 1) 218 (.pointer p)).run Tryz.prog w = .ok () w := by
  simp [Instr.checkKey, run_underlying Tryz.underlying218, go_sem]
theorem key_i (e : Bool) (n : Int) (m : Nat) (w : World) : (Instr.checkKey e (m + 1) 3 (.int .i64 n)).run Tryz.prog w = .ok () w := by
  simp [Instr.checkKey, run_underlying Tryz.underlying3, go_sem]
theorem key_ok (e : Bool) (p : Option Addr) (n : Int) (m : Nat) (w : World) : (Instr.checkKey e (m + 1 + 1) 220 (.agg #[.pointer p, .int .i64 n])).run Tryz.prog w = .ok () w := by
  rw [Instr.checkKey]
  simp [run_underlying Tryz.underlying220, part0, part1, key_p, key_i, Result.andThen]
theorem look_nil (p : Option Addr) (n : Int) (w : World) : (Instr.lookup 215 (.map none) (.agg #[.pointer p, .int .i64 n]) true).run Tryz.prog w = .ok (.tuple #[.slice none 0 0, .bool false]) w := by
  have k := key_ok true p n 9998 w
  have hz := Tryz.zeroValue36 w
  unfold Instr.lookup
  simp only [Sem.run_bind, run_underlying Tryz.underlying215, Result.andThen]
  rw [show (10000 : Nat) = 9998 + 1 + 1 from rfl]
  generalize (9998 + 1 + 1 : Nat) = M at *
  simp [k, Instr.findKey, Instr.findNow, hz, Result.andThen, run_underlying Tryz.underlying220]
theorem eq_made (d : Nat) (w : World) : (Op.equalIn (d + 1) 215 (.map none) (.map none)).run Tryz.prog w = .ok true w := by
  simp [Op.equalIn, run_underlying Tryz.underlying215]
theorem neq_made (w : World) : (binOp .neq 215 (.map none) (.map none)).run Tryz.prog w = .ok (.bool false) w := by
  simp only [binOp]
  simp [Op.equal, Op.maxDepth, eq_made 9999 w]
set_option maxRecDepth 8000 in
set_option maxHeartbeats 1000000 in
theorem with_any (v : V) (ao a : Option Addr) (cap n c : Nat) (w : World) : Calls Tryz.prog 131 #[.agg #[.int .i64 v.kind, .int .i64 v.n, .slice ao v.l.length cap], .slice a n c] w fun e w' => e = .returned (.agg #[.int .i64 v.kind, .int .i64 v.n, .slice a n c]) ∧ Quiet w w' := by
  go_enter Tryz.func131, Tryz.ntmps131
  go_wp2
  refine bodyPost_ret (v := .agg #[.int .i64 v.kind, .int .i64 v.n, .slice a n c]) (by simp [results, Tryz.results131, go_sem]) rfl ?_
  exact ⟨rfl, (Kp.alloc _ _).trans (Kp.alloc _ _)⟩
theorem out_new {R : Nat → Bool} {n b : Nat} (hr0 : ∀ k, R k = true → k < n) (h : n ≤ b) : R b = false := by
  cases e : R b with
  | false => rfl
  | true => have := hr0 b e; omega
structure NS (R : Nat → Bool) (W : World) (l : List V) (ra : Option Addr) (sv : Value) (ts : List Pl) (w : World) : Prop where
  row : w.ownsRow W.heap.size 36 1 sv ts.length (ts.map slv)
  root : Fo (cutV R W.heap.size w) l ra
  all : ∀ x ∈ ts, Fo (cutV R W.heap.size w) x.1 x.2.1 ∧ (x.1 ≠ [] → ∃ b, x.2.1 = some ⟨b, 0, none⟩ ∧ W.heap.size ≤ b ∧ IsV w b)
  low : Below W.heap.size W w
theorem NS.keeps {R : Nat → Bool} {W w w' : World} {l : List V} {ra : Option Addr} {sv : Value} {ts : List Pl} (hr0 : ∀ k, R k = true → k < W.heap.size) (H : NS R W l ra sv ts w) (hk : Keeps R W.heap.size w w') (hr : w'.ownsRow W.heap.size 36 1 sv ts.length (ts.map slv)) (hl : Below W.heap.size W w') : NS R W l ra sv ts w' :=
  ⟨hr, H.root.kept hk.cell, fun x hx => by
    obtain ⟨h1, h2⟩ := H.all x hx
    refine ⟨h1.kept hk.cell, fun h => ?_⟩
    obtain ⟨b, e, h3, h4⟩ := h2 h
    exact ⟨b, e, h3, hk.isV (out_new hr0 h3) h4⟩, hl⟩
theorem NS.quiet {R : Nat → Bool} {W w w' : World} {l : List V} {ra : Option Addr} {sv : Value} {ts : List Pl} (hr0 : ∀ k, R k = true → k < W.heap.size) (H : NS R W l ra sv ts w) (q : Quiet w w') : NS R W l ra sv ts w' :=
  H.keeps hr0 (Keeps.quiet q H.low.size) (q.row H.row fun _ _ e => e) (low_of H.low q H.low.size)
theorem NS.push {R : Nat → Bool} {W w w1 : World} {l : List V} {ra : Option Addr} {sv : Value} {ts : List Pl} {x : Pl} {g cap n : Nat} {o : Obj} (hr0 : ∀ k, R k = true → k < W.heap.size) (H : NS R W l ra sv ts w) (hx : Fo (cutV R W.heap.size w) x.1 x.2.1 ∧ (x.1 ≠ [] → ∃ b, x.2.1 = some ⟨b, 0, none⟩ ∧ W.heap.size ≤ b ∧ IsV w b)) (hn : n = ts.length)
    (hr1 : w1.ownsRow W.heap.size 36 1 (.slice (some ⟨g, 0, none⟩) (n + 1) cap) (n + 1) (ts.map slv ++ [slv x])) (hg : (w.alloc o).grownBy w1 sv.ownBlock) :
    NS R W l ra (.slice (some ⟨g, 0, none⟩) (n + 1) cap) (ts ++ [x]) w1 ∧ Keeps R W.heap.size w w1 := by
  subst hn
  have hsz := H.low.size
  have k1 : Keeps R W.heap.size w w1 := (Keeps.quiet (Kp.alloc _ _) hsz).trans (Keeps.grown (H.row.alloc _) (by decide) (Nat.le_refl _) hg (by simp; omega))
  have hp := push_row (x := x) H.low hsz H.row rfl hr1 hg
  refine ⟨⟨hp.1, H.root.kept k1.cell, fun y hy => ?_, hp.2⟩, k1⟩
  have hy' : Fo (cutV R W.heap.size w) y.1 y.2.1 ∧ (y.1 ≠ [] → ∃ b, y.2.1 = some ⟨b, 0, none⟩ ∧ W.heap.size ≤ b ∧ IsV w b) := by
    rcases List.mem_append.1 hy with hy | hy
    · exact H.all y hy
    · simp at hy; subst hy; exact hx
  refine ⟨hy'.1.kept k1.cell, fun h => ?_⟩
  obtain ⟨b, e, h3, h4⟩ := hy'.2 h
  exact ⟨b, e, h3, k1.isV (out_new hr0 h3) h4⟩
theorem NS.write {R : Nat → Bool} {W w w' : World} {l : List V} {ra : Option Addr} {sv : Value} {ts : List Pl} {u : V} {b off cap' : Nat} {ao' : Option Addr} (hr0 : ∀ k, R k = true → k < W.heap.size) (H : NS R W l ra sv ts w) (hu : u.at (cutV R W.heap.size w) b off) (hb : W.heap.size ≤ b) (hv : IsV w b) (hF : Fo (cutV R W.heap.size w) u.l ao') (hw : Wrt w w' b off (.slice ao' u.l.length cap')) :
    NS R W l ra sv ts w' ∧ (∀ x ax, Fo (cutV R W.heap.size w) x ax → Fo (cutV R W.heap.size w') x ax) ∧ ∀ k, IsV w k → IsV w' k := by
  have V5 : ∀ k, IsV w k → IsV w' k := by
    rintro k ⟨c, hk⟩
    exact hw.kind _ _ _ _ hk
  have K1 : ∀ (a : Addr) (x : Value), a ≠ ⟨b, off + 2, none⟩ → (cutV R W.heap.size w).cell? a = some x → (cutV R W.heap.size w').cell? a = some x := by
    intro a x hne hx
    obtain ⟨h1, hr, h3⟩ := cutV_cell hx
    rcases h3 with h3 | ⟨c, z, h3⟩
    · exact cutV_mk (hw.cell a x hne h1) hr (.inl h3)
    · obtain ⟨c', h5⟩ := hw.kind _ _ _ _ h3
      exact cutV_mk (hw.cell a x hne h1) hr (.inr ⟨c', z, h5⟩)
  have K2 : (cutV R W.heap.size w').cell? ⟨b, off + 2, none⟩ = some (.slice ao' u.l.length cap') := by
    obtain ⟨c, hc⟩ := V5 b hv
    exact cutV_mk hw.new (out_new hr0 hb) (.inr ⟨c, _, hc⟩)
  have T : ∀ x ax, Fo (cutV R W.heap.size w) x ax → Fo (cutV R W.heap.size w') x ax := by
    intro x ax hf i hi
    obtain ⟨bb, oo, e, k⟩ := hf i hi
    exact ⟨bb, oo, e, at_write hu K1 K2 hF _ _ _ _ (Nat.le_refl _) k⟩
  refine ⟨⟨?_, T _ _ H.root, fun x hx => ?_, ?_⟩, T, V5⟩
  · refine hw.kp.row H.row fun k e hk => ?_
    subst hk
    obtain ⟨c, hc⟩ := hv
    rcases H.row.2 with ⟨rfl, _⟩ | ⟨g, cp, cur, rfl, _, hh, _⟩
    · simp [Value.ownBlock] at e
    · simp [Value.ownBlock] at e; subst e; rw [hh] at hc; simp at hc
  · obtain ⟨h1, h2⟩ := H.all x hx
    refine ⟨T _ _ h1, fun h => ?_⟩
    obtain ⟨b, e, h3, h4⟩ := h2 h
    exact ⟨b, e, h3, V5 _ h4⟩
  · exact H.low.trans (hw.kp.below H.low.size fun k e => by omega)
end Go.Proofs.YtkpckmcaeljocaaGreat
