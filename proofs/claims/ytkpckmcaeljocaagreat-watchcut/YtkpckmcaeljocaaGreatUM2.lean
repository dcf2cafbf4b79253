/- Parts. -/
import Derived.Test.YtkpckmcaeljocaaGreatUM1
import Derived.Test.YtkpckmcaeljocaaGreatUVmAcross
namespace Go.Proofs.YtkpckmcaeljocaaGreat
open Go.ChangeShapes Go.WideShapes Go.ChangeAt Go.RowKit
open Gr (Nd Res nd0 thereB deriveOf addOf gateOf cutOf rightsN wayOf gatesOf gatesW targetOf Wf NdOk GS IntsAt)
section
variable {C : Cx} {q : Vs} {s : Sg} {left : Nat} {R : Rw} {w : World}
theorem same3_w {W w' w2 : World} {vl' : Value} (H : FrS C q s left R W) (k : Quiet W w') (g : Wo.Goes C.m.wd q.l w' vl' w2) : Same3 C W w2 := by
  have h := same3_q H k
  have H2 := H.quiet k
  obtain ⟨a, b, c, d, hb, _⟩ := H2.m.box
  have hn : ∀ x, Wo.Own C.m.wd q.l x → x ≠ C.fb ∧ x ≠ C.m.mb ∧ x ≠ C.m.bb := fun x hx => by
    refine ⟨fun e => H2.ffree.1 (e ▸ .inr (.inr hx)), fun e => H2.m.mfree (e ▸ .inr (.inr hx)), (hb.apart.2 x hx).1⟩
  exact ⟨(g.kp.block _ (lt_of_block H2.fr) fun e => (hn _ e).1 rfl).trans h.f, (g.kp.block _ (lt_of_block H2.m.ma) fun e => (hn _ e).2.1 rfl).trans h.m, (g.kp.block _ H2.bblt fun e => (hn _ e).2.2 rfl).trans h.b⟩
set_option maxRecDepth 8000 in
set_option maxHeartbeats 4000000 in
theorem xread_ok (H : FrS C q s left R w) (n c : Int) (hes : s.es.length ≤ 1000000) (hc : cellR s (capV n) 0 = .ok c) : Calls Tryz.prog 161 #[.pointer (some ⟨C.fb, 0, none⟩), .int .i64 n] w fun e w' => MQ C.m (C.x R) q C.fr (okV (intV (s.cs.getD c.toNat 0)) left { s with es := s.es ++ [⟨C.j, c, 1, n⟩] }) w e w' := by
  obtain ⟨W, hW⟩ : ∃ W, W = w.alloc (.cells #[.int .i64 0, .int .i64 0, .slice none 0 0] 38) := ⟨_, rfl⟩
  have qW : Quiet w W := by rw [hW]; exact Kp.alloc _ _
  have bW : W.heap[w.heap.size]? = some (.cells #[.int .i64 0, .int .i64 0, .slice none 0 0] 38 (0, 0)) := by rw [hW]; exact heap_alloc_new w _
  have H1 := H.quiet qW
  have M1 := H.m.ext qW w.heap.size (Nat.le_refl _) (lt_of_block bW)
  obtain ⟨s0, s1, s2, s3, s4⟩ := same3_cells H1 (same3_q H1 (Kp.refl _ _))
  have HC := hid (fun (w' : World) (k : Quiet W w') => xcell_any (H1.quiet k).m (.inl ⟨rfl, rfl⟩ : RBit 0 1) n)
  obtain ⟨c0, c1⟩ := cell_ok H.m.gs.2 hc
  have hb : Wo.hasB c = true := by simp [Wo.hasB]; omega
  have HR := hid (fun (w' : World) (k : Quiet W w') => Wo.read_any C.m.B w' C.m.wd s.cs q.l s.es (M1.quiet k).ws hes C.j c n)
  simp only [Wo.heldAt, Wo.entryOf, hb, if_true] at HR
  rw [hc] at HC
  have hv : In64 (s.cs.getD c.toNat 0) := by
    have hlen := H.m.ws.obj.len
    rw [List.getD_eq_getElem?_getD, List.getElem?_eq_getElem (by omega)]
    exact H.m.ci _ (List.getElem_mem _)
  generalize s.cs.getD c.toNat 0 = y at *
  have HH := hid (And.intro M1 (And.intro qW (And.intro bW (And.intro H.m.xm hv))))
  have HS := hid H1
  have sAll := hid (fun (w' : World) (z : Same3 C W w') => same3_cells H1 z)
  have zD := Same3.drew C W
  clear H H1 M1 hc hb c0 c1 hes bW qW
  go_enter Tryz.func161, Tryz.ntmps161
  go_wp2
  rw [← hW]
  clear hW
  go_region_held3 (fun w' => w'.cell? ⟨C.fb, 0, none⟩ = some (.pointer (some ⟨C.m.mb, 0, none⟩)) ∧ w'.cell? ⟨C.fb, 1, none⟩ = some (.int .i64 C.j) ∧ w'.cell? ⟨C.m.mb, 0, none⟩ = some (.pointer (some ⟨C.m.bb, 0, none⟩)) ∧ w'.cell? ⟨C.m.bb, 0, none⟩ = some (.pointer (some ⟨C.m.g, 0, none⟩)) ∧ w'.cell? ⟨C.m.bb, 1, none⟩ = some (.pointer (some ⟨C.m.wd, 0, none⟩))) ((refine sAll.out _ ?_; assumption)) (first
    | (go_at_call 170; refine (HR.out _ qz).mono ?_; rintro e w4 ⟨rfl, vl', hws4, go4⟩; have z4 := same3_w HS.out qz go4; have H4 := hid (And.intro hws4 go4); clear hws4 go4 zD)
    | (go_at_call 171; refine (HC.out _ (Kp.drew _)).mono ?_; rintro e w3 ⟨he, q3⟩; obtain rfl : e = .returned (.int .i64 c) := he; have qz := (Kp.drew (F := fun _ => False) W).trans q3; have z3 := same3_q HS.out qz; clear q3))
  have hx := (HH.out.1.quiet qz).world H4.out.2 H4.out.1 HH.out.1.ci
  have hb4 := (hx.2.block ((qz.block _ (lt_of_block HH.out.2.2.1) fun e => e).trans HH.out.2.2.1) ((HH.out.1.quiet qz).apart ((qz.block _ (lt_of_block HH.out.2.2.1) fun e => e).trans HH.out.2.2.1)).2 ((HH.out.1.quiet qz).apart ((qz.block _ (lt_of_block HH.out.2.2.1) fun e => e).trans HH.out.2.2.1)).1).1
  have HX := hid (And.intro hx hb4)
  clear hx hb4 z3 z4
  go_wp2_with (go_at_call 156; refine (xnumber_any _ _).mono ?_; rintro e w5 ⟨rfl, q5⟩; have hb5 := (q5.block _ (lt_of_block HX.out.2) fun e => e).trans HX.out.2; obtain ⟨m0, m1, m2⟩ := box_cells hb5; obtain ⟨f0, f1, f2⟩ := box_free3 hb5; have hz := lt_of_block hb5; have H5 := hid (And.intro q5 hb5); clear q5 hb5)
  refine bodyPost_ret (v := .agg #[.int .i64 1, .int .i64 y, .slice none 0 0]) (by simp [results, Tryz.results161, go_sem, m0, m1, m2]) rfl ?_
  have hk := three_set w5 w.heap.size (.int .i64 1) (.int .i64 y) (.slice none 0 0)
  exact MQ.mk_ok (q' := ⟨q.n, q.o, vl'⟩) (v := intV y) (ao := none) (cap := 0) rfl (((HX.out.1.2.after (HH.out.2.1.trans qz)).trans (GoesM.quiet C.m _ H5.out.1)).fresh (hk.mono fun k _ e => by omega)) ((HX.out.1.1.quiet H5.out.1).unext hk H5.out.2 HH.out.2.2.2.1) rfl (safe_leaf _ ⟨small_in 1 (by decide), HH.out.2.2.2.2⟩ rfl none)
set_option maxRecDepth 8000 in
set_option maxHeartbeats 4000000 in
theorem xwrite_ok (H : FrS C q s left R w) (n y c : Int) (hes : s.es.length ≤ 1000000) (hv : In64 y) (hc : cellR s (capV n) 1 = .ok c) : Calls Tryz.prog 163 #[.pointer (some ⟨C.fb, 0, none⟩), .int .i64 n, .int .i64 y] w fun e w' => MQ C.m (C.x R) q C.fr (okV (intV y) left { s with cs := s.cs.set c.toNat y, es := s.es ++ [⟨C.j, c, 2, n⟩] }) w e w' := by
  obtain ⟨W, hW⟩ : ∃ W, W = w.alloc (.cells #[.int .i64 0, .int .i64 0, .slice none 0 0] 38) := ⟨_, rfl⟩
  have qW : Quiet w W := by rw [hW]; exact Kp.alloc _ _
  have bW : W.heap[w.heap.size]? = some (.cells #[.int .i64 0, .int .i64 0, .slice none 0 0] 38 (0, 0)) := by rw [hW]; exact heap_alloc_new w _
  have H1 := H.quiet qW
  have M1 := H.m.ext qW w.heap.size (Nat.le_refl _) (lt_of_block bW)
  obtain ⟨s0, s1, s2, s3, s4⟩ := same3_cells H1 (same3_q H1 (Kp.refl _ _))
  have HC := hid (fun (w' : World) (k : Quiet W w') => xcell_any (H1.quiet k).m (.inr (.inl ⟨rfl, rfl⟩) : RBit 1 2) n)
  obtain ⟨c0, c1⟩ := cell_ok H.m.gs.2 hc
  have hb : Wo.hasB c = true := by simp [Wo.hasB]; omega
  have HR := hid (fun (w' : World) (k : Quiet W w') => Wo.write_any C.m.B w' C.m.wd s.cs q.l s.es (M1.quiet k).ws hes C.j c n y)
  simp only [Wo.holdAt, Wo.entryOf, hb, if_true] at HR
  rw [hc] at HC
  have HH := hid (And.intro M1 (And.intro qW (And.intro bW (And.intro H.m.xm hv))))
  have HS := hid H1
  have sAll := hid (fun (w' : World) (z : Same3 C W w') => same3_cells H1 z)
  have zD := Same3.drew C W
  clear H H1 M1 hc hb c0 c1 hes bW qW
  go_enter Tryz.func163, Tryz.ntmps163
  go_wp2
  rw [← hW]
  clear hW
  go_region_held3 (fun w' => w'.cell? ⟨C.fb, 0, none⟩ = some (.pointer (some ⟨C.m.mb, 0, none⟩)) ∧ w'.cell? ⟨C.fb, 1, none⟩ = some (.int .i64 C.j) ∧ w'.cell? ⟨C.m.mb, 0, none⟩ = some (.pointer (some ⟨C.m.bb, 0, none⟩)) ∧ w'.cell? ⟨C.m.bb, 0, none⟩ = some (.pointer (some ⟨C.m.g, 0, none⟩)) ∧ w'.cell? ⟨C.m.bb, 1, none⟩ = some (.pointer (some ⟨C.m.wd, 0, none⟩))) ((refine sAll.out _ ?_; assumption)) (first
    | (go_at_call 172; refine (HR.out _ qz).mono ?_; rintro e w4 ⟨rfl, vl', hws4, go4⟩; have z4 := same3_w HS.out qz go4; have H4 := hid (And.intro hws4 go4); clear hws4 go4 zD)
    | (go_at_call 171; refine (HC.out _ (Kp.drew _)).mono ?_; rintro e w3 ⟨he, q3⟩; obtain rfl : e = .returned (.int .i64 c) := he; have qz := (Kp.drew (F := fun _ => False) W).trans q3; have z3 := same3_q HS.out qz; clear q3))
  have hx := (HH.out.1.quiet qz).world H4.out.2 H4.out.1 (fun z hz => by
    rcases List.mem_or_eq_of_mem_set hz with hz | hz
    · exact HH.out.1.ci z hz
    · rw [hz]; exact HH.out.2.2.2.2)
  have hb4 := (hx.2.block ((qz.block _ (lt_of_block HH.out.2.2.1) fun e => e).trans HH.out.2.2.1) ((HH.out.1.quiet qz).apart ((qz.block _ (lt_of_block HH.out.2.2.1) fun e => e).trans HH.out.2.2.1)).2 ((HH.out.1.quiet qz).apart ((qz.block _ (lt_of_block HH.out.2.2.1) fun e => e).trans HH.out.2.2.1)).1).1
  have HX := hid (And.intro hx hb4)
  clear hx hb4 z3 z4
  go_wp2_with (go_at_call 156; refine (xnumber_any _ _).mono ?_; rintro e w5 ⟨rfl, q5⟩; have hb5 := (q5.block _ (lt_of_block HX.out.2) fun e => e).trans HX.out.2; obtain ⟨m0, m1, m2⟩ := box_cells hb5; obtain ⟨f0, f1, f2⟩ := box_free3 hb5; have hz := lt_of_block hb5; have H5 := hid (And.intro q5 hb5); clear q5 hb5)
  refine bodyPost_ret (v := .agg #[.int .i64 1, .int .i64 y, .slice none 0 0]) (by simp [results, Tryz.results163, go_sem, m0, m1, m2]) rfl ?_
  have hk := three_set w5 w.heap.size (.int .i64 1) (.int .i64 y) (.slice none 0 0)
  exact MQ.mk_ok (q' := ⟨q.n, q.o, vl'⟩) (v := intV y) (ao := none) (cap := 0) rfl (((HX.out.1.2.after (HH.out.2.1.trans qz)).trans (GoesM.quiet C.m _ H5.out.1)).fresh (hk.mono fun k _ e => by omega)) ((HX.out.1.1.quiet H5.out.1).unext hk H5.out.2 HH.out.2.2.2.1) rfl (safe_leaf _ ⟨small_in 1 (by decide), HH.out.2.2.2.2⟩ rfl none)
end
end Go.Proofs.YtkpckmcaeljocaaGreat
namespace Go.Proofs.YtkpckmcaeljocaaGreat
open Go.ChangeShapes Go.WideShapes Go.ChangeAt Go.RowKit
section
variable {C : Cx} {q : Vs} {s : Sg} {left : Nat} {w : World}
theorem calls_dies {P : Program} {f : FuncId} {args : Array Value} {w : World} {T : Ending → World → Prop} {c : List PanicEntry} {S : World → Prop} (d : Value) (h : Calls P f args w fun e w' => e = .panicked c ∧ S w') (k : ∀ w', S w' → T (.panicked c) w' ∧ (False → T (.returned d) w')) : Calls P f args w T :=
  h.mono fun _ w' hx => hx.1 ▸ (k w' hx.2).1
theorem pl_cells {R : Rw} {w5 : World} {op k n : Int} (H : FrS (C.pl w op k n) q s left R w5) : w5.cell? ⟨C.fb, 0, none⟩ = some (.pointer (some ⟨C.m.mb, 0, none⟩)) ∧ w5.cell? ⟨C.fb, 1, none⟩ = some (.int .i64 C.j) ∧ w5.cell? ⟨C.m.mb, 0, none⟩ = some (.pointer (some ⟨C.m.bb, 0, none⟩)) ∧ w5.cell? ⟨C.m.bb, 0, none⟩ = some (.pointer (some ⟨C.m.g, 0, none⟩)) ∧ w5.cell? ⟨C.m.bb, 1, none⟩ = some (.pointer (some ⟨C.m.wd, 0, none⟩)) := same3_cells (C := C.pl w op k n) H (same3_q (C := C.pl w op k n) H (Kp.refl _ _))
end
open Gr (Nd Res nd0 thereB deriveOf addOf gateOf cutOf rightsN wayOf gatesOf gatesW targetOf Wf NdOk GS IntsAt)
def CallC (M : Mx) (fr : Nat) : Prop := ∀ (X : Nat → Prop) (q : Vs) (s : Sg) (left : Nat) (w : World) (p f : Int) (v : V) (va : Option Addr) (vc : Nat), MS M X q s left fr w → (funOf M.ms p f).isSome = true → v.check = 0 → s.es.length + left ≤ 902000 →
    SafeF (fun k => M.own q k ∨ X k) (fun w => Is w v va) w →
    Calls Tryz.prog 108 #[.pointer (some ⟨M.mb, 0, none⟩), .int .i64 p, .int .i64 f, .agg #[.int .i64 v.kind, .int .i64 v.n, .slice va v.l.length vc]] w fun e w' => MQ M X q fr (CallF M.ms fr p f v left s) w e w'
section
variable {M : Mx} {X : Nat → Prop} {q : Vs} {s : Sg} {left : Nat} {calls : Int} {w : World}
theorem MS.inv (H : MS M X q s left calls w) : Inv s := by
  obtain ⟨a, b, c, d, hb, _⟩ := H.box
  obtain ⟨ma, mb, mc, md, e, ha, hb', hc, hd⟩ := hb.mods
  refine ⟨hb.wf, hb.gs.ln, hb.gs.lg, hb.ws.obj.len, by rw [hb.ks]; rfl, fun v hv => ?_⟩
  rw [hb.ks] at hv
  simp only [List.mem_cons, List.not_mem_nil, or_false] at hv
  rcases hv with rfl | rfl | rfl | rfl
  · exact ha.good
  · exact hb'.good
  · exact hc.good
  · exact hd.good
structure PlugAt (M : Mx) (w : World) (j : Nat) (th : Bool) (ao : Option Addr) (n cap : Nat) (x y z : Value) : Prop where
  c0 : w.cell? ⟨M.bb, 2 + j * 5, none⟩ = some (.bool th)
  c1 : w.cell? ⟨M.bb, 2 + j * 5 + 1, none⟩ = some (.slice ao n cap)
  c2 : w.cell? ⟨M.bb, 2 + j * 5 + 2, none⟩ = some x
  c3 : w.cell? ⟨M.bb, 2 + j * 5 + 3, none⟩ = some y
  c4 : w.cell? ⟨M.bb, 2 + j * 5 + 4, none⟩ = some z
  has : ∀ f : Int, (th && decide (0 ≤ f) && decide (f < (n : Int))) = (funOf M.ms j f).isSome
  code : ∀ l, M.ms.getD j none = some l → n = l.length ∧ CodeAt w (.slice ao n cap) l ∧ ∀ v ∈ l, v.bad l.length 0 = 0
theorem plug_of {F : Nat → Prop} {m : Option (List Ex.V)} {p : Pg} {j : Nat} (h : PgS w F m p) (hm : M.ms.getD j none = m)
    (h0 : w.cell? ⟨M.bb, 2 + j * 5, none⟩ = some (.bool p.there)) (h1 : w.cell? ⟨M.bb, 2 + j * 5 + 1, none⟩ = some p.code) (h2 : w.cell? ⟨M.bb, 2 + j * 5 + 2, none⟩ = some (.int .i64 p.kept.kind)) (h3 : w.cell? ⟨M.bb, 2 + j * 5 + 3, none⟩ = some (.int .i64 p.kept.n)) (h4 : w.cell? ⟨M.bb, 2 + j * 5 + 4, none⟩ = some (.slice p.ao p.kept.l.length p.cap)) :
    ∃ th ao n cap x y z, PlugAt M w j th ao n cap x y z := by
  obtain ⟨ao, n, cap, hs⟩ := h.shape
  rw [hs] at h1
  refine ⟨p.there, ao, n, cap, _, _, _, h0, h1, h2, h3, h4, fun f => ?_, fun l hl => ?_⟩
  · rw [h.there]
    unfold funOf
    rw [Int.toNat_natCast, hm]
    cases m with
    | none => simp
    | some l =>
      obtain ⟨⟨ao', cap', ps, e, hmd, _⟩, _⟩ := h.code l rfl
      rw [hs] at e
      simp only [Value.slice.injEq] at e
      obtain ⟨_, rfl, _⟩ := e
      by_cases hf : 0 ≤ f
      · obtain ⟨i, rfl⟩ : ∃ i : Nat, f = i := ⟨f.toNat, by omega⟩
        by_cases hi : i < l.length
        · simp [hi]
        · simp [hi]
      · simp [hf]
  · rw [hm] at hl
    subst hl
    obtain ⟨hc, hb⟩ := h.code l rfl
    have hc' := hc
    obtain ⟨ao', cap', ps, e, hmd, _⟩ := hc'
    rw [hs] at e hc
    simp only [Value.slice.injEq] at e
    obtain ⟨_, rfl, _⟩ := e
    exact ⟨rfl, hc, hb⟩
theorem MS.plug (H : MS M X q s left calls w) (j : Nat) (hj : j < 4) : ∃ th ao n cap x y z, PlugAt M w j th ao n cap x y z := by
  obtain ⟨a, b, c, d, hb, _⟩ := H.box
  obtain ⟨ma, mb, mc, md, e, ha, hb', hc, hd⟩ := hb.mods
  have key : ∀ k x, (boxC M.g M.wd a b c d)[k]? = some x → w.cell? ⟨M.bb, k, none⟩ = some x := fun k x hx => by
    rw [← hx]; simp [World.cell?, hb.obj]
  obtain rfl | rfl | rfl | rfl : j = 0 ∨ j = 1 ∨ j = 2 ∨ j = 3 := by omega
  · exact plug_of ha (by rw [e]; rfl) (key _ _ rfl) (key _ _ rfl) (key _ _ rfl) (key _ _ rfl) (key _ _ rfl)
  · exact plug_of hb' (by rw [e]; rfl) (key _ _ rfl) (key _ _ rfl) (key _ _ rfl) (key _ _ rfl) (key _ _ rfl)
  · exact plug_of hc (by rw [e]; rfl) (key _ _ rfl) (key _ _ rfl) (key _ _ rfl) (key _ _ rfl) (key _ _ rfl)
  · exact plug_of hd (by rw [e]; rfl) (key _ _ rfl) (key _ _ rfl) (key _ _ rfl) (key _ _ rfl) (key _ _ rfl)
theorem MS.mslen (H : MS M X q s left calls w) : M.ms.length = 4 := by
  obtain ⟨a, b, c, d, hb, _⟩ := H.box
  obtain ⟨ma, mb, mc, md, e, _⟩ := hb.mods
  rw [e]; rfl
end
section
variable {C : Cx} {q : Vs} {s : Sg} {left : Nat} {w : World} {g nn sc mm nc : Nat} {ps qs : List Kd} {a b : V} {aa ba na : Option Addr} {ac bc : Nat}
set_option maxRecDepth 8000 in
set_option maxHeartbeats 4000000 in
theorem plain_call_deep (H : FrS C q s left ⟨some ⟨g, 0, none⟩, nn + 1, sc, ps ++ [(a, aa, ac)], na, mm, nc, qs⟩ w) (hn : nn ≤ 1999) (hfr : 20 ≤ (C.fr : Int)) (k n : Int) : Calls Tryz.prog 149 #[.pointer (some ⟨C.fb, 0, none⟩), .agg #[.int .i64 18, .int .i64 k, .int .i64 n]] w fun e w' => PlainQ C ⟨some ⟨g, 0, none⟩, nn, sc, ps, na, mm, nc, qs⟩ (bad 4 left s) e w' := by
  have H1 := pl_start H 18 k n
  obtain ⟨i0, i1, i2⟩ := pl_ins H1
  have HT := hid (xpop_any H1 (by omega))
  have HH := hid (And.intro H hfr)
  unfold plW at i0 i1 i2 HT
  clear H H1 hfr
  go_enter Tryz.func149, Tryz.ntmps149
  go_wp2_with (first
    | (go_at_call 166; refine (xneedRoom_no (H2.out.fs.m.quiet (Kp.alloc _ (.cells #[.int .i64 a.kind, .int .i64 a.n, .slice aa a.l.length ac] 38))) (by have := HH.out.2; show ¬ ((C.fr : Nat) : Int) < 20; omega)).mono ?_; rintro e w4 ⟨rfl, h4⟩; replace h4 := h4.symm; subst h4)
    | (go_at_call 146; refine HT.out.mono ?_; rintro e w2 ⟨rfl, h2⟩; have d0 := cell_on (pl_cells h2.fs).1 (.cells #[.int .i64 a.kind, .int .i64 a.n, .slice aa a.l.length ac] 38); have H2 := hid h2; clear h2))
  exact ⟨rfl, PlainQ.mk_bad rfl rfl (pl_bad HH.out.1 (H2.out.fs.bad.quiet (Kp.alloc _ _)))⟩
set_option maxRecDepth 8000 in
set_option maxHeartbeats 4000000 in
theorem plain_call (H : FrS C q s left ⟨some ⟨g, 0, none⟩, nn + 1, sc, ps ++ [(a, aa, ac)], na, mm, nc, qs⟩ w) (hn : nn ≤ 1999) (hfr : (C.fr : Int) < 20) (k n : Int) (hC : CallC C.m C.fr) (hf : (funOf C.m.ms C.j k).isSome = true) (hc : a.check = 0) (hes : s.es.length + left ≤ 902000) : Calls Tryz.prog 149 #[.pointer (some ⟨C.fb, 0, none⟩), .agg #[.int .i64 18, .int .i64 k, .int .i64 n]] w fun e w' => PlainQ C ⟨some ⟨g, 0, none⟩, nn, sc, ps, na, mm, nc, qs⟩ (CallF C.m.ms C.fr C.j k a left s) e w' := by
  have H1 := pl_start H 18 k n
  obtain ⟨i0, i1, i2⟩ := pl_ins H1
  have HT := hid (xpop_any H1 (by omega))
  obtain ⟨o, ho⟩ : ∃ o, o = CallF C.m.ms C.fr C.j k a left s := ⟨_, rfl⟩
  rw [← ho]
  have HCL := hid (fun (w2 : World) (h : PopQ (C.pl w 18 k n) q s left ⟨some ⟨g, 0, none⟩, nn, sc, ps, na, mm, nc, qs⟩ a aa w2) (w' : World) (z : Quiet w2 w') => (show Calls Tryz.prog 108 #[.pointer (some ⟨C.m.mb, 0, none⟩), .int .i64 C.j, .int .i64 k, .agg #[.int .i64 a.kind, .int .i64 a.n, .slice aa a.l.length ac]] w' fun e w'' => MQ C.m ((C.pl w 18 k n).x ⟨some ⟨g, 0, none⟩, nn, sc, ps, na, mm, nc, qs⟩) q C.fr o w' e w'' by rw [ho]; exact hC _ q s left w' C.j k a aa ac (h.fs.m.quiet z) hf hc hes (safe_quiet h.safe z)))
  have HH := hid (And.intro H hfr)
  unfold plW at i0 i1 i2 HT
  clear H H1 hfr hf hc hes ho hC
  go_enter Tryz.func149, Tryz.ntmps149
  go_wp2_with (first
    | (go_at_call 166; refine (xneedRoom_yes (H2.out.fs.m.quiet Q2.out) (by have := HH.out.2; show ((C.fr : Nat) : Int) < 20; omega)).mono ?_; rintro e w4 ⟨rfl, h4⟩; replace h4 := h4.symm; subst h4)
    | (go_at_call 146; refine HT.out.mono ?_; rintro e w2 ⟨rfl, h2⟩; have d0 := cell_on (pl_cells h2.fs).1 (.cells #[.int .i64 a.kind, .int .i64 a.n, .slice aa a.l.length ac] 38); have d1 := cell_on (pl_cells h2.fs).2.1 (.cells #[.int .i64 a.kind, .int .i64 a.n, .slice aa a.l.length ac] 38); obtain ⟨j0, j1, j2⟩ := pl_ins h2.fs; have j1a := cell_on j1 (.cells #[.int .i64 a.kind, .int .i64 a.n, .slice aa a.l.length ac] 38); obtain ⟨y0, y1, y2⟩ := box_cells (heap_alloc_new w2 (.cells #[.int .i64 a.kind, .int .i64 a.n, .slice aa a.l.length ac] 38)); have Q2 := hid (show Quiet w2 (w2.alloc (.cells #[.int .i64 a.kind, .int .i64 a.n, .slice aa a.l.length ac] 38)) from Kp.alloc _ _); have H2 := hid h2; clear h2))
  obtain ⟨W3, hW3⟩ : ∃ W3, W3 = w2.alloc (.cells #[.int .i64 a.kind, .int .i64 a.n, .slice aa a.l.length ac] 38) := ⟨_, rfl⟩
  rw [← hW3] at d0 d1 j1a y0 y1 y2 Q2 ⊢
  clear hW3
  go_still_tail 11, Tryz.mixedM
  cases hg : o.got with
  | error c =>
    have HO := hid hg
    clear hg
    go_wp2_with (go_at_call 108; refine (HCL.out _ H2.out.toPopQ _ (Q2.out.trans (Kp.drew _))).mono ?_; rintro e w5 x5; obtain ⟨rfl, q5, c5, g5, m5⟩ := x5.bad HO.out; have H5 := hid (And.intro g5 m5); clear x5 g5 m5)
    exact ⟨rfl, PlainQ.mk_bad HO.out rfl (pl_bad HH.out.1 ((H2.out.fs.quiet (Q2.out.trans (Kp.drew _))).badm H5.out.1 H5.out.2))⟩
  | ok v =>
    have HO := hid hg
    clear hg
    go_wp2_with (go_at_call 108; refine (HCL.out _ H2.out.toPopQ _ (Q2.out.trans (Kp.drew _))).mono ?_; rintro e w5 x5; obtain ⟨q5, a5, c5, rfl, g5, m5, s5⟩ := x5.ok HO.out; have h5 := (H2.out.fs.quiet (Q2.out.trans (Kp.drew _))).mach g5 m5; have hb5 := pl_res h5; obtain ⟨m0, m1, m2⟩ := box_cells hb5; obtain ⟨f0, f1, f2⟩ := box_free3 hb5; have hz := lt_of_block hb5; have H5 := hid (And.intro h5 s5); clear h5 g5 m5 s5 x5 hb5)
    refine bodyPost_ret (v := .agg #[.int .i64 v.kind, .int .i64 v.n, .slice a5 v.l.length c5]) (by simp [results, Tryz.results149, go_sem, m0, m1, m2]) rfl ?_
    exact pl_ok HH.out.1 HO.out H5.out.1 H5.out.2
end
end Go.Proofs.YtkpckmcaeljocaaGreat
