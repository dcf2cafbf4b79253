/- Parts. -/
import Derived.Test.YtkpckmcaeljocaaGreatUV9
namespace Go.Proofs.YtkpckmcaeljocaaGreat
open Go.ChangeShapes Go.WideShapes Go.ChangeAt Go.RowKit
open Gr (Nd Res nd0 thereB deriveOf addOf gateOf cutOf rightsN wayOf gatesOf gatesW targetOf Wf NdOk GS IntsAt)
theorem target_fits {ns : List Nd} {g : Nat} (hw : Wf ns g) : ∀ m j, j < m → j < ns.length → ∃ k, NdOk g k (targetOf ns (j : Int)) := by
  intro m
  induction m with
  | zero => intro j h _; omega
  | succ m ih =>
    intro j hm hj
    have hk := hw j hj
    have p0 := hk.p0
    have p1 := hk.p1
    by_cases hp : ns[j].parent < 0
    · have e : thereB ns.length ns[j].parent = false := by simp [thereB]; omega
      have : targetOf ns j = ns[j] := by simp [targetOf, Gr.way_yes hw hj, Gr.way_no e]
      rw [this]
      exact ⟨j, hk⟩
    · obtain ⟨q, hq⟩ : ∃ q : Nat, ns[j].parent = q := ⟨ns[j].parent.toNat, by omega⟩
      rw [hq] at p1
      have hql : q < ns.length := by omega
      have : targetOf ns j = targetOf ns q := by
        unfold targetOf
        rw [Gr.way_yes hw hj, hq, Gr.way_yes hw hql]
        simp
      rw [this]
      exact ih q (by omega) hql
theorem target_ok {ns : List Nd} {os : List Bool} (hw : Wf ns os.length) {n : Int} {b : Nat} (h : (rightsN ns os n).testBit b = true) : ∃ k, NdOk os.length k (targetOf ns n) := by
  cases ht : thereB ns.length n with
  | false => rw [Gr.rights_no ht] at h; simp at h
  | true =>
    obtain ⟨j, rfl, hj⟩ := Gr.there_yes ht
    exact target_fits hw (j + 1) j (by omega) hj
theorem cell_ok {s : Sg} (hw : Wf s.ns s.os.length) {v : V} {b : Nat} {c : Int} (h : cellR s v b = .ok c) : 0 ≤ c ∧ c < 12 := by
  unfold cellR at h
  split at h
  · split at h
    · split at h
      · cases h
      · cases h
        rename_i hr _
        obtain ⟨k, hk⟩ := target_ok hw hr
        exact ⟨hk.c0, hk.c1⟩
    · cases h
  · cases h
structure Same3 (C : Cx) (W w' : World) : Prop where
  f : w'.heap[C.fb]? = W.heap[C.fb]?
  m : w'.heap[C.m.mb]? = W.heap[C.m.mb]?
  b : w'.heap[C.m.bb]? = W.heap[C.m.bb]?
section
variable {C : Cx} {q : Vs} {s : Sg} {left : Nat} {R : Rw} {w : World}
theorem Same3.drew (C : Cx) (W : World) : Same3 C W W.drew := ⟨rfl, rfl, rfl⟩
theorem Same3.quiet {W w' w2 : World} (h : Same3 C W w') (hf : C.fb < w'.heap.size) (hm : C.m.mb < w'.heap.size) (hb : C.m.bb < w'.heap.size) (k : Quiet w' w2) : Same3 C W w2 :=
  ⟨(k.block _ hf fun e => e).trans h.f, (k.block _ hm fun e => e).trans h.m, (k.block _ hb fun e => e).trans h.b⟩
theorem FrS.bblt (H : FrS C q s left R w) : C.m.bb < w.heap.size := by
  obtain ⟨a, b, c, d, hb, _⟩ := H.m.box
  exact hb.lt
theorem same3_q {W w' : World} (H : FrS C q s left R W) (k : Quiet W w') : Same3 C W w' :=
  ⟨k.block _ (lt_of_block H.fr) fun e => e, k.block _ (lt_of_block H.m.ma) fun e => e, k.block _ H.bblt fun e => e⟩
theorem same3_cells {W w' : World} (H : FrS C q s left R W) (h : Same3 C W w') : w'.cell? ⟨C.fb, 0, none⟩ = some (.pointer (some ⟨C.m.mb, 0, none⟩)) ∧ w'.cell? ⟨C.fb, 1, none⟩ = some (.int .i64 C.j) ∧ w'.cell? ⟨C.m.mb, 0, none⟩ = some (.pointer (some ⟨C.m.bb, 0, none⟩)) ∧ w'.cell? ⟨C.m.bb, 0, none⟩ = some (.pointer (some ⟨C.m.g, 0, none⟩)) ∧ w'.cell? ⟨C.m.bb, 1, none⟩ = some (.pointer (some ⟨C.m.wd, 0, none⟩)) :=
  ⟨(World.cell?_of_block h.f).trans H.cells.1, (World.cell?_of_block h.f).trans H.cells.2.1, (World.cell?_of_block h.m).trans H.m.cells.1, (World.cell?_of_block h.b).trans H.m.bcells.1, (World.cell?_of_block h.b).trans H.m.bcells.2⟩
end
section
variable {M : Mx} {X : Nat → Prop} {calls : Int} {C : Cx} {q : Vs} {s : Sg} {left : Nat} {R : Rw} {w : World}
set_option maxRecDepth 8000 in
set_option maxHeartbeats 2000000 in
theorem xunsealed_no (H : FrS C q s left R w) (v : V) (va : Option Addr) (vc : Nat) (hj : v.n ≠ C.j) : Calls Tryz.prog 160 #[.pointer (some ⟨C.fb, 0, none⟩), .agg #[.int .i64 v.kind, .int .i64 v.n, .slice va v.l.length vc]] w fun e w' => e = .panicked (gaveM 10) ∧ Quiet w w' := by
  obtain ⟨W, hW⟩ : ∃ W, W = (w.alloc (.cells #[.int .i64 v.kind, .int .i64 v.n, .slice va v.l.length vc] 38)).alloc (.cells #[.int .i64 0, .int .i64 0, .slice none 0 0] 38) := ⟨_, rfl⟩
  have qW : Quiet w W := by rw [hW]; exact (Kp.alloc _ _).trans (Kp.alloc _ _)
  have b0 : W.heap[w.heap.size]? = some (.cells #[.int .i64 v.kind, .int .i64 v.n, .slice va v.l.length vc] 38 (0, 0)) := by rw [hW, Below.heap_alloc _ _ _ (by simp)]; exact heap_alloc_new w _
  obtain ⟨z0, z1, z2⟩ := box_cells b0
  have c1 := (H.quiet qW).cells.2.1
  have hb : (v.n == (C.j : Int)) = false := by simpa using hj
  clear H b0 hj
  go_enter Tryz.func160, Tryz.ntmps160
  go_wp2
  rw [← hW]
  clear hW
  go_still_tail 7, Tryz.mixedM
  go_wp2_with (go_at_call 154; refine (xneed_no _ _).mono ?_; rintro e w3 ⟨rfl, h3⟩; replace h3 := h3.symm; subst h3)
  exact ⟨rfl, rfl, qW.trans (Kp.drew _)⟩
set_option maxRecDepth 8000 in
set_option maxHeartbeats 2000000 in
theorem xunsealed_yes (F : Nat → Prop) (H : FrS C q s left R w) (v : V) (va : Option Addr) (vc : Nat) (hj : v.n = C.j) (hl : 0 < v.l.length) (hv : SafeF F (fun w => Is w v va) w) : Calls Tryz.prog 160 #[.pointer (some ⟨C.fb, 0, none⟩), .agg #[.int .i64 v.kind, .int .i64 v.n, .slice va v.l.length vc]] w fun e w' => ∃ ca cc, e = .returned (.agg #[.int .i64 (v.l[0]).kind, .int .i64 (v.l[0]).n, .slice ca (v.l[0]).l.length cc]) ∧ SafeF F (fun w => Is w v.l[0] ca) w' ∧ Quiet w w' := by
  obtain ⟨W, hW⟩ : ∃ W, W = (w.alloc (.cells #[.int .i64 v.kind, .int .i64 v.n, .slice va v.l.length vc] 38)).alloc (.cells #[.int .i64 0, .int .i64 0, .slice none 0 0] 38) := ⟨_, rfl⟩
  have qW : Quiet w W := by rw [hW]; exact (Kp.alloc _ _).trans (Kp.alloc _ _)
  have b0 : W.heap[w.heap.size]? = some (.cells #[.int .i64 v.kind, .int .i64 v.n, .slice va v.l.length vc] 38 (0, 0)) := by rw [hW, Below.heap_alloc _ _ _ (by simp)]; exact heap_alloc_new w _
  have b1 : W.heap[w.heap.size + 1]? = some (.cells #[.int .i64 0, .int .i64 0, .slice none 0 0] 38 (0, 0)) := by rw [hW]; exact heap_two w _ _
  obtain ⟨z0, z1, z2⟩ := box_cells b0
  obtain ⟨m0, m1, m2⟩ := box_cells b1
  obtain ⟨f0, f1, f2⟩ := box_free3 b1
  have hz := lt_of_block b1
  have c1 := (H.quiet qW).cells.2.1
  have hb : (v.n == (C.j : Int)) = true := by simpa using hj
  obtain ⟨bb, oo, ca, cc, rfl, _, ⟨⟨j0, j1⟩, j2⟩, hk⟩ := hv.kid 0 hl
  simp only [Nat.zero_mul, Nat.add_zero] at j0 j1 j2
  have k0 := qW.cell j0 fun e => e
  have k1 := qW.cell j1 fun e => e
  have k2 := qW.cell j2 fun e => e
  clear j0 j1 j2
  generalize v.l[0] = x at *
  have hl0 : (0 : Int) < v.l.length := by omega
  have HK := hid (And.intro hk qW)
  clear H b0 b1 hj hv hk qW
  go_enter Tryz.func160, Tryz.ntmps160
  go_wp2
  rw [← hW]
  clear hW
  go_still_tail 7, Tryz.mixedM
  go_wp2_with (go_at_call 154; refine (xneed_yes _ _).mono ?_; rintro e w3 ⟨rfl, h3⟩; replace h3 := h3.symm; subst h3)
  refine bodyPost_ret (v := .agg #[.int .i64 x.kind, .int .i64 x.n, .slice ca x.l.length cc]) (by simp [results, Tryz.results160, go_sem, m0, m1, m2]) rfl ?_
  have hq : Quiet w (((W.setCell ⟨w.heap.size + 1, 0, none⟩ (.int .i64 x.kind)).setCell ⟨w.heap.size + 1, 1, none⟩ (.int .i64 x.n)).setCell ⟨w.heap.size + 1, 2, none⟩ (.slice ca x.l.length cc)).drew := (HK.out.2.fresh ((three_set W _ _ _ _).mono fun k _ e => by omega)).trans (Kp.drew _)
  exact ⟨ca, cc, rfl, safe_quiet HK.out.1 hq, hq⟩
theorem MS.ofs (H : MS M X q s left calls w) (j : Nat) (hj : j < 4) : ∃ ka kc, (w.cell? ⟨M.bb, 2 + j * 5 + 2, none⟩ = some (.int .i64 (s.ks.getD j v0).kind) ∧ w.cell? ⟨M.bb, 2 + j * 5 + 3, none⟩ = some (.int .i64 (s.ks.getD j v0).n) ∧ w.cell? ⟨M.bb, 2 + j * 5 + 4, none⟩ = some (.slice ka (s.ks.getD j v0).l.length kc)) ∧ SafeF (fun k => M.own q k ∨ X k) (fun w => Is w (s.ks.getD j v0) ka) w ∧ M.bb < w.heap.size ∧ ∀ i, w.frozen? ⟨M.bb, i, none⟩ = false := by
  obtain ⟨a, b, c, d, hb, hk⟩ := H.box
  have hf : ∀ i, w.frozen? ⟨M.bb, i, none⟩ = false := fun i => frozen_of_row w M.bb i _ 67 hb.obj
  rw [hb.ks]
  obtain rfl | rfl | rfl | rfl : j = 0 ∨ j = 1 ∨ j = 2 ∨ j = 3 := by omega
  · exact ⟨a.ao, a.cap, ⟨by simp [World.cell?, hb.obj, boxC, Pg.cells], by simp [World.cell?, hb.obj, boxC, Pg.cells], by simp [World.cell?, hb.obj, boxC, Pg.cells]⟩, hk a (.inl rfl), hb.lt, hf⟩
  · exact ⟨b.ao, b.cap, ⟨by simp [World.cell?, hb.obj, boxC, Pg.cells], by simp [World.cell?, hb.obj, boxC, Pg.cells], by simp [World.cell?, hb.obj, boxC, Pg.cells]⟩, hk b (.inr (.inl rfl)), hb.lt, hf⟩
  · exact ⟨c.ao, c.cap, ⟨by simp [World.cell?, hb.obj, boxC, Pg.cells], by simp [World.cell?, hb.obj, boxC, Pg.cells], by simp [World.cell?, hb.obj, boxC, Pg.cells]⟩, hk c (.inr (.inr (.inl rfl))), hb.lt, hf⟩
  · exact ⟨d.ao, d.cap, ⟨by simp [World.cell?, hb.obj, boxC, Pg.cells], by simp [World.cell?, hb.obj, boxC, Pg.cells], by simp [World.cell?, hb.obj, boxC, Pg.cells]⟩, hk d (.inr (.inr (.inr rfl))), hb.lt, hf⟩
def keepW (w : World) (bb j : Nat) (v : V) (ao : Option Addr) (cap : Nat) : World := ((w.setCell ⟨bb, 2 + j * 5 + 2, none⟩ (.int .i64 v.kind)).setCell ⟨bb, 2 + j * 5 + 3, none⟩ (.int .i64 v.n)).setCell ⟨bb, 2 + j * 5 + 4, none⟩ (.slice ao v.l.length cap)
theorem set_row {w : World} {b : Nat} {L : List Value} {t : TypeId} (h : w.heap[b]? = some (.cells L.toArray t (0, 0))) (k : Nat) (x : Value) : (w.setCell ⟨b, k, none⟩ x).heap[b]? = some (.cells (L.set k x).toArray t (0, 0)) := by
  simp [World.setCell, Array.getElem?_modify, h]
theorem PgS.keep {F : Nat → Prop} {m : Option (List Ex.V)} {p : Pg} {v : V} {ao : Option Addr} {cap : Nat} (h : PgS w F m p) (hs : SafeF F (fun w => Is w v ao) w) (hc : v.check = 0) : PgS w F m ⟨p.there, p.code, v, ao, cap⟩ := ⟨h.there, h.code, h.shape, hs, hc⟩
set_option maxRecDepth 8000 in
set_option maxHeartbeats 2000000 in
theorem MS.keepj (H : MS M X q s left calls w) (j : Nat) (hj : j < 4) (v : V) (ao : Option Addr) (cap : Nat) (hs : SafeF (fun k => M.own q k ∨ X k) (fun w => Is w v ao) w) (hc : v.check = 0) :
    MS M X q { s with ks := s.ks.set j v } left calls (keepW w M.bb j v ao cap) ∧ GoesM M q w q (keepW w M.bb j v ao cap) := by
  obtain ⟨a, b, c, d, hb, hk⟩ := H.box
  obtain ⟨ma, mb, mc, md, e, ha, hb', hc', hd⟩ := hb.mods
  have hk1 : Kp (fun k => k = M.bb) w (keepW w M.bb j v ao cap) := ((kp_set _ _ _ _).trans (kp_set _ _ _ _)).trans (kp_set _ _ _ _)
  have hobj := set_row (set_row (set_row hb.obj (2 + j * 5 + 2) (.int .i64 v.kind)) (2 + j * 5 + 3) (.int .i64 v.n)) (2 + j * 5 + 4) (.slice ao v.l.length cap)
  have hs0 : SafeF (OwnB M.bb M.g M.wd q.n q.o q.l) (fun w => Is w v ao) w := hs.mono fun k _ e => .inl e
  have hks := hb.ks
  have fin : ∀ a' b' c' d', BoxS M.B (keepW w M.bb j v ao cap) M.bb M.g M.wd q.n q.o q.l M.ms { s with ks := s.ks.set j v } a' b' c' d' → (∀ x, x = a' ∨ x = b' ∨ x = c' ∨ x = d' → SafeF (fun k => M.own q k ∨ X k) (fun w => Is w x.kept x.ao) w) → MS M X q { s with ks := s.ks.set j v } left calls (keepW w M.bb j v ao cap) ∧ GoesM M q w q (keepW w M.bb j v ao cap) := by
    intro a' b' c' d' hB hK
    have G : GoesM M q w q (keepW w M.bb j v ao cap) := ⟨hk1.mono fun k _ e => .inl (.inl e), fun k e => .inl e⟩
    exact ⟨⟨⟨a', b', c', d', hB, fun x hx => G.safe H.xm (hK x hx)⟩, (hk1.block _ (lt_of_block H.ma) fun e2 => H.mfree (.inl e2)).trans H.ma, H.xm, fun i e => Nat.lt_of_lt_of_le (H.xo i e) hk1.size, H.fu, H.lf, H.ci⟩, G⟩
  obtain rfl | rfl | rfl | rfl : j = 0 ∨ j = 1 ∨ j = 2 ∨ j = 3 := by omega
  · have h := hb.put (a' := ⟨a.there, a.code, v, ao, cap⟩) (b' := b) (c' := c) (d' := d) hk1 hobj (s' := { s with ks := s.ks.set 0 v }) (by rw [hks]; rfl) (ha.keep hs0 hc) hb' hc' hd
    rw [← e] at h
    exact fin _ _ _ _ h.1 fun x hx => by
      rcases hx with rfl | rfl | rfl | rfl
      · exact hs
      · exact hk _ (.inr (.inl rfl))
      · exact hk _ (.inr (.inr (.inl rfl)))
      · exact hk _ (.inr (.inr (.inr rfl)))
  · have h := hb.put (a' := a) (b' := ⟨b.there, b.code, v, ao, cap⟩) (c' := c) (d' := d) hk1 hobj (s' := { s with ks := s.ks.set 1 v }) (by rw [hks]; rfl) ha (hb'.keep hs0 hc) hc' hd
    rw [← e] at h
    exact fin _ _ _ _ h.1 fun x hx => by
      rcases hx with rfl | rfl | rfl | rfl
      · exact hk _ (.inl rfl)
      · exact hs
      · exact hk _ (.inr (.inr (.inl rfl)))
      · exact hk _ (.inr (.inr (.inr rfl)))
  · have h := hb.put (a' := a) (b' := b) (c' := ⟨c.there, c.code, v, ao, cap⟩) (d' := d) hk1 hobj (s' := { s with ks := s.ks.set 2 v }) (by rw [hks]; rfl) ha hb' (hc'.keep hs0 hc) hd
    rw [← e] at h
    exact fin _ _ _ _ h.1 fun x hx => by
      rcases hx with rfl | rfl | rfl | rfl
      · exact hk _ (.inl rfl)
      · exact hk _ (.inr (.inl rfl))
      · exact hs
      · exact hk _ (.inr (.inr (.inr rfl)))
  · have h := hb.put (a' := a) (b' := b) (c' := c) (d' := ⟨d.there, d.code, v, ao, cap⟩) hk1 hobj (s' := { s with ks := s.ks.set 3 v }) (by rw [hks]; rfl) ha hb' hc' (hd.keep hs0 hc)
    rw [← e] at h
    exact fin _ _ _ _ h.1 fun x hx => by
      rcases hx with rfl | rfl | rfl | rfl
      · exact hk _ (.inl rfl)
      · exact hk _ (.inr (.inl rfl))
      · exact hk _ (.inr (.inr (.inl rfl)))
      · exact hs
theorem MS.bb_ne (H : MS M X q s left calls w) {b : Nat} {cs : Array Value} (hb : w.heap[b]? = some (.cells cs 38 (0, 0))) : ¬ M.bb = b := fun e => (H.apart hb).2 (.inl e.symm)
set_option maxRecDepth 8000 in
set_option maxHeartbeats 4000000 in
theorem xkeep_any (H : FrS C q s left R w) (hj : C.j < 4) (v : V) (va : Option Addr) (vc : Nat) (hv : SafeF (fun k => C.m.own q k ∨ C.x R k) (fun w => Is w v va) w) (hc : v.check = 0) (hS : v.size ≤ 500) :
    Calls Tryz.prog 168 #[.pointer (some ⟨C.fb, 0, none⟩), .agg #[.int .i64 v.kind, .int .i64 v.n, .slice va v.l.length vc]] w fun e w' => MQ C.m (C.x R) q C.fr (okV (s.ks.getD C.j v0) left { s with ks := s.ks.set C.j v }) w e w' := by
  obtain ⟨W, hW⟩ : ∃ W, W = (w.alloc (.cells #[.int .i64 v.kind, .int .i64 v.n, .slice va v.l.length vc] 38)).alloc (.cells #[.int .i64 0, .int .i64 0, .slice none 0 0] 38) := ⟨_, rfl⟩
  have qW : Quiet w W := by rw [hW]; exact (Kp.alloc _ _).trans (Kp.alloc _ _)
  have b0 : W.heap[w.heap.size]? = some (.cells #[.int .i64 v.kind, .int .i64 v.n, .slice va v.l.length vc] 38 (0, 0)) := by rw [hW, Below.heap_alloc _ _ _ (by simp)]; exact heap_alloc_new w _
  have b1 : W.heap[w.heap.size + 1]? = some (.cells #[.int .i64 0, .int .i64 0, .slice none 0 0] 38 (0, 0)) := by rw [hW]; exact heap_two w _ _
  have H1 := H.quiet qW
  have M1 := H.m.ext qW (w.heap.size + 1) (by omega) (lt_of_block b1)
  obtain ⟨s0, s1, s2, s3, s4⟩ := same3_cells H1 (same3_q H1 (Kp.refl _ _))
  obtain ⟨ka, kc, ⟨k0, k1, k2⟩, hks, hbb, hbf⟩ := M1.ofs C.j hj
  have hj4 : (C.j : Int) < 4 := by omega
  generalize s.ks.getD C.j v0 = y at *
  obtain ⟨z0, z1, z2⟩ := box_cells b0
  have HM := hid (And.intro M1 (And.intro qW (And.intro b0 (And.intro b1 (And.intro hks (And.intro H.m.xm (And.intro hc hj)))))))
  have HO := hid (fun (w' : World) (k : Quiet W w') => ownS_any (fun k => C.m.own q k ∨ (C.x R k ∨ k = w.heap.size + 1)) v va vc w' (M1.quiet k).ownlt (safe_quiet (safe_ext hv qW (by omega)) k) hS)
  clear H H1 M1 qW b0 b1 hv hc hS hks hj
  go_enter Tryz.func168, Tryz.ntmps168
  go_wp2
  rw [← hW]
  clear hW
  have hne1 : ¬ C.m.bb = w.heap.size + 1 := HM.out.1.bb_ne HM.out.2.2.2.1
  have hne2 : ¬ w.heap.size + 1 = C.m.bb := fun e => hne1 e.symm
  go_quiet (fail)
  have qz : Quiet W (W.drewN nq) := Kp.drewN _ _
  generalize W.drewN nq = Wq at *
  have j0 := qz.cell k0 (fun e => e)
  have j1 := qz.cell k1 (fun e => e)
  have j2 := qz.cell k2 (fun e => e)
  have y0 := qz.cell z0 (fun e => e)
  have y1 := qz.cell z1 (fun e => e)
  have y2 := qz.cell z2 (fun e => e)
  have hsz := qz.size
  have hw1 := lt_of_block HM.out.2.2.2.1
  have hne3 : ¬ C.m.bb = Wq.heap.size := by omega
  have hne4 : ¬ Wq.heap.size = C.m.bb := by omega
  have hne5 : ¬ Wq.heap.size = w.heap.size + 1 := by omega
  have hne6 : ¬ w.heap.size = Wq.heap.size := by omega
  have i0 := cell_on y0 (.cells #[.int .i64 y.kind, .int .i64 y.n, .slice ka y.l.length kc] 38)
  have i1 := cell_on y1 (.cells #[.int .i64 y.kind, .int .i64 y.n, .slice ka y.l.length kc] 38)
  have i2 := cell_on y2 (.cells #[.int .i64 y.kind, .int .i64 y.n, .slice ka y.l.length kc] 38)
  have HZ := hid (And.intro hsz hw1)
  clear z0 z1 z2 hsz hw1 s0 s1 s2 s3 s4
  go_wp2_with (go_at_call 107; refine (HO.out _ (qz.trans (Kp.alloc _ (.cells #[.int .i64 y.kind, .int .i64 y.n, .slice ka y.l.length kc] 38)))).mono ?_; rintro e w3 ⟨oa, oc, rfl, hs3, q3⟩; have Q3 := qz.trans ((Kp.alloc _ (.cells #[.int .i64 y.kind, .int .i64 y.n, .slice ka y.l.length kc] 38)).trans q3); have d0 := Q3.cell k0 (fun e => e); have d1 := Q3.cell k1 (fun e => e); have d2 := Q3.cell k2 (fun e => e); have hb3 := Nat.lt_of_lt_of_le hbb Q3.size; obtain ⟨_, _, _, _, _, hf3⟩ := (HM.out.1.quiet Q3).ofs C.j HM.out.2.2.2.2.2.2.2; have hf30 := hf3 (2 + C.j * 5 + 2); have hf31 := hf3 (2 + C.j * 5 + 3); have hf32 := hf3 (2 + C.j * 5 + 4); have hl3 := (q3.block _ (by simp) fun e => e).trans (heap_alloc_new Wq (.cells #[.int .i64 y.kind, .int .i64 y.n, .slice ka y.l.length kc] 38)); obtain ⟨l0, l1, l2⟩ := box_cells hl3; have hm3 := (Q3.block _ (lt_of_block HM.out.2.2.2.1) fun e => e).trans HM.out.2.2.2.1; obtain ⟨m0, m1, m2⟩ := box_cells hm3; obtain ⟨f0, f1, f2⟩ := box_free3 hm3; have hz3 := lt_of_block hm3; have H3 := hid (And.intro Q3 (And.intro hs3 hm3)); clear Q3 hs3 hm3 hl3 hf3 q3)
  refine bodyPost_ret (v := .agg #[.int .i64 y.kind, .int .i64 y.n, .slice ka y.l.length kc]) (by simp [results, Tryz.results168, go_sem, m0, m1, m2]) rfl ?_
  have hx := (HM.out.1.quiet H3.out.1).keepj C.j HM.out.2.2.2.2.2.2.2 v oa oc H3.out.2.1 HM.out.2.2.2.2.2.2.1
  have hxb := (hx.2.block H3.out.2.2 ((HM.out.1.quiet H3.out.1).apart H3.out.2.2).2 ((HM.out.1.quiet H3.out.1).apart H3.out.2.2).1).1
  have hk := three_set (keepW w3 C.m.bb C.j v oa oc) (w.heap.size + 1) (.int .i64 y.kind) (.int .i64 y.n) (.slice ka y.l.length kc)
  refine MQ.mk_ok (q' := q) (v := y) (ao := ka) (cap := kc) rfl (((hx.2.after H3.out.1).after HM.out.2.1).fresh (hk.mono fun k _ e => by omega)) (hx.1.unext hk hxb HM.out.2.2.2.2.2.1) rfl (safe_unext (hx.2.safe HM.out.1.xm (safe_quiet HM.out.2.2.2.2.1 H3.out.1)) hk)
end
def PlainQ (C : Cx) (R : Rw) (o : Out) (e : Ending) (w' : World) : Prop := match o.got with
  | .ok v => ∃ q', FrS C q' o.s o.left R w' ∧ ∃ ao cap, e = .returned (.agg #[.int .i64 v.kind, .int .i64 v.n, .slice ao v.l.length cap]) ∧ SafeF (fun k => C.m.own q' k ∨ C.x R k) (fun w => Is w v ao) w'
  | .error c => e = .panicked (gaveM c) ∧ BadF C o.s o.left w'
def Cx.pl (C : Cx) (w : World) (op k n : Int) : Cx := (C.ext w.heap.size #[.int .i64 op, .int .i64 k, .int .i64 n] 165).ext (w.heap.size + 1) #[.int .i64 0, .int .i64 0, .slice none 0 0] 38
def plW (w : World) (op k n : Int) : World := (w.alloc (.cells #[.int .i64 op, .int .i64 k, .int .i64 n] 165)).alloc (.cells #[.int .i64 0, .int .i64 0, .slice none 0 0] 38)
section
variable {C : Cx} {q q' : Vs} {s s' : Sg} {left left' : Nat} {R R' : Rw} {w w5 : World} {op k n : Int}
theorem pl_start (H : FrS C q s left R w) (op k n : Int) : FrS (C.pl w op k n) q s left R (plW w op k n) := by
  have h1 := H.ext (Kp.alloc w (.cells #[.int .i64 op, .int .i64 k, .int .i64 n] 165)) w.heap.size (Nat.le_refl _) (heap_alloc_new w _) (.inr rfl)
  refine h1.ext (Kp.alloc _ (.cells #[.int .i64 0, .int .i64 0, .slice none 0 0] 38)) (w.heap.size + 1) (by simp) ?_ (.inl rfl)
  exact heap_two w _ _
theorem pl_quiet (w : World) (op k n : Int) : Quiet w (plW w op k n) := (Kp.alloc _ _).trans (Kp.alloc _ _)
theorem pl_res (H : FrS (C.pl w op k n) q s left R w5) : w5.heap[w.heap.size + 1]? = some (.cells #[.int .i64 0, .int .i64 0, .slice none 0 0] 38 (0, 0)) := (H.st (w.heap.size + 1, #[.int .i64 0, .int .i64 0, .slice none 0 0], 38) (by simp [Cx.pl, Cx.ext])).1
theorem pl_ins (H : FrS (C.pl w op k n) q s left R w5) : w5.cell? ⟨w.heap.size, 0, none⟩ = some (.int .i64 op) ∧ w5.cell? ⟨w.heap.size, 1, none⟩ = some (.int .i64 k) ∧ w5.cell? ⟨w.heap.size, 2, none⟩ = some (.int .i64 n) := by
  have h : w5.heap[w.heap.size]? = some (.cells #[.int .i64 op, .int .i64 k, .int .i64 n] 165 (0, 0)) := (H.st (w.heap.size, #[.int .i64 op, .int .i64 k, .int .i64 n], 165) (by simp [Cx.pl, Cx.ext])).1
  exact box_cells h
theorem pl_end (H0 : FrS C q s left R w) (H : FrS (C.pl w op k n) q' s' left' R' w5) (a b c : Value) : FrS C q' s' left' R' (((w5.setCell ⟨w.heap.size + 1, 0, none⟩ a).setCell ⟨w.heap.size + 1, 1, none⟩ b).setCell ⟨w.heap.size + 1, 2, none⟩ c) := by
  have hb := H0.bslt
  have hw := H0.went.kp.size
  have h1 := FrS.unext (C := C.ext w.heap.size #[.int .i64 op, .int .i64 k, .int .i64 n] 165) H (three_set w5 (w.heap.size + 1) a b c) (.inl H0.xm) (show C.w0.heap.size ≤ w.heap.size + 1 by omega) (fun p hp => by
    rcases List.mem_cons.1 hp with e | e
    · rw [e]; exact Nat.lt_succ_self _
    · have := hb p e; omega)
  exact h1.unread H0.xm hb
theorem pl_safe {P : World → Prop} (h : SafeF (fun i => C.m.own q' i ∨ (C.pl w op k n).x R' i) P w5) (a b c : Value) : SafeF (fun i => C.m.own q' i ∨ C.x R' i) P (((w5.setCell ⟨w.heap.size + 1, 0, none⟩ a).setCell ⟨w.heap.size + 1, 1, none⟩ b).setCell ⟨w.heap.size + 1, 2, none⟩ c) :=
  (fsafe_unext (C := C.ext w.heap.size #[.int .i64 op, .int .i64 k, .int .i64 n] 165) h (three_set w5 (w.heap.size + 1) a b c)).mono fun i _ e => by
    rcases e with e | e | e
    · exact .inl e
    · exact .inr (.inl (.inl e))
    · exact .inr (.inr e)
theorem pl_bad (H0 : FrS C q s left R w) (h : BadF (C.pl w op k n) s' left' w5) : BadF C s' left' w5 :=
  BadF.less (C := C) (BadF.less (C := C.ext w.heap.size #[.int .i64 op, .int .i64 k, .int .i64 n] 165) h (.inl H0.xm)) H0.xm
theorem PlainQ.mk_ok {o : Out} {v : V} {e : Ending} {ao : Option Addr} {cap : Nat} {w' : World} (ho : o.got = .ok v) (h : FrS C q' o.s o.left R w') (he : e = .returned (.agg #[.int .i64 v.kind, .int .i64 v.n, .slice ao v.l.length cap])) (hs : SafeF (fun i => C.m.own q' i ∨ C.x R i) (fun w => Is w v ao) w') : PlainQ C R o e w' := by
  unfold PlainQ; rw [ho]; exact ⟨q', h, ao, cap, he, hs⟩
theorem PlainQ.mk_bad {o : Out} {c : Int} {e : Ending} {w' : World} (ho : o.got = .error c) (he : e = .panicked (gaveM c)) (h : BadF C o.s o.left w') : PlainQ C R o e w' := by
  unfold PlainQ; rw [ho]; exact ⟨he, h⟩
theorem pl_ok {o : Out} {v : V} {ao : Option Addr} {cap : Nat} (H0 : FrS C q s left R w) (ho : o.got = .ok v) (H : FrS (C.pl w op k n) q' o.s o.left R' w5) (hs : SafeF (fun i => C.m.own q' i ∨ (C.pl w op k n).x R' i) (fun w => Is w v ao) w5) :
    PlainQ C R' o (.returned (.agg #[.int .i64 v.kind, .int .i64 v.n, .slice ao v.l.length cap])) (((w5.setCell ⟨w.heap.size + 1, 0, none⟩ (.int .i64 v.kind)).setCell ⟨w.heap.size + 1, 1, none⟩ (.int .i64 v.n)).setCell ⟨w.heap.size + 1, 2, none⟩ (.slice ao v.l.length cap)) :=
  PlainQ.mk_ok ho (pl_end H0 H _ _ _) rfl (pl_safe hs _ _ _)
set_option maxRecDepth 8000 in
set_option maxHeartbeats 2000000 in
theorem plain_num (H : FrS C q s left R w) (hn : In64 n) (k : Int) : Calls Tryz.prog 149 #[.pointer (some ⟨C.fb, 0, none⟩), .agg #[.int .i64 2, .int .i64 k, .int .i64 n]] w fun e w' => PlainQ C R (okV (intV n) left s) e w' := by
  have H1 := pl_start H 2 k n
  obtain ⟨i0, i1, i2⟩ := pl_ins H1
  have HW := hid (show plW w 2 k n = (w.alloc (.cells #[.int .i64 2, .int .i64 k, .int .i64 n] 165)).alloc (.cells #[.int .i64 0, .int .i64 0, .slice none 0 0] 38) from rfl)
  have HH := hid (And.intro H H1)
  clear H H1
  unfold plW at i0 i1 i2
  go_enter Tryz.func149, Tryz.ntmps149
  go_wp2_with (go_at_call 156; refine (xnumber_any _ _).mono ?_; rintro e w5 ⟨rfl, q5⟩; have h5 := HH.out.2.quiet q5; have hb5 := pl_res h5; obtain ⟨m0, m1, m2⟩ := box_cells hb5; obtain ⟨f0, f1, f2⟩ := box_free3 hb5; have hz := lt_of_block hb5; have H5 := hid h5; clear h5 hb5 q5)
  refine bodyPost_ret (v := .agg #[.int .i64 1, .int .i64 n, .slice none 0 0]) (by simp [results, Tryz.results149, go_sem, m0, m1, m2]) rfl ?_
  exact pl_ok (v := intV n) (ao := none) (cap := 0) HH.out.1 rfl H5.out (safe_leaf _ ⟨small_in 1 (by decide), hn⟩ rfl none)
end
section
variable {C : Cx} {q : Vs} {s : Sg} {left : Nat} {R : Rw} {w : World} {k n : Int}
set_option maxRecDepth 8000 in
set_option maxHeartbeats 2000000 in
theorem plain_nil (H : FrS C q s left R w) (k n : Int) : Calls Tryz.prog 149 #[.pointer (some ⟨C.fb, 0, none⟩), .agg #[.int .i64 1, .int .i64 k, .int .i64 n]] w fun e w' => PlainQ C R (okV v0 left s) e w' := by
  have HH := hid H
  clear H
  go_enter Tryz.func149, Tryz.ntmps149
  go_wp2
  refine bodyPost_ret (v := .agg #[.int .i64 0, .int .i64 0, .slice none 0 0]) (by simp [results, Tryz.results149, go_sem]) rfl ?_
  exact PlainQ.mk_ok (v := v0) (ao := none) (cap := 0) rfl (HH.out.quiet ((Kp.alloc _ _).trans (Kp.alloc _ _))) rfl (safe_leaf v0 v0_fits rfl none)
set_option maxRecDepth 8000 in
set_option maxHeartbeats 2000000 in
theorem plain_arg (H : FrS C q s left R w) (k n : Int) : Calls Tryz.prog 149 #[.pointer (some ⟨C.fb, 0, none⟩), .agg #[.int .i64 3, .int .i64 k, .int .i64 n]] w fun e w' => PlainQ C R (okV C.arg left s) e w' := by
  have H1 := H.quiet (pl_quiet w 3 k n)
  obtain ⟨_, _, a2, a3, a4, _, _⟩ := H1.cells
  unfold plW at a2 a3 a4
  have HH := hid H
  clear H H1
  go_enter Tryz.func149, Tryz.ntmps149
  go_wp2
  refine bodyPost_ret (v := .agg #[.int .i64 C.arg.kind, .int .i64 C.arg.n, .slice C.aa C.arg.l.length C.ac]) (by simp [results, Tryz.results149, go_sem]) rfl ?_
  exact PlainQ.mk_ok (v := C.arg) (ao := C.aa) (cap := C.ac) rfl (HH.out.quiet ((Kp.alloc _ _).trans (Kp.alloc _ _))) rfl (safe_quiet HH.out.arg ((Kp.alloc _ _).trans (Kp.alloc _ _)))
set_option maxRecDepth 8000 in
set_option maxHeartbeats 4000000 in
theorem plain_var {sa na : Option Addr} {nn sc mm nc : Nat} {ps qs : List Kd} (H : FrS C q s left ⟨sa, nn, sc, ps, na, mm, nc, qs⟩ w) (kn : Nat) (n : Int) (hk : kn < qs.length) (hm : mm ≤ 2000) : Calls Tryz.prog 149 #[.pointer (some ⟨C.fb, 0, none⟩), .agg #[.int .i64 4, .int .i64 kn, .int .i64 n]] w fun e w' => PlainQ C ⟨sa, nn, sc, ps, na, mm, nc, qs⟩ (okV ((qs.map (·.1)).getD (qs.length - 1 - kn) v0) left s) e w' := by
  obtain ⟨W, hW⟩ : ∃ W, W = plW w 4 kn n := ⟨_, rfl⟩
  have qW : Quiet w W := by rw [hW]; exact pl_quiet w 4 kn n
  have hst := pl_start H 4 kn n
  rw [← hW] at hst
  have hb := pl_res hst
  obtain ⟨m0, m1, m2⟩ := box_cells hb
  obtain ⟨f0, f1, f2⟩ := box_free3 hb
  have hz := lt_of_block hb
  have H1 := H.quiet qW
  obtain ⟨_, _, _, _, _, a5, _⟩ := H1.cells
  obtain ⟨i0, i1, i2⟩ := pl_ins hst
  have hln : mm = qs.length := H.two.ln
  have hi : qs.length - 1 - kn < qs.length := by omega
  obtain ⟨g, hg, c⟩ := H1.two.swap.cells (qs.length - 1 - kn) (by simp only; omega)
  have c0 := c 0 (by decide)
  have c1 := c 1 (by decide)
  have c2 := c 2 (by decide)
  have hsafe := H.two.all _ (.inr (List.getElem_mem hi))
  have hv : (qs.map (·.1)).getD (qs.length - 1 - kn) v0 = (qs[qs.length - 1 - kn]).1 := by simp [List.getD_eq_getElem?_getD, hi]
  simp only at hg a5
  subst hg
  rw [hv]
  simp only at c0 c1 c2 hsafe
  generalize hx : qs[qs.length - 1 - kn] = x at *
  clear hx
  obtain ⟨xv, xa, xc⟩ := x
  simp only [tri, List.getElem?_cons_zero, List.getElem?_cons_succ, Nat.add_zero] at c0 c1 c2 hsafe ⊢
  obtain ⟨j, hj⟩ : ∃ j, j = qs.length - 1 - kn := ⟨_, rfl⟩
  rw [← hj] at c0 c1 c2
  have hw1 : IntKind.i64.wrap ((mm : Int) - 1) = (mm : Int) - 1 := by rw [IntKind.wrap_i64]; omega
  have hw2 : IntKind.i64.wrap ((mm : Int) - 1 - (kn : Int)) = (j : Int) := by rw [IntKind.wrap_i64]; omega
  have hjm : (j : Int) < (mm : Int) := by omega
  have hsafe2 : SafeF (fun i => C.m.own q i ∨ C.x ⟨sa, nn, sc, ps, some ⟨g, 0, none⟩, mm, nc, qs⟩ i) (fun w => Is w xv xa) w := hsafe.mono fun i _ e => by
    rcases e with e | e | e | e
    · exact .inl (.inl e)
    · exact .inl (.inr (.inl e))
    · exact .inl (.inr (.inr e))
    · exact .inr e
  have HH := hid (And.intro H (And.intro hst (And.intro hsafe2 qW)))
  clear H hst H1 hsafe hsafe2 qW hb c hln hi hv hk hm hj
  unfold plW at hW
  go_enter Tryz.func149, Tryz.ntmps149
  go_wp2
  rw [← hW]
  clear hW
  go_region
  all_goals
    go_wp2
    refine bodyPost_ret (v := .agg #[.int .i64 xv.kind, .int .i64 xv.n, .slice xa xv.l.length xc]) (by simp [results, Tryz.results149, go_sem, m0, m1, m2]) rfl ?_
    exact PlainQ.mk_ok (v := xv) (ao := xa) (cap := xc) rfl ((pl_end HH.out.1 HH.out.2.1 _ _ _).quiet (Kp.drew _)) rfl (safe_quiet HH.out.2.2.1 ((HH.out.2.2.2.fresh ((three_set W _ _ _ _).mono fun k _ e => by omega)).trans (Kp.drew _)))
set_option maxRecDepth 8000 in
set_option maxHeartbeats 4000000 in
theorem plain_kept (H : FrS C q s left R w) (hj : C.j < 4) (k n : Int) : Calls Tryz.prog 149 #[.pointer (some ⟨C.fb, 0, none⟩), .agg #[.int .i64 21, .int .i64 k, .int .i64 n]] w fun e w' => PlainQ C R (okV (s.ks.getD C.j v0) left s) e w' := by
  obtain ⟨W, hW⟩ : ∃ W, W = plW w 21 k n := ⟨_, rfl⟩
  have qW : Quiet w W := by rw [hW]; exact pl_quiet w 21 k n
  have hst := pl_start H 21 k n
  rw [← hW] at hst
  have hb := pl_res hst
  obtain ⟨m0, m1, m2⟩ := box_cells hb
  obtain ⟨f0, f1, f2⟩ := box_free3 hb
  have hz := lt_of_block hb
  have H1 := H.quiet qW
  obtain ⟨s0, s1, s2, s3, s4⟩ := same3_cells H1 (same3_q H1 (Kp.refl _ _))
  obtain ⟨ka, kc, ⟨k0, k1, k2⟩, _, _, _⟩ := H1.m.ofs C.j hj
  obtain ⟨ka', kc', ⟨k0', k1', k2'⟩, hks, _, _⟩ := H.m.ofs C.j hj
  have e2 := qW.cell k2' fun e => e
  rw [k2] at e2
  simp only [Option.some.injEq, Value.slice.injEq, true_and] at e2
  obtain ⟨rfl, rfl⟩ := e2
  have hj4 : (C.j : Int) < 4 := by omega
  generalize s.ks.getD C.j v0 = y at *
  have HH := hid (And.intro H (And.intro hst (And.intro hks qW)))
  clear H hst H1 hks qW hb hj k0' k1' k2'
  unfold plW at hW
  go_enter Tryz.func149, Tryz.ntmps149
  go_wp2
  rw [← hW]
  clear hW
  go_region
  all_goals
    go_wp2
    refine bodyPost_ret (v := .agg #[.int .i64 y.kind, .int .i64 y.n, .slice ka y.l.length kc]) (by simp [results, Tryz.results149, go_sem, m0, m1, m2]) rfl ?_
    exact PlainQ.mk_ok (v := y) (ao := ka) (cap := kc) rfl ((pl_end HH.out.1 HH.out.2.1 _ _ _).quiet (Kp.drew _)) rfl (safe_quiet HH.out.2.2.1 ((HH.out.2.2.2.fresh ((three_set W _ _ _ _).mono fun k _ e => by omega)).trans (Kp.drew _)))
end
end Go.Proofs.YtkpckmcaeljocaaGreat
