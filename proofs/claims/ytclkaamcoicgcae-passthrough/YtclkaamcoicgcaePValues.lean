/- A value whose capabilities go through gates, as the program does it: what has parts. -/
import Derived.Test.YtclkaamcoicgcaePValue
namespace Go.Proofs.Ytclkaamcoicgcae
open Go.ChangeShapes Go.WideShapes Go.ChangeAt Go.RowKit
open Gr (Nd Res nd0 thereB deriveOf addOf rightsN wayOf gatesOf gatesW targetOf Wf NdOk GS Goes Own StepP IntsAt)
/-- The state of the loop over the parts. -/
structure MvS (B b : Nat) (os : List Bool) (gs : List Int) (ns0 : List Nd) (w : World) (vn vo : Value) (v : V) (ao : Option Addr) (cap : Nat) (ga : Option Addr) (gc j : Nat) (vn' vo' : Value) (nsr : List Nd) (av : Option Addr) (n cv : Nat) (ps : List Kd) (wr : World) : Prop where
  obj : GS 70 B wr b vn' vo' nsr os
  goes : Goes b vn vo w vn' vo' wr
  bm : wr.heap[w.heap.size]? = some (.cells #[.pointer (some ⟨b, 0, none⟩), .slice ga gs.length gc] 65 (0, 0))
  b0 : wr.heap[w.heap.size + 1]? = some (.cells #[.int .i64 v.kind, .int .i64 v.n, .slice ao v.l.length cap] 25 (0, 0))
  b1 : wr.heap[w.heap.size + 1 + 1]? = some (.cells #[.int .i64 0, .int .i64 0, .slice none 0 0] 25 (0, 0))
  row : wr.ownsRow (w.heap.size + 3) 25 3 (.slice av n cv) n (tris ps)
  len : n = ps.length
  all : ∀ p ∈ ps, SafeF (fun k => Own b vn' vo' k ∨ k < w.heap.size + 3 ∨ (Value.slice av n cv).ownBlock = some k) (fun w => Is w p.1 p.2.1) wr
  map : handeds os gs (v.l.take j) ns0 = (ps.map (·.1), 0, nsr)
section
variable {B b : Nat} {os : List Bool} {gs : List Int} {ns0 : List Nd} {w : World} {vn vo : Value} {v : V} {ao : Option Addr} {cap j : Nat} {ga : Option Addr} {gc : Nat} {vn' vo' : Value} {nsr : List Nd} {av : Option Addr} {n cv : Nat} {ps : List Kd} {wr : World}
theorem MvS.lt (H : MvS B b os gs ns0 w vn vo v ao cap ga gc j vn' vo' nsr av n cv ps wr) : w.heap.size + 3 ≤ wr.heap.size := by have := lt_of_block H.b1; omega
theorem MvS.step {w2 w3 w6 : World} {vn2 vo2 : Value} {ns2 : List Nd} {y : V} {a : Option Addr} {c g cap2 : Nat} {o1 : Obj} {x : V} (H : MvS B b os gs ns0 w vn vo v ao cap ga gc j vn' vo' nsr av n cv ps wr) (hj : j < v.l.length) (hx : v.l[j] = x) (hR : x.handed os gs nsr = (y, 0, ns2)) (q2 : Quiet wr w2)
    (hs : SafeF (fun k => Own b vn2 vo2 k ∨ k < w2.heap.size) (fun w => Is w y a) w3) (hg3 : GS 70 B w3 b vn2 vo2 ns2 os) (go2 : Goes b vn' vo' w2 vn2 vo2 w3)
    (hr : w6.ownsRow (w.heap.size + 3) 25 3 (.slice (some ⟨g, 0, none⟩) (n + 1) cap2) (n + 1) (tris ps ++ tri (y, a, c))) (hg : (w3.alloc o1).grownBy w6 (Value.slice av n cv).ownBlock) (hat : (Value.slice av n cv).ownBlock = some g ∨ g = w3.heap.size + 1) :
    MvS B b os gs ns0 w vn vo v ao cap ga gc (j + 1) vn2 vo2 ns2 (some ⟨g, 0, none⟩) (n + 1) cap2 (ps ++ [(y, a, c)]) w6 := by
  have hlt := H.lt
  have go3 := go2.after q2
  have h12 := q2.size
  have hrb : ∀ k, (Value.slice av n cv).ownBlock = some k → w.heap.size + 3 ≤ k ∧ k < wr.heap.size := fun k e => H.row.lt k e
  have h13 : wr.heap.size ≤ w3.heap.size := go3.kp.size
  have h23 : w2.heap.size ≤ w3.heap.size := go2.kp.size
  have nb : ∀ k c, wr.heap[k]? = some (.cells c 25 (0, 0)) → ¬ Own b vn' vo' k := fun k c hk => H.obj.free_type hk (by decide) (by decide) (by decide)
  have BM := go3.block H.bm (H.obj.free_type H.bm (by decide) (by decide) (by decide))
  have B0 := go3.block H.b0 (nb _ _ H.b0)
  have B1 := go3.block H.b1 (nb _ _ H.b1)
  have k36 : Kp (fun k => (Value.slice av n cv).ownBlock = some k) w3 w6 := (Kp.alloc w3 o1).trans (Kp.grown hg fun k _ e => e.symm)
  have hgl : w.heap.size + 3 ≤ g := by
    rcases hat with e | e
    · exact (hrb g e).1
    · omega
  have nrow : ∀ k, Own b vn2 vo2 k → (Value.slice av n cv).ownBlock ≠ some k := by
    intro k hk e
    obtain ⟨c, hc⟩ := row_box H.row e
    exact (go3.block hc (nb _ _ hc)).2 hk
  refine ⟨?_, ?_, ?_, ?_, ?_, ?_, ?_, ?_, ?_⟩
  · exact hg3.kept k36 fun k hk e => nrow k hk e
  · exact (H.goes.trans go3).fresh (k36.mono fun k _ e => by have := hrb k e; omega)
  · exact (k36.block _ (lt_of_block BM.1) (fun e => by have := hrb _ e; omega)).trans BM.1
  · exact (k36.block _ (lt_of_block B0.1) (fun e => by have := hrb _ e; omega)).trans B0.1
  · exact (k36.block _ (lt_of_block B1.1) (fun e => by have := hrb _ e; omega)).trans B1.1
  · rw [tris_app, tris_one]; exact hr
  · rw [List.length_append, H.len]; rfl
  · intro p hp
    rcases List.mem_append.1 hp with hp | hp
    · refine (H.all p hp).step ((go3.kp.mono fun k _ e => .inl e).trans (k36.mono fun k _ e => .inr (.inr e))) fun k hk e => ?_
      rcases e with e | e | e
      · rcases go3.own k e with e | e
        · exact .inl e
        · omega
      · exact .inr (.inl e)
      · simp [Value.ownBlock] at e
        subst e
        rcases hat with e | e
        · exact .inr (.inr e)
        · omega
    · simp at hp
      subst hp
      refine hs.step (k36.mono fun k _ e => ?_) fun k hk e => ?_
      · right
        have := (hrb k e).2
        omega
      · rcases e with e | e | e
        · exact .inl e
        · exact .inr (by omega)
        · simp [Value.ownBlock] at e
          subst e
          rcases hat with e | e
          · have := (hrb _ e).2; exact .inr (by omega)
          · omega
  · rw [handeds_take os gs v.l ns0 j hj _ _ H.map, hx, hR]
    simp
theorem MvS.done {w8 : World} (H : MvS B b os gs ns0 w vn vo v ao cap ga gc j vn' vo' nsr av n cv ps wr) (hf : v.fits) (k8 : Kp (fun k => k = w.heap.size + 1 ∨ k = w.heap.size + 1 + 1) wr w8) :
    SafeF (fun k => Own b vn' vo' k ∨ k < w.heap.size) (fun w => Is w ⟨v.kind, v.n, ps.map (·.1)⟩ av) w8 ∧ GS 70 B w8 b vn' vo' nsr os ∧ Goes b vn vo w vn' vo' w8 := by
  have nb : ∀ k c, wr.heap[k]? = some (.cells c 25 (0, 0)) → ¬ Own b vn' vo' k := fun k c hk => H.obj.free_type hk (by decide) (by decide) (by decide)
  refine ⟨fun w2 k2 => ⟨hf, ?_⟩, H.obj.kept k8 fun k hk e => ?_, H.goes.fresh (k8.mono fun k _ e => by omega)⟩
  · have hr8 := k8.row H.row fun k e e2 => by have := (H.row.lt k e).1; omega
    have hr2 := k2.row hr8 fun k e e2 => by
      rcases e2 with e2 | e2
      · obtain ⟨c, hc⟩ := row_box H.row e
        exact nb _ _ hc e2
      · have := (H.row.lt k e).1; omega
    refine fo_row (B := w.heap.size + 3) hr2 H.len fun p hp => ?_
    exact ((H.all p hp).step (F' := fun k => Own b vn' vo' k ∨ k < w.heap.size) (k8.mono fun k _ e => .inr (.inl (by omega))) fun k _ e => by
      rcases e with e | e
      · exact .inl e
      · exact .inr (.inl (by omega))) w2 k2
  · rcases e with e | e
    · exact nb _ _ H.b0 (e ▸ hk)
    · exact nb _ _ H.b1 (e ▸ hk)
end
set_option maxRecDepth 8000 in
set_option maxHeartbeats 8000000 in
theorem value_other {B b : Nat} {os : List Bool} {gs : List Int} (v : V) (ih : ∀ x ∈ v.l, ValR B b os gs x) (hk4 : v.kind ≠ 4) (ao : Option Addr) (cap : Nat) (ga : Option Addr) (gc : Nat) (w : World) (vn vo : Value) (ns : List Nd) (h : GS 70 B w b vn vo ns os) (hf : v.fault = 0) (hS : v.size ≤ 500)
    (hI : SafeF (Own b vn vo) (fun w => Is w v ao) w) (hG : SafeF (Own b vn vo) (fun w => IntsAt w ga gs) w) :
    Calls Try.prog 65 #[.agg #[.pointer (some ⟨b, 0, none⟩), .slice ga gs.length gc], .agg #[.int .i64 v.kind, .int .i64 v.n, .slice ao v.l.length cap]] w fun e w' => ValQ B b vn vo (v.handed os gs ns) os w e w' := by
  obtain ⟨i0, hi0, hz0, hz1, hz2⟩ := info_parts' Try.infoV
  have hfit := hI.now.fit
  have hlen : v.l.length ≤ 500 := by have := sizes_len v.l; have := size_eq v; omega
  have hsz : ∀ j (h : j < v.l.length), v.l[j].size ≤ 500 := fun j h => by have := size_get v.l j h; have := size_eq v; omega
  obtain ⟨W, hW⟩ : ∃ W, W = ((w.alloc (.cells #[.pointer (some ⟨b, 0, none⟩), .slice ga gs.length gc] 65)).alloc (.cells #[.int .i64 v.kind, .int .i64 v.n, .slice ao v.l.length cap] 25)).alloc (.cells #[.int .i64 0, .int .i64 0, .slice none 0 0] 25) := ⟨_, rfl⟩
  have qW : Quiet w W := by rw [hW]; exact ((Kp.alloc _ _).trans (Kp.alloc _ _)).trans (Kp.alloc _ _)
  have hB3 := three_new w (.cells #[.pointer (some ⟨b, 0, none⟩), .slice ga gs.length gc] 65) (.cells #[.int .i64 v.kind, .int .i64 v.n, .slice ao v.l.length cap] 25) (.cells #[.int .i64 0, .int .i64 0, .slice none 0 0] 25)
  rw [← hW] at hB3
  have H0 : MvS B b os gs ns w vn vo v ao cap ga gc 0 vn vo ns none 0 0 [] W := ⟨h.quiet qW, Goes.quiet _ _ _ qW, hB3.1, hB3.2.1, hB3.2.2, World.ownsRow_nil _ _ _ _, rfl, fun p hp => by simp at hp, by rw [List.take_zero, handeds_nil]; rfl⟩
  have HW := hid (And.intro hW H0)
  have HI := hid (And.intro hI (And.intro hG (And.intro ih (And.intro hsz (fun j (h : j < v.l.length) => fault_get hf j h)))))
  have HE := hid (handed_other os gs ns hk4)
  have n4 : (v.kind == 4) = false := by simpa using hk4
  have hk5 : decide (v.kind = 4) = false := by simpa using hk4
  clear h hI hG ih hsz hf qW hB3 hW H0 hS
  go_enter Try.func65, Try.ntmps65
  go_wp2
  go_loopw [5, 19] (fun l i wr => ∃ (j : Nat) (vn' vo' : Value) (nsr : List Nd) (av : Option Addr) (cv : Nat) (ps : List Kd), j ≤ v.l.length ∧ l = .slice av j cv ∧ i = .int .i64 j ∧ Hid (MvS B b os gs ns w vn vo v ao cap ga gc j vn' vo' nsr av j cv ps wr)) (fun _ i _ => v.l.length - (intOf i).toNat)
  case atStart =>
    refine ⟨0, vn, vo, ns, none, 0, [], Nat.zero_le _, rfl, rfl, ?_⟩
    rw [← HW.out.1]; exact HW.out.2
  case round =>
    obtain ⟨j, vn', vo', nsr, av, cv, ps, hj, rfl, rfl, H⟩ := hrel
    obtain ⟨m0, m1⟩ := box_two H.out.bm
    have hlt3 := H.out.lt
    by_cases hlt : j < v.l.length
    · obtain ⟨bb, oo, ca, cc, rfl, _, ⟨⟨d0, d1⟩, ds⟩, hIx⟩ := (HI.out.1.goes H.out.goes).kid j hlt
      have hIG := HI.out.2.1.goes H.out.goes
      have hX : ∀ w2 : World, Quiet wr w2 → ∀ (c : Nat), Calls Try.prog 65 #[.agg #[.pointer (some ⟨b, 0, none⟩), .slice ga gs.length gc], .agg #[.int .i64 v.l[j].kind, .int .i64 v.l[j].n, .slice ca v.l[j].l.length c]] w2 fun e w' => ValQ B b vn' vo' (v.l[j].handed os gs nsr) os w2 e w' :=
        fun w2 q2 c => HI.out.2.2.1 v.l[j] (List.getElem_mem hlt) ca c ga gc w2 vn' vo' nsr (H.out.obj.quiet q2) (HI.out.2.2.2.2 j hlt) (HI.out.2.2.2.1 j hlt) (safe_quiet hIx q2) (safe_quiet hIG q2)
      have HC := hid hX
      have HT := hid (handeds_take os gs v.l ns j hlt _ _ H.out.map)
      obtain ⟨x, hx⟩ : ∃ x, v.l[j] = x := ⟨_, rfl⟩
      rw [hx] at HC HT d0 d1 ds
      have HX := hid hx
      obtain ⟨y, c, ns2, hR⟩ : ∃ y c ns2, x.handed os gs nsr = (y, c, ns2) := ⟨_, _, _, rfl⟩
      have HR := hid hR
      unfold ValQ at HC
      rw [hR] at HC HT
      simp only at HC HT
      clear hx hR hIx hIG hX
      by_cases hc : c = 0
      · subst hc
        simp only [if_true] at HC
        have p0 := cell_on m0
        have p1 := cell_on m1
        have hq0 := hid (show Quiet wr (wr.alloc (.cells #[.int .i64 x.kind, .int .i64 x.n, .slice ca x.l.length cc] 25)) from Kp.alloc _ _)
        have hwz := H.out.lt
        go_wp2_with (first
          | (at_builtin; refine wpList_append_lies _ rfl (.tmp 23) (.tmp 27) 23 rfl (w.heap.size + 3) 25 i0 _ 3 40 Try.undV hi0 hz0 hz1 hz2 rfl (by decide) _ j (tris ps) rfl Hrow.out ⟨w3.heap.size, 0, none⟩ 1 1 (tri (y, a, cp)) rfl rfl (news_at w3 _ 25) (tri_one _) (by decide) (by unfold maxLen; omega) (by omega) (by simp; omega) (w3.heap.size + 1) (by simp) ?_; intro g6 cap6 w6 hr6 hg6 hat hlt6; have HD := hid (H.out.step hlt HX.out HR.out hq0.out hs3.out hg3.out go3.out hr6 hg6 hat); clear hr6 hg6 hat hlt6)
          | (go_at_call 65; refine (HC.out _ hq0.out cc).mono ?_; rintro e w3 ⟨a, cp, vn2, vo2, rfl, hs3, hg3, go3⟩; have hz3 : wr.heap.size + 1 ≤ w3.heap.size := (by have := go3.kp.size; simpa using this); have Hrow := hid (show (w3.alloc (.cells #[.int .i64 y.kind, .int .i64 y.n, .slice a y.l.length cp] 25)).ownsRow (w.heap.size + 3) 25 3 (.slice av j cv) j (tris ps) from (go3.kp.row (H.out.row.alloc _) (fun k e => by obtain ⟨c, hc⟩ := row_box H.out.row e; exact H.out.obj.free_type hc (by decide) (by decide) (by decide))).alloc _); have hs3 := hid hs3; have hg3 := hid hg3; have go3 := hid go3))
        exact ⟨⟨j + 1, vn2, vo2, ns2, _, _, _, by omega, rfl, by go_num, HD⟩, by simp [intOf]; omega⟩
      · have HCN := hid hc
        simp only [hc, if_false] at HC
        have p0 := cell_on m0
        have p1 := cell_on m1
        have hq0 := hid (show Quiet wr (wr.alloc (.cells #[.int .i64 x.kind, .int .i64 x.n, .slice ca x.l.length cc] 25)) from Kp.alloc _ _)
        clear hc
        go_wp2_with (go_at_call 65; refine (HC.out _ hq0.out cc).mono ?_; rintro e w3 ⟨vn2, vo2, rfl, hg3, go3⟩)
        have hE : v.handed os gs ns = (v0, c, ns2) := by
          have h1 := HT.out
          rw [if_neg HCN.out] at h1
          rw [HE.out, handeds_stop os gs v.l ns (j + 1) c ns2 HCN.out h1, if_neg HCN.out]
        exact ⟨rfl, valQ_bad HCN.out hE rfl hg3 (H.out.goes.trans (go3.after hq0.out))⟩
    · have hjl : j = v.l.length := by omega
      subst hjl
      have hmap := H.out.map
      rw [List.take_length] at hmap
      have HMP := hid hmap
      obtain ⟨c0, c1, c2⟩ := box_cells H.out.b0
      obtain ⟨e0, e1, e2⟩ := box_free3 H.out.b0
      obtain ⟨d0, d1, d2⟩ := box_cells H.out.b1
      obtain ⟨f0, f1, f2⟩ := box_free3 H.out.b1
      have hz1 := lt_of_block H.out.b1
      have HL := hid H.out.len
      clear hmap
      go_wp2
      refine bodyPost_ret (v := .agg #[.int .i64 v.kind, .int .i64 v.n, .slice av v.l.length cv]) (by simp [results, Try.results65, go_sem, d0, d1, d2]) rfl ?_
      have hD := H.out.done (w8 := _) hfit (((kp_set wr (w.heap.size + 1) 2 (.slice av v.l.length cv)).mono fun k _ e => .inl e).trans ((three_set _ (w.heap.size + 1 + 1) (.int .i64 v.kind) (.int .i64 v.n) (.slice av v.l.length cv)).mono fun k _ e => .inr e))
      refine valQ_ok (vn' := vn') (vo' := vo') (x := ⟨v.kind, v.n, ps.map (·.1)⟩) av cv (ns' := nsr) ?_ ?_ hD.1 hD.2.1 hD.2.2
      · rw [HE.out, HMP.out]; simp
      · rw [List.length_map, ← HL.out]
/-- The contract of value. -/
theorem value_any {B b : Nat} {os : List Bool} {gs : List Int} (hgl : gs.length ≤ 100) (v : V) : ValR B b os gs v := by
  induction v using V.ind' with
  | h v ih =>
    intro ao cap ga gc w vn vo ns h hf hS hI hG
    by_cases h4 : v.kind = 4
    · have hl := cap_leaf hf h4
      have hfit := hI.now.fit
      obtain ⟨k, n, l⟩ := v
      simp only at h4 hl
      subst h4
      subst hl
      exact value_cap n ao cap gs ga gc w vn vo ns h hfit.2 hG hgl
    · exact value_other v ih h4 ao cap ga gc w vn vo ns h hf hS hI hG
end Go.Proofs.Ytclkaamcoicgcae
