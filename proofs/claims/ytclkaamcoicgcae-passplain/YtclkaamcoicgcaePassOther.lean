/- The document's own answer: a value whose capabilities are through gates: what has parts. -/
import Derived.Test.YtclkaamcoicgcaePassHand
namespace Go.Proofs.Ytclkaamcoicgcae
open Go.ChangeShapes Go.WideShapes Go.ChangeAt Go.RowKit
open Gr (Nd Res nd0 thereB deriveOf addOf rightsN wayOf gatesOf gatesW targetOf Wf NdOk GS Goes Own StepP IntsAt)
/-- What is told of handed. -/
def HandR (B b : Nat) (ss : List Bool) (gs : List Int) (v : V) : Prop := ∀ (ao : Option Addr) (cap : Nat) (ga : Option Addr) (gc : Nat) (w : World) (vn vo : Value) (ns : List Nd), GS 45 B w b vn vo ns ss → v.fault = 0 → v.size ≤ 500 →
    SafeF (Own b vn vo) (fun w => Is w v ao) w → SafeF (Own b vn vo) (fun w => IntsAt w ga gs) w →
    Calls Try.prog 37 #[.pointer (some ⟨b, 0, none⟩), .agg #[.int .i64 v.kind, .int .i64 v.n, .slice ao v.l.length cap], .slice ga gs.length gc] w fun e w' => HandQ 45 B b vn vo (v.handed ss gs ns) ss w e w'
/-- The state of the loop over the parts. -/
structure HS (t : TypeId) (B b : Nat) (ss : List Bool) (gs : List Int) (ns0 : List Nd) (w : World) (vn vo : Value) (v : V) (ao : Option Addr) (cap j : Nat) (vn' vo' : Value) (nsr : List Nd) (av : Option Addr) (n cv : Nat) (ps : List Kd) (wr : World) : Prop where
  obj : GS t B wr b vn' vo' nsr ss
  goes : Goes b vn vo w vn' vo' wr
  b0 : wr.heap[w.heap.size]? = some (.cells #[.int .i64 v.kind, .int .i64 v.n, .slice ao v.l.length cap] 25 (0, 0))
  b1 : wr.heap[w.heap.size + 1]? = some (.cells #[.int .i64 0, .int .i64 0, .slice none 0 0] 25 (0, 0))
  b2 : wr.heap[w.heap.size + 1 + 1]? = some (.cells #[.int .i64 v.kind, .int .i64 v.n, .slice av n cv] 25 (0, 0))
  row : wr.ownsRow (w.heap.size + 3) 25 3 (.slice av n cv) n (tris ps)
  len : n = ps.length
  all : ∀ p ∈ ps, SafeF (fun k => Own b vn' vo' k ∨ k < w.heap.size + 3 ∨ (Value.slice av n cv).ownBlock = some k) (fun w => Is w p.1 p.2.1) wr
  map : handeds ss gs (v.l.take j) ns0 = (ps.map (·.1), 0, nsr)
theorem cell_on {w : World} {a : Addr} {x : Value} (h : w.cell? a = some x) (o : Obj) : (w.alloc o).cell? a = some x := (Kp.alloc (F := fun _ => False) w o).cell h fun e => e
theorem row_box {w : World} {B : Nat} {e : TypeId} {s n : Nat} {v : Value} {xs : List Value} (h : w.ownsRow B e s v n xs) {k : Nat} (hk : v.ownBlock = some k) : ∃ c, w.heap[k]? = some (.cells c e (0, 0)) := by
  rcases h.2 with ⟨rfl, _⟩ | ⟨g, cap, cur, rfl, _, hg, _⟩
  · simp [Value.ownBlock] at hk
  · simp [Value.ownBlock] at hk; subst hk; exact ⟨cur, hg⟩
section
variable {B b : Nat} {ss : List Bool} {gs : List Int} {ns0 : List Nd} {w : World} {vn vo : Value} {v : V} {ao : Option Addr} {cap j : Nat} {vn' vo' : Value} {nsr : List Nd} {av : Option Addr} {n cv : Nat} {ps : List Kd} {wr : World}
theorem HS.lt (H : HS 45 B b ss gs ns0 w vn vo v ao cap j vn' vo' nsr av n cv ps wr) : w.heap.size + 3 ≤ wr.heap.size := by have := lt_of_block H.b2; omega
theorem HS.step {w3 w6 : World} {vn2 vo2 : Value} {ns2 : List Nd} {y : V} {a : Option Addr} {c g cap2 : Nat} {o1 o2 : Obj} {x : V} (H : HS 45 B b ss gs ns0 w vn vo v ao cap j vn' vo' nsr av n cv ps wr) (hj : j < v.l.length) (hx : v.l[j] = x) (hR : x.handed ss gs nsr = (y, 0, ns2))
    (hs : SafeF (fun k => Own b vn2 vo2 k ∨ k < wr.heap.size) (fun w => Is w y a) w3) (hg3 : GS 45 B w3 b vn2 vo2 ns2 ss) (go3 : Goes b vn' vo' wr vn2 vo2 w3)
    (hr : w6.ownsRow (w.heap.size + 3) 25 3 (.slice (some ⟨g, 0, none⟩) (n + 1) cap2) (n + 1) (tris ps ++ tri (y, a, c))) (hg : ((w3.alloc o1).alloc o2).grownBy w6 (Value.slice av n cv).ownBlock) (hat : (Value.slice av n cv).ownBlock = some g ∨ g = w3.heap.size + 1 + 1) :
    (w6.cell? ⟨w.heap.size + 1 + 1, 2, none⟩ = some (.slice av n cv) ∧ w6.frozen? ⟨w.heap.size + 1 + 1, 2, none⟩ = false ∧ w.heap.size + 1 + 1 < w6.heap.size) ∧ HS 45 B b ss gs ns0 w vn vo v ao cap (j + 1) vn2 vo2 ns2 (some ⟨g, 0, none⟩) (n + 1) cap2 (ps ++ [(y, a, c)]) (w6.setCell ⟨w.heap.size + 1 + 1, 2, none⟩ (.slice (some ⟨g, 0, none⟩) (n + 1) cap2)) := by
  have hlt := H.lt
  have hrb : ∀ k, (Value.slice av n cv).ownBlock = some k → w.heap.size + 3 ≤ k ∧ k < wr.heap.size := fun k e => H.row.lt k e
  have h13 : wr.heap.size ≤ w3.heap.size := go3.kp.size
  have nb : ∀ k c, wr.heap[k]? = some (.cells c 25 (0, 0)) → ¬ Own b vn' vo' k := fun k c hk => H.obj.free_type hk (by decide) (by decide) (by decide)
  have B0 := go3.block H.b0 (nb _ _ H.b0)
  have B1 := go3.block H.b1 (nb _ _ H.b1)
  have B2 := go3.block H.b2 (nb _ _ H.b2)
  have k36 : Kp (fun k => (Value.slice av n cv).ownBlock = some k) w3 w6 := ((Kp.alloc w3 o1).trans (Kp.alloc _ o2)).trans (Kp.grown hg fun k _ e => e.symm)
  have b26 : w6.heap[w.heap.size + 1 + 1]? = some (.cells #[.int .i64 v.kind, .int .i64 v.n, .slice av n cv] 25 (0, 0)) := (k36.block _ (lt_of_block B2.1) (fun e => by have := hrb _ e; omega)).trans B2.1
  have k67 := kp_set w6 (w.heap.size + 1 + 1) 2 (.slice (some ⟨g, 0, none⟩) (n + 1) cap2)
  have k37 : Kp (fun k => (Value.slice av n cv).ownBlock = some k ∨ k = w.heap.size + 1 + 1) w3 (w6.setCell ⟨w.heap.size + 1 + 1, 2, none⟩ (.slice (some ⟨g, 0, none⟩) (n + 1) cap2)) := (k36.mono fun k _ e => .inl e).trans (k67.mono fun k _ e => .inr e)
  have hgl : w.heap.size + 3 ≤ g := by
    rcases hat with e | e
    · exact (hrb g e).1
    · omega
  have nrow : ∀ k, Own b vn2 vo2 k → (Value.slice av n cv).ownBlock ≠ some k := by
    intro k hk e
    obtain ⟨c, hc⟩ := row_box H.row e
    exact (go3.block hc (nb _ _ hc)).2 hk
  refine ⟨⟨by simp [World.cell?, b26], frozen_of_row w6 _ 2 _ _ b26, lt_of_block b26⟩, ⟨?_, ?_, ?_, ?_, ?_, ?_, ?_, ?_, ?_⟩⟩
  · exact hg3.kept k37 fun k hk e => by
      rcases e with e | e
      · exact nrow k hk e
      · exact B2.2 (e ▸ hk)
  · exact (H.goes.trans go3).fresh (k37.mono fun k _ e => by
      rcases e with e | e
      · have := hrb k e; omega
      · omega)
  · exact (k37.block _ (lt_of_block B0.1) (by rintro (e | e); (have := hrb _ e; omega); omega)).trans B0.1
  · exact (k37.block _ (lt_of_block B1.1) (by rintro (e | e); (have := hrb _ e; omega); omega)).trans B1.1
  · simp [World.setCell, Array.getElem?_modify, b26]
  · rw [tris_app, tris_one]
    exact k67.row hr fun k e => by have := (hr.lt k e).1; omega
  · rw [List.length_append, H.len]; rfl
  · intro p hp
    rcases List.mem_append.1 hp with hp | hp
    · refine (H.all p hp).step ((go3.kp.mono fun k _ e => .inl e).trans (k37.mono fun k _ e => ?_)) fun k hk e => ?_
      · rcases e with e | e
        · exact .inr (.inr e)
        · exact .inr (.inl (by omega))
      · rcases e with e | e | e
        · rcases go3.own k e with e | e
          · exact .inl e
          · omega
        · exact .inr (.inl e)
        · simp [Value.ownBlock] at e
          subst e
          rcases hat with e | e
          · exact .inr (.inr e)
          · omega
    · simp at hp
      subst hp
      refine hs.step (k37.mono fun k _ e => ?_) fun k hk e => ?_
      · right
        rcases e with e | e
        · exact (hrb k e).2
        · omega
      · rcases e with e | e | e
        · exact .inl e
        · exact .inr (by omega)
        · simp [Value.ownBlock] at e
          subst e
          rcases hat with e | e
          · exact .inr (hrb _ e).2
          · omega
  · rw [handeds_take ss gs v.l ns0 j hj _ _ H.map, hx, hR]
    simp
theorem HS.done {w8 : World} (H : HS 45 B b ss gs ns0 w vn vo v ao cap j vn' vo' nsr av n cv ps wr) (hf : v.fits) (k8 : Kp (fun k => k = w.heap.size + 1) wr w8) :
    SafeF (fun k => Own b vn' vo' k ∨ k < w.heap.size) (fun w => Is w ⟨v.kind, v.n, ps.map (·.1)⟩ av) w8 ∧ GS 45 B w8 b vn' vo' nsr ss ∧ Goes b vn vo w vn' vo' w8 := by
  have nb : ∀ k c, wr.heap[k]? = some (.cells c 25 (0, 0)) → ¬ Own b vn' vo' k := fun k c hk => H.obj.free_type hk (by decide) (by decide) (by decide)
  refine ⟨fun w2 k2 => ⟨hf, ?_⟩, H.obj.kept k8 fun k hk e => nb _ _ H.b1 (e ▸ hk), H.goes.fresh (k8.mono fun k _ e => by omega)⟩
  have hr8 := k8.row H.row fun k e e2 => by have := (H.row.lt k e).1; omega
  have hr2 := k2.row hr8 fun k e e2 => by
    rcases e2 with e2 | e2
    · obtain ⟨c, hc⟩ := row_box H.row e
      exact nb _ _ hc e2
    · have := (H.row.lt k e).1; omega
  refine fo_row (B := w.heap.size + 3) hr2 H.len fun p hp => ?_
  exact ((H.all p hp).step (F' := fun k => Own b vn' vo' k ∨ k < w.heap.size) (k8.mono fun k _ e => .inr (.inl (by omega))) fun k _ e => by
    rcases e with e | e
    · exact .inl e
    · exact .inr (.inl (by omega))) w2 k2
end
set_option maxRecDepth 8000 in
set_option maxHeartbeats 8000000 in
theorem hand_other {B b : Nat} {ss : List Bool} {gs : List Int} (v : V) (ih : ∀ x ∈ v.l, HandR B b ss gs x) (hk4 : v.kind ≠ 4) (ao : Option Addr) (cap : Nat) (ga : Option Addr) (gc : Nat) (w : World) (vn vo : Value) (ns : List Nd) (h : GS 45 B w b vn vo ns ss) (hf : v.fault = 0) (hS : v.size ≤ 500)
    (hI : SafeF (Own b vn vo) (fun w => Is w v ao) w) (hG : SafeF (Own b vn vo) (fun w => IntsAt w ga gs) w) :
    Calls Try.prog 37 #[.pointer (some ⟨b, 0, none⟩), .agg #[.int .i64 v.kind, .int .i64 v.n, .slice ao v.l.length cap], .slice ga gs.length gc] w fun e w' => HandQ 45 B b vn vo (v.handed ss gs ns) ss w e w' := by
  obtain ⟨i0, hi0, hz0, hz1, hz2⟩ := info_parts' Try.infoV
  have hfit := hI.now.fit
  have hlen : v.l.length ≤ 500 := by have := sizes_len v.l; have := size_eq v; omega
  have hsz : ∀ j (h : j < v.l.length), v.l[j].size ≤ 500 := fun j h => by have := size_get v.l j h; have := size_eq v; omega
  obtain ⟨W, hW⟩ : ∃ W, W = ((w.alloc (.cells #[.int .i64 v.kind, .int .i64 v.n, .slice ao v.l.length cap] 25)).alloc (.cells #[.int .i64 0, .int .i64 0, .slice none 0 0] 25)).alloc (.cells #[.int .i64 v.kind, .int .i64 v.n, .slice none 0 0] 25) := ⟨_, rfl⟩
  have qW : Quiet w W := by rw [hW]; exact ((Kp.alloc _ _).trans (Kp.alloc _ _)).trans (Kp.alloc _ _)
  have hB3 := three_new w (.cells #[.int .i64 v.kind, .int .i64 v.n, .slice ao v.l.length cap] 25) (.cells #[.int .i64 0, .int .i64 0, .slice none 0 0] 25) (.cells #[.int .i64 v.kind, .int .i64 v.n, .slice none 0 0] 25)
  rw [← hW] at hB3
  have H0 : HS 45 B b ss gs ns w vn vo v ao cap 0 vn vo ns none 0 0 [] W := ⟨h.quiet qW, Goes.quiet _ _ _ qW, hB3.1, hB3.2.1, hB3.2.2, World.ownsRow_nil _ _ _ _, rfl, fun p hp => by simp at hp, by rw [List.take_zero, handeds_nil]; rfl⟩
  have HW := hid (And.intro hW H0)
  have HI := hid (And.intro hI (And.intro hG (And.intro ih (And.intro hsz (fun j (h : j < v.l.length) => fault_get hf j h)))))
  have HE := hid (handed_other ss gs ns hk4)
  have n4 : (v.kind == 4) = false := by simpa using hk4
  have hk5 : decide (v.kind = 4) = false := by simpa using hk4
  clear h hI hG ih hsz hf qW hB3 hW H0 hS
  go_enter Try.func37, Try.ntmps37
  go_wp2
  go_loopw [13] (fun i wr => ∃ (j : Nat) (vn' vo' : Value) (nsr : List Nd) (av : Option Addr) (cv : Nat) (ps : List Kd), j ≤ v.l.length ∧ i = .int .i64 j ∧ Hid (HS 45 B b ss gs ns w vn vo v ao cap j vn' vo' nsr av j cv ps wr)) (fun i _ => v.l.length - (intOf i).toNat)
  case atStart =>
    refine ⟨0, vn, vo, ns, none, 0, [], Nat.zero_le _, rfl, ?_⟩
    rw [← HW.out.1]; exact HW.out.2
  case round =>
    obtain ⟨j, vn', vo', nsr, av, cv, ps, hj, rfl, H⟩ := hrel
    obtain ⟨y0, y1, y2⟩ := box_cells H.out.b0
    obtain ⟨z0, z1, z2⟩ := box_cells H.out.b2
    have hlt3 := H.out.lt
    by_cases hlt : j < v.l.length
    · obtain ⟨bb, oo, ca, cc, rfl, _, ⟨⟨d0, d1⟩, ds⟩, hIx⟩ := (HI.out.1.goes H.out.goes).kid j hlt
      have hIG := HI.out.2.1.goes H.out.goes
      have HC := hid (HI.out.2.2.1 v.l[j] (List.getElem_mem hlt) ca cc ga gc wr vn' vo' nsr H.out.obj (HI.out.2.2.2.2 j hlt) (HI.out.2.2.2.1 j hlt) hIx hIG)
      have HT := hid (handeds_take ss gs v.l ns j hlt _ _ H.out.map)
      obtain ⟨x, hx⟩ : ∃ x, v.l[j] = x := ⟨_, rfl⟩
      rw [hx] at HC HT d0 d1 ds
      have HX := hid hx
      obtain ⟨y, c, ns2, hR⟩ : ∃ y c ns2, x.handed ss gs nsr = (y, c, ns2) := ⟨_, _, _, rfl⟩
      have HR := hid hR
      unfold HandQ at HC
      rw [hR] at HC HT
      simp only at HC HT
      clear hx hR hIx hIG
      by_cases hc : c = 0
      · subst hc
        go_wp2_with (first
          | (at_builtin; refine wpList_append_lies _ rfl (.tmp 72) (.tmp 74) 23 rfl (w.heap.size + 3) 25 i0 _ 3 40 Try.undV hi0 hz0 hz1 hz2 rfl (by decide) _ j (tris ps) rfl (Hrow.out.alloc _) ⟨w3.heap.size + 1, 0, none⟩ 1 1 (tri (y, a, cp)) rfl rfl (news_from (t := 25) (heap_two w3 _ _)) (tri_one _) (by decide) (by unfold maxLen; omega) (by omega) (by simp; omega) (w3.heap.size + 1 + 1) (by simp) ?_; intro g6 cap6 w6 hr6 hg6 hat hlt6; have hD := H.out.step hlt HX.out HR.out hs3.out hg3.out go3.out hr6 hg6 hat; have e1 := hD.1.1; have e2 := hD.1.2.1; have e3 := hD.1.2.2; have HD := hid hD.2; clear hr6 hg6 hat hlt6 hD)
          | (go_at_call 37; refine HC.out.mono ?_; rintro e w3 ⟨a, cp, vn2, vo2, rfl, hs3, hg3, go3⟩; have hz3 : wr.heap.size ≤ w3.heap.size := go3.kp.size; have Hrow := hid (show (w3.alloc (.cells #[.int .i64 y.kind, .int .i64 y.n, .slice a y.l.length cp] 25)).ownsRow (w.heap.size + 3) 25 3 (.slice av j cv) j (tris ps) from (go3.kp.row H.out.row (fun k e => by obtain ⟨c, hc⟩ := row_box H.out.row e; exact H.out.obj.free_type hc (by decide) (by decide) (by decide))).alloc _); obtain ⟨m0, m1, m2⟩ := box_cells (go3.block H.out.b2 (H.out.obj.free_type H.out.b2 (by decide) (by decide) (by decide))).1; have p2 := cell_on m2; have hs3 := hid hs3; have hg3 := hid hg3; have go3 := hid go3))
        exact ⟨⟨j + 1, vn2, vo2, ns2, _, _, _, by omega, by go_num, HD⟩, by simp [intOf]; omega⟩
      · have hcb : (c != 0) = true := by simpa using hc
        have HCN := hid hc
        clear hc
        go_wp2_with (go_at_call 37; refine HC.out.mono ?_; rintro e w3 ⟨a, cp, vn2, vo2, rfl, hs3, hg3, go3⟩; have hz3 : wr.heap.size ≤ w3.heap.size := go3.kp.size; have hB1 := go3.block H.out.b1 (H.out.obj.free_type H.out.b1 (by decide) (by decide) (by decide)); have hb4 := (Below.heap_alloc w3 (.cells #[.int .i64 y.kind, .int .i64 y.n, .slice a y.l.length cp] 25) _ (lt_of_block hB1.1)).trans hB1.1; obtain ⟨m0, m1, m2⟩ := box_cells hb4; obtain ⟨f0, f1, f2⟩ := box_free3 hb4; have hz4 := lt_of_block hb4; have HB1 := hid hB1.2; have hg3 := hid hg3; have go3 := hid (H.out.goes.trans go3); clear hs3 hB1 hb4)
        refine bodyPost_ret (v := .tuple #[.agg #[.int .i64 0, .int .i64 0, .slice none 0 0], .int .i64 c]) (by simp [results, Try.results37, go_sem, m0, m1, m2]) rfl ?_
        refine handQ_mk (vn' := vn2) (vo' := vo2) (x := v0) none 0 (ns' := ns2) ?_ rfl (safe_leaf v0 v0_fits rfl none) ?_ ?_
        · have h1 := HT.out
          rw [if_neg HCN.out] at h1
          rw [HE.out, handeds_stop ss gs v.l ns (j + 1) c ns2 HCN.out h1, if_neg HCN.out]
        · exact (hg3.out.quiet (Kp.alloc _ _)).kept (three_set _ _ _ _ _) fun k hk e => HB1.out (e ▸ hk)
        · exact (go3.out.fresh (Kp.alloc _ _)).fresh ((three_set _ _ _ _ _).mono fun k _ e => by omega)
    · have hjl : j = v.l.length := by omega
      subst hjl
      have hmap := H.out.map
      rw [List.take_length] at hmap
      have HMP := hid hmap
      obtain ⟨m0, m1, m2⟩ := box_cells H.out.b1
      obtain ⟨f0, f1, f2⟩ := box_free3 H.out.b1
      have HL := hid H.out.len
      clear hmap
      go_wp2
      refine bodyPost_ret (v := .tuple #[.agg #[.int .i64 v.kind, .int .i64 v.n, .slice av v.l.length cv], .int .i64 0]) (by simp [results, Try.results37, go_sem, m0, m1, m2]) rfl ?_
      have hD := H.out.done (w8 := _) hfit (three_set wr (w.heap.size + 1) (.int .i64 v.kind) (.int .i64 v.n) (.slice av v.l.length cv))
      refine handQ_mk (vn' := vn') (vo' := vo') (x := ⟨v.kind, v.n, ps.map (·.1)⟩) (c := 0) av cv (ns' := nsr) ?_ ?_ hD.1 hD.2.1 hD.2.2
      · rw [HE.out, HMP.out]; simp
      · rw [List.length_map, ← HL.out]
/-- The contract of the document's handed. -/
theorem handR_any {B b : Nat} {ss : List Bool} {gs : List Int} (hgl : gs.length ≤ 100) (v : V) : HandR B b ss gs v := by
  induction v using V.ind' with
  | h v ih =>
    intro ao cap ga gc w vn vo ns h hf hS hI hG
    by_cases h4 : v.kind = 4
    · have hl := cap_leaf hf h4
      have hfit := hI.now.fit
      obtain ⟨k, n, l⟩ := v
      simp only at h4 hl
      subst h4
      subst hl
      exact hand_cap n ao cap gs ga gc w vn vo ns h hfit.2 hG hgl
    · exact hand_other v ih h4 ao cap ga gc w vn vo ns h hf hS hI hG
end Go.Proofs.Ytclkaamcoicgcae
