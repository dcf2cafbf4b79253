/- Parts. -/
import Derived.Test.YtkpckmcaeljocaaGreatUP1
import Derived.Defers
import Derived.Recover
namespace Go.Proofs.YtkpckmcaeljocaaGreat
open Go.ChangeShapes Go.WideShapes Go.ChangeAt Go.RowKit
open Gr (Nd Res nd0 thereB deriveOf addOf rightsN wayOf gatesOf gatesW targetOf Wf NdOk GS Goes Own StepP IntsAt)
theorem ta_nil (w : World) : (Instr.typeAssert .nilIface 20 251 true).run Tryz.prog w = .ok (.tuple #[.int .i64 0, .bool false]) w := by kernel_rfl
theorem ta_hit (c : Int) (w : World) : (Instr.typeAssert (.iface 251 (.int .i64 c)) 20 251 true).run Tryz.prog w = .ok (.tuple #[.int .i64 c, .bool true]) w := by kernel_rfl
theorem catch_idle (p : Addr) (w : World) :
    CallsD Tryz.prog 187 #[.pointer (some p)] .returning w fun e u' w' => e = .returned (.tuple #[]) ∧ u' = .returning ∧ w' = w := by
  refine callsD_of_wpS Tryz.func187 rfl fun c₀ cs hu => ?_
  apply wpS_seq
  apply wpS_region
  simp [wpOpsS, go_sem, recoverD, hu, Tryz.ntmps187, Exit.thenS, ta_nil]
  apply wpS_seq
  apply wpS_region
  simp [wpOpsS, go_sem, Exit.thenS]
  refine wpS_cond (t := false) (by simp [Act.eval, Array.replicate]) ?_
  simp only [Bool.false_eq_true, if_false]
  refine wpS_of_wp (wp_skip ?_)
  cases c₀
  simp_all [bodyPostS, results, Tryz.results187]
theorem one_box {w : World} {x : Nat} {a : Value} {t : TypeId} (h : w.heap[x]? = some (.cells #[a] t (0, 0))) : w.cell? ⟨x, 0, none⟩ = some a ∧ w.frozen? ⟨x, 0, none⟩ = false := ⟨by simp [World.cell?, h], frozen_of_row w x 0 _ t h⟩
theorem catch_panicking (p : Nat) (x : Value) (c : Int) (t : TypeId) (older : List PanicEntry) (w : World) (hb : w.heap[p]? = some (.cells #[x] t (0, 0))) :
    CallsD Tryz.prog 187 #[.pointer (some ⟨p, 0, none⟩)] (.panicking ({ v := .iface 251 (.int .i64 c), recovered := false } :: older)) w fun e u' w' =>
      e = .returned (.tuple #[]) ∧ u' = .panicking ({ v := .iface 251 (.int .i64 c), recovered := true } :: older) ∧ w' = w.setCell ⟨p, 0, none⟩ (.int .i64 c) := by
  have hlt := lt_of_block hb
  obtain ⟨c0, hf⟩ := one_box hb
  clear hb
  refine callsD_of_wpS Tryz.func187 rfl fun c₀ cs hu => ?_
  apply wpS_seq
  apply wpS_region
  simp [wpOpsS, go_sem, recoverD, hu, Tryz.ntmps187, Exit.thenS, ta_hit]
  apply wpS_seq
  apply wpS_region
  simp [wpOpsS, go_sem, Exit.thenS]
  refine wpS_cond (t := true) (by simp [Act.eval, Array.replicate]) ?_
  simp only [if_true]
  apply wpS_region
  simp [wpOpsS, go_sem, c0, hf, bodyPostS, results, Tryz.results187]
theorem handed_bad (os : List Bool) (gs : List Int) (v : V) (ns : List Nd) (h : (v.handed os gs ns).2.1 ≠ 0) : (v.handed os gs ns).1 = v0 := by
  rw [handed_eq] at h ⊢
  split at h
  · rename_i h1
    rw [if_pos h1]
    split at h
    · exact absurd rfl h
    · rename_i h2
      rw [if_neg h2]
  · rename_i h1
    rw [if_neg h1]
theorem four_new (w : World) (o1 o2 o3 o4 : Obj) : ((((w.alloc o1).alloc o2).alloc o3).alloc o4).heap[w.heap.size]? = some o1 ∧ ((((w.alloc o1).alloc o2).alloc o3).alloc o4).heap[w.heap.size + 1]? = some o2 ∧ ((((w.alloc o1).alloc o2).alloc o3).alloc o4).heap[w.heap.size + 1 + 1]? = some o3 ∧ ((((w.alloc o1).alloc o2).alloc o3).alloc o4).heap[w.heap.size + 1 + 1 + 1]? = some o4 := by
  obtain ⟨h1, h2, h3⟩ := three_new w o1 o2 o3
  refine ⟨?_, ?_, ?_, ?_⟩
  · rw [Below.heap_alloc _ _ _ (lt_of_block h1)]; exact h1
  · rw [Below.heap_alloc _ _ _ (lt_of_block h2)]; exact h2
  · rw [Below.heap_alloc _ _ _ (lt_of_block h3)]; exact h3
  · have := heap_alloc_new (((w.alloc o1).alloc o2).alloc o3) o4
    simpa using this
set_option maxRecDepth 8000 in
set_option maxHeartbeats 4000000 in
theorem move_any {B b : Nat} {os : List Bool} {gs : List Int} (hgl : gs.length ≤ 100) (v : V) (ao : Option Addr) (cap : Nat) (ga : Option Addr) (gc : Nat) (w : World) (vn vo : Value) (ns : List Nd) (h : GS 101 B w b vn vo ns os) (hf : v.fault = 0) (hS : v.size ≤ 500)
    (hI : SafeF (Own b vn vo) (fun w => Is w v ao) w) (hG : SafeF (Own b vn vo) (fun w => IntsAt w ga gs) w) :
    Calls Tryz.prog 184 #[.agg #[.pointer (some ⟨b, 0, none⟩), .slice ga gs.length gc], .agg #[.int .i64 v.kind, .int .i64 v.n, .slice ao v.l.length cap]] w fun e w' => HandQ 101 B b vn vo (v.handed os gs ns) os w e w' := by
  have hmf : ∀ (fn : Fn) (first cap : Array Value) (w : World), (Instr.makeFunc fn first cap).run Tryz.prog w = .ok (.func fn first cap) w := fun _ _ _ _ => rfl
  obtain ⟨W, hW⟩ : ∃ W, W = (((w.alloc (.cells #[.pointer (some ⟨b, 0, none⟩), .slice ga gs.length gc] 249)).alloc (.cells #[.int .i64 v.kind, .int .i64 v.n, .slice ao v.l.length cap] 38)).alloc (.cells #[.int .i64 0, .int .i64 0, .slice none 0 0] 38)).alloc (.cells #[.int .i64 0] 3) := ⟨_, rfl⟩
  have qW : Quiet w W := by rw [hW]; exact (((Kp.alloc _ _).trans (Kp.alloc _ _)).trans (Kp.alloc _ _)).trans (Kp.alloc _ _)
  have hB4 := four_new w (.cells #[.pointer (some ⟨b, 0, none⟩), .slice ga gs.length gc] 249) (.cells #[.int .i64 v.kind, .int .i64 v.n, .slice ao v.l.length cap] 38) (.cells #[.int .i64 0, .int .i64 0, .slice none 0 0] 38) (.cells #[.int .i64 0] 3)
  rw [← hW] at hB4
  have hfree := fun k (hk : w.heap.size ≤ k) => h.free_new k hk
  have HBX := hid (fun (w' : World) (vn' vo' : Value) (g : Goes b vn vo W vn' vo' w') => And.intro (g.block hB4.2.2.1 (hfree _ (by omega))) (g.block hB4.2.2.2 (hfree _ (by omega))))
  have HV := hid (value_any hgl v ao cap ga gc W vn vo ns (h.quiet qW) hf hS (safe_quiet hI qW) (safe_quiet hG qW))
  have HB := hid (handed_bad os gs v ns)
  have HW := hid (And.intro hW qW)
  have hsW : w.heap.size + 4 ≤ W.heap.size := by rw [hW]; simp
  unfold ValQ at HV
  clear h hf hS hI hG qW hB4 hfree
  generalize v.handed os gs ns = R at *
  obtain ⟨y, c, ns'⟩ := R
  simp only at HV HB
  by_cases hc : c = 0
  · subst hc
    simp only [if_true] at HV
    rw [hW] at HV
    clear hW
    go_enter_defers Tryz.func184, Tryz.ntmps184
    go_wp2_with (go_at_call 188; refine HV.out.mono ?_; rintro e w5 ⟨a, cp, vn', vo', rfl, hs5, hg5, go5⟩; rw [← HW.out.1] at hs5 go5; have HX := hid (HBX.out _ _ _ go5); obtain ⟨d0, d1, d2⟩ := box_cells HX.out.1.1; obtain ⟨f0, f1, f2⟩ := box_free3 HX.out.1.1; obtain ⟨c0, f3⟩ := one_box HX.out.2.1; have hz1 := lt_of_block HX.out.1.1; have hz2 := lt_of_block HX.out.2.1; have HS := hid (And.intro hs5 (And.intro hg5 go5)); clear hs5 hg5 go5)
    refine leaves_cons (f := 187) (args := #[.pointer (some ⟨w.heap.size + 1 + 1 + 1, 0, none⟩)]) (by simp) (by simp [go_sem]) ?_
    refine (catch_idle _ _).mono ?_
    rintro e' u' w'' ⟨rfl, rfl, rfl⟩
    have hk := ((three_set w5 (w.heap.size + 1 + 1) (.int .i64 y.kind) (.int .i64 y.n) (.slice a y.l.length cp)).mono fun k _ e => (Or.inl e : k = w.heap.size + 1 + 1 ∨ k = w.heap.size + 1 + 1 + 1)).trans ((kp_set _ (w.heap.size + 1 + 1 + 1) 0 (.int .i64 0)).mono fun k _ e => .inr e)
    have HK := hid hk
    clear hk
    simp [Leaves, settle, results, Tryz.results184, go_sem, d0, d1, d2, c0]
    refine handQ_mk (vn' := vn') (vo' := vo') (x := y) (c := 0) a cp (ns' := ns') rfl rfl ?_ ?_ ?_
    · refine HS.out.1.step (HK.out.mono fun k _ e => .inr (by omega)) fun k _ e => ?_
      rcases e with e | e
      · exact .inl e
      · exact .inr (by omega)
    · refine HS.out.2.1.kept HK.out fun k hk e => ?_
      rcases e with e | e
      · exact HX.out.1.2 (e ▸ hk)
      · exact HX.out.2.2 (e ▸ hk)
    · exact (HS.out.2.2.after HW.out.2).fresh (HK.out.mono fun k _ e => by omega)
  · simp only [hc, if_false] at HV
    obtain rfl := HB.out hc
    rw [hW] at HV
    clear hW
    go_enter_defers Tryz.func184, Tryz.ntmps184
    go_wp2_with (go_at_call 188; refine HV.out.mono ?_; rintro e w5 ⟨vn', vo', rfl, hg5, go5⟩; rw [← HW.out.1] at go5)
    have HX := HBX.out _ _ _ go5
    refine leaves_cons (f := 187) (args := #[.pointer (some ⟨w.heap.size + 1 + 1 + 1, 0, none⟩)]) (by simp) (by simp [go_sem]) ?_
    refine (catch_panicking (w.heap.size + 1 + 1 + 1) _ c 3 [] _ HX.2.1).mono ?_
    rintro e' u' w'' ⟨rfl, rfl, rfl⟩
    obtain ⟨d0, d1, d2⟩ := box_cells HX.1.1
    obtain ⟨c0, f3⟩ := one_box HX.2.1
    simp [Leaves, settle, results, Tryz.results184, go_sem, d0, d1, d2, c0]
    refine handQ_mk (vn' := vn') (vo' := vo') (x := v0) (c := c) none 0 (ns' := ns') rfl rfl (safe_leaf v0 v0_fits rfl none) ?_ ?_
    · exact hg5.kept (kp_set _ _ _ _) fun k hk e => HX.2.2 (e ▸ hk)
    · exact (go5.after HW.out.2).fresh ((kp_set _ (w.heap.size + 1 + 1 + 1) 0 _).mono fun k _ e => by omega)
set_option maxRecDepth 8000 in
set_option maxHeartbeats 4000000 in
theorem across_c : AcrossC := by
  intro B b os gs v ao cap ga gc w vn vo ns h hw hS hgl hI hG
  obtain ⟨W, hW⟩ : ∃ W, W = (w.alloc (.cells #[.int .i64 v.kind, .int .i64 v.n, .slice ao v.l.length cap] 38)).alloc (.cells #[.int .i64 0, .int .i64 0, .slice none 0 0] 38) := ⟨_, rfl⟩
  have qW : Quiet w W := by rw [hW]; exact (Kp.alloc _ _).trans (Kp.alloc _ _)
  have b0 : W.heap[w.heap.size]? = some (.cells #[.int .i64 v.kind, .int .i64 v.n, .slice ao v.l.length cap] 38 (0, 0)) := by rw [hW, Below.heap_alloc _ _ _ (by simp)]; exact heap_alloc_new w _
  have b1 : W.heap[w.heap.size + 1]? = some (.cells #[.int .i64 0, .int .i64 0, .slice none 0 0] 38 (0, 0)) := by rw [hW]; exact heap_two w _ _
  have HM := hid (may_c B b os v ao cap W vn vo ns (h.quiet qW) hw (hI.now.quiet qW) hS)
  have HH := hid (fun (w' : World) (q : Quiet W w') (hf : v.fault = 0) => move_any (B := B) (b := b) (os := os) hgl v ao cap ga gc w' vn vo ns (h.quiet (qW.trans q)) hf hS (safe_quiet hI (qW.trans q)) (safe_quiet hG (qW.trans q)))
  have HF := hid (And.intro h (fun k (hk : w.heap.size ≤ k) => h.free_new k hk))
  have HW := hid (And.intro hW (And.intro qW (And.intro b0 b1)))
  rw [hW] at HM
  by_cases hm : mayOf ns os v = 0
  · have HP := hid (show passedOf ns os gs v = v.handed os gs ns by unfold passedOf; rw [if_pos hm])
    have hfa := check_fault (may_fault hm)
    rw [hm] at HM
    clear h hI hG qW b0 b1 hW hm
    go_enter Tryz.func180, Tryz.ntmps180
    go_wp2_with (first
      | (go_at_call 184; refine (HH.out _ ((Q2.out.trans (Kp.alloc _ (.cells #[.pointer (some ⟨b, 0, none⟩), .slice ga gs.length gc] 249)))) hfa).mono ?_)
      | (go_at_call 183; refine HM.out.mono ?_; rintro e w2 ⟨rfl, q2⟩; rw [← HW.out.1] at q2; obtain ⟨z0, z1, z2⟩ := box_cells ((q2.block _ (lt_of_block HW.out.2.2.1) fun e => e).trans HW.out.2.2.1); have y0 := cell_on z0; have y1 := cell_on z1; have y2 := cell_on z2; have Q2 := hid q2; clear q2))
    rintro e w3 ⟨a, c, vn', vo', he, hs, hg, hgo⟩
    subst he
    have qx : Quiet W (w2.alloc (.cells #[.pointer (some ⟨b, 0, none⟩), .slice ga gs.length gc] 249)) := Q2.out.trans (Kp.alloc _ _)
    have hno : ¬ Own b vn vo (w.heap.size + 1) := HF.out.2 _ (by omega)
    have hb2 := (qx.block _ (lt_of_block HW.out.2.2.2) fun e => e).trans HW.out.2.2.2
    have hX := hgo.block hb2 hno
    obtain ⟨m0, m1, m2⟩ := box_cells hX.1
    obtain ⟨f0, f1, f2⟩ := box_free3 hX.1
    have hz := lt_of_block hX.1
    have hlx := lt_of_block hb2
    rw [← HP.out] at hs hg ⊢
    obtain ⟨y, cd, nsr, hR⟩ : ∃ y cd nsr, passedOf ns os gs v = (y, cd, nsr) := ⟨_, _, _, rfl⟩
    rw [hR] at hs hg ⊢
    simp only at hs hg ⊢
    have HR := hid hR
    clear hR
    have HS := hid (And.intro hs (And.intro hg (And.intro hgo (And.intro hX.2 (And.intro qx (And.intro hlx qx.size))))))
    clear hs hg hgo hX hb2 qx hlx
    go_wp2
    refine bodyPost_ret (v := .tuple #[.agg #[.int .i64 y.kind, .int .i64 y.n, .slice a y.l.length c], .int .i64 cd]) (by simp [results, Tryz.results180, go_sem, m0, m1, m2]) rfl ?_
    have hsW := HW.out.2.1.size
    have hsX := HS.out.2.2.2.2.2.2
    have hsY := HS.out.2.2.2.2.2.1
    refine handQ_mk (vn' := vn') (vo' := vo') (x := y) (c := cd) a c (ns' := nsr) HR.out rfl ?_ ?_ ?_
    · refine (HS.out.1.step (three_set _ _ _ _ _ |>.mono fun k _ e => ?_) fun k _ e => ?_)
      · right; rw [e]; exact hsY
      · rcases e with e | e
        · exact .inl e
        · exact .inr (Nat.lt_of_lt_of_le e (Nat.le_trans hsW hsX))
    · exact HS.out.2.1.kept (three_set _ _ _ _ _) fun k hk e => HS.out.2.2.2.1 (e ▸ hk)
    · exact (HS.out.2.2.1.after (HW.out.2.1.trans HS.out.2.2.2.2.1)).fresh ((three_set _ _ _ _ _).mono fun k _ e => by omega)
  · have HP := hid (show passedOf ns os gs v = (v0, mayOf ns os v, ns) by unfold passedOf; rw [if_neg hm])
    have hmb : (mayOf ns os v != 0) = true := by simpa using hm
    generalize mayOf ns os v = cd at *
    clear h hI hG qW b0 b1 hW hm HH
    go_enter Tryz.func180, Tryz.ntmps180
    go_wp2_with (go_at_call 183; refine HM.out.mono ?_; rintro e w2 ⟨rfl, q2⟩; rw [← HW.out.1] at q2; have hb2 := (q2.block _ (lt_of_block HW.out.2.2.2) fun e => e).trans HW.out.2.2.2; obtain ⟨m0, m1, m2⟩ := box_cells hb2; obtain ⟨f0, f1, f2⟩ := box_free3 hb2; have hz := lt_of_block hb2; clear hb2)
    refine bodyPost_ret (v := .tuple #[.agg #[.int .i64 0, .int .i64 0, .slice none 0 0], .int .i64 cd]) (by simp [results, Tryz.results180, go_sem, m0, m1, m2]) rfl ?_
    have q := HW.out.2.1.trans q2
    refine handQ_mk (vn' := vn) (vo' := vo) (x := v0) (c := cd) none 0 (ns' := ns) HP.out rfl (safe_leaf v0 v0_fits rfl none) ?_ ?_
    · exact (HF.out.1.quiet q).kept (three_set _ _ _ _ _) fun k hk e => HF.out.2 _ (by omega) (e ▸ hk)
    · exact (Goes.quiet _ _ _ q).fresh ((three_set _ _ _ _ _).mono fun k _ e => by omega)
end Go.Proofs.YtkpckmcaeljocaaGreat
