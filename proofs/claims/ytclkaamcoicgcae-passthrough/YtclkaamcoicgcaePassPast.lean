/- The document's own answer: what is handed on, or why it may not be. -/
import Derived.Test.YtclkaamcoicgcaePassOther
namespace Go.Proofs.Ytclkaamcoicgcae
open Go.ChangeShapes Go.WideShapes Go.ChangeAt Go.RowKit
open Gr (Nd Res nd0 thereB deriveOf addOf rightsN wayOf gatesOf gatesW targetOf Wf NdOk GS Goes Own StepP IntsAt)
theorem may_fault {ns : List Nd} {os : List Bool} {v : V} (h : mayOf ns os v = 0) : v.check = 0 := by
  unfold mayOf at h
  by_cases h1 : v.check = 0
  · exact h1
  · rw [if_neg h1] at h; exact absurd h h1
theorem safe_quiet {F : Nat → Prop} {P : World → Prop} {w w' : World} (h : SafeF F P w) (q : Quiet w w') : SafeF F P w' := h.step (q.mono fun _ _ e => e.elim) fun _ _ e => e
set_option maxRecDepth 8000 in
set_option maxHeartbeats 4000000 in
theorem npassed_any {B b : Nat} {os : List Bool} {gs : List Int} (hgl : gs.length ≤ 100) (v : V) (ao : Option Addr) (cap : Nat) (ga : Option Addr) (gc : Nat) (w : World) (vn vo : Value) (ns : List Nd) (h : GS 45 B w b vn vo ns (os.map (! ·))) (hw : Wf ns os.length) (hS : v.size ≤ 500)
    (hI : SafeF (Own b vn vo) (fun w => Is w v ao) w) (hG : SafeF (Own b vn vo) (fun w => IntsAt w ga gs) w) :
    Calls Try.prog 13 #[.pointer (some ⟨b, 0, none⟩), .agg #[.int .i64 v.kind, .int .i64 v.n, .slice ao v.l.length cap], .slice ga gs.length gc] w fun e w' => HandQ 45 B b vn vo (passedOf ns os gs v) (os.map (! ·)) w e w' := by
  obtain ⟨W, hW⟩ : ∃ W, W = (w.alloc (.cells #[.int .i64 v.kind, .int .i64 v.n, .slice ao v.l.length cap] 25)).alloc (.cells #[.int .i64 0, .int .i64 0, .slice none 0 0] 25) := ⟨_, rfl⟩
  have qW : Quiet w W := by rw [hW]; exact (Kp.alloc _ _).trans (Kp.alloc _ _)
  have b0 : W.heap[w.heap.size]? = some (.cells #[.int .i64 v.kind, .int .i64 v.n, .slice ao v.l.length cap] 25 (0, 0)) := by rw [hW, Below.heap_alloc _ _ _ (by simp)]; exact heap_alloc_new w _
  have b1 : W.heap[w.heap.size + 1]? = some (.cells #[.int .i64 0, .int .i64 0, .slice none 0 0] 25 (0, 0)) := by rw [hW]; exact heap_two w _ _
  have hlen : (os.map (! ·)).length = os.length := by simp
  have HM := hid (nmay_any (h.quiet qW) hw v ao cap (hI.now.quiet qW) hS)
  have HH := hid (fun (w' : World) (q : Quiet W w') (hf : v.fault = 0) => handR_any (B := B) (b := b) (ss := os.map (! ·)) hgl v ao cap ga gc w' vn vo ns (h.quiet (qW.trans q)) hf hS (safe_quiet hI (qW.trans q)) (safe_quiet hG (qW.trans q)))
  have HF := hid (And.intro h (fun k (hk : w.heap.size ≤ k) => h.free_new k hk))
  have HE := hid (handed_len (os := os.map (! ·)) (os' := os) hlen gs v ns)
  have HW := hid (And.intro hW (And.intro qW (And.intro b0 b1)))
  rw [hW] at HM
  by_cases hm : mayOf ns os v = 0
  · have HP := hid (show passedOf ns os gs v = v.handed os gs ns by unfold passedOf; rw [if_pos hm])
    have hfa := check_fault (may_fault hm)
    rw [hm] at HM
    clear h hI hG qW b0 b1 hW hm
    go_enter Try.func13, Try.ntmps13
    go_wp2_with (first
      | (go_at_call 37; refine (HH.out w2 q2 hfa).mono ?_)
      | (go_at_call 11; refine HM.out.mono ?_; rintro e w2 ⟨rfl, q2⟩; rw [← HW.out.1] at q2; obtain ⟨z0, z1, z2⟩ := box_cells ((q2.block _ (lt_of_block HW.out.2.2.1) fun e => e).trans HW.out.2.2.1)))
    rintro e w3 ⟨a, c, vn', vo', he, hs, hg, hgo⟩
    subst he
    have hno : ¬ Own b vn vo (w.heap.size + 1) := HF.out.2 _ (by omega)
    have hb2 := (q2.block _ (lt_of_block HW.out.2.2.2) fun e => e).trans HW.out.2.2.2
    have hX := hgo.block hb2 hno
    obtain ⟨m0, m1, m2⟩ := box_cells hX.1
    obtain ⟨f0, f1, f2⟩ := box_free3 hX.1
    have hz := lt_of_block hX.1
    rw [HE.out, ← HP.out] at hs hg ⊢
    obtain ⟨y, cd, nsr, hR⟩ : ∃ y cd nsr, passedOf ns os gs v = (y, cd, nsr) := ⟨_, _, _, rfl⟩
    rw [hR] at hs hg ⊢
    simp only at hs hg ⊢
    have HR := hid hR
    clear hR
    have HS := hid (And.intro hs (And.intro hg (And.intro hgo hX.2)))
    clear hs hg hgo hX hb2
    go_wp2
    refine bodyPost_ret (v := .tuple #[.agg #[.int .i64 y.kind, .int .i64 y.n, .slice a y.l.length c], .int .i64 cd]) (by simp [results, Try.results13, go_sem, m0, m1, m2]) rfl ?_
    have hsW := HW.out.2.1.size
    have hs2 := q2.size
    refine handQ_mk (vn' := vn') (vo' := vo') (x := y) (c := cd) a c (ns' := nsr) HR.out rfl ?_ ?_ ?_
    · refine (HS.out.1.step (three_set _ _ _ _ _ |>.mono fun k _ e => ?_) fun k _ e => ?_)
      · right; have := lt_of_block HW.out.2.2.2; omega
      · rcases e with e | e
        · exact .inl e
        · exact .inr (by omega)
    · exact HS.out.2.1.kept (three_set _ _ _ _ _) fun k hk e => HS.out.2.2.2 (e ▸ hk)
    · exact (HS.out.2.2.1.after (HW.out.2.1.trans q2)).fresh ((three_set _ _ _ _ _).mono fun k _ e => by omega)
  · have HP := hid (show passedOf ns os gs v = (v0, mayOf ns os v, ns) by unfold passedOf; rw [if_neg hm])
    have hmb : (mayOf ns os v != 0) = true := by simpa using hm
    generalize mayOf ns os v = cd at *
    clear h hI hG qW b0 b1 hW hm HH HE
    go_enter Try.func13, Try.ntmps13
    go_wp2_with (go_at_call 11; refine HM.out.mono ?_; rintro e w2 ⟨rfl, q2⟩; rw [← HW.out.1] at q2; have hb2 := (q2.block _ (lt_of_block HW.out.2.2.2) fun e => e).trans HW.out.2.2.2; obtain ⟨m0, m1, m2⟩ := box_cells hb2; obtain ⟨f0, f1, f2⟩ := box_free3 hb2; have hz := lt_of_block hb2; clear hb2)
    refine bodyPost_ret (v := .tuple #[.agg #[.int .i64 0, .int .i64 0, .slice none 0 0], .int .i64 cd]) (by simp [results, Try.results13, go_sem, m0, m1, m2]) rfl ?_
    have q := HW.out.2.1.trans q2
    refine handQ_mk (vn' := vn) (vo' := vo) (x := v0) (c := cd) none 0 (ns' := ns) HP.out rfl (safe_leaf v0 v0_fits rfl none) ?_ ?_
    · exact (HF.out.1.quiet q).kept (three_set _ _ _ _ _) fun k hk e => HF.out.2 _ (by omega) (e ▸ hk)
    · exact (Goes.quiet _ _ _ q).fresh ((three_set _ _ _ _ _).mono fun k _ e => by omega)
end Go.Proofs.Ytclkaamcoicgcae
