/- The document's own answer: a module's fault. -/
import Derived.Test.YtjcniiojcigefadRefFault
import Derived.Test.YtjcniiojcigefadTell
namespace Go.Proofs.Ytjcniiojcigefad
open Go.ChangeShapes Go.WideShapes Go.ChangeAt Go.RowKit
theorem F_any (c a : Int) (w : World) : Calls Try.prog 18 #[.int .i64 c, .int .i64 a] w fun e w' => e = .returned (.agg #[.int .i64 c, .int .i64 a]) ∧ Quiet w w' := by
  go_enter Try.func18, Try.ntmps18
  go_wp2
  refine bodyPost_ret (v := .agg #[.int .i64 c, .int .i64 a]) (by simp [results, Try.results18, go_sem]) rfl ?_
  exact ⟨rfl, Kp.alloc _ _⟩
set_option maxRecDepth 8000 in
set_option maxHeartbeats 4000000 in
theorem codeFault_any (l : List V) (ao : Option Addr) (cap : Nat) (w : World) (hF : Fo w l ao) (hL : l.length ≤ 20000) (hS : ∀ x ∈ l, x.size ≤ 20000) :
    Calls Try.prog 9 #[.agg #[.slice ao l.length cap]] w fun e w' => e = .returned (.agg #[.int .i64 (modFault l).1, .int .i64 (modFault l).2]) ∧ Quiet w w' := by
  have q2 : Quiet w ((w.alloc (.cells #[.slice ao l.length cap] 24)).alloc (.cells #[.int .i64 0, .int .i64 0] 30)) := (Kp.alloc _ _).trans (Kp.alloc _ _)
  have hb0 : ((w.alloc (.cells #[.slice ao l.length cap] 24)).alloc (.cells #[.int .i64 0, .int .i64 0] 30)).heap[w.heap.size]? = some (.cells #[.slice ao l.length cap] 24 (0, 0)) := by
    rw [Below.heap_alloc _ _ _ (by simp)]; exact heap_alloc_new w _
  have hb1 := heap_two w (.cells #[.slice ao l.length cap] 24) (.cells #[.int .i64 0, .int .i64 0] 30)
  by_cases h12 : l.length < 1 ∨ 6 < l.length
  · have hE := hid (show modFault l = (3, -1) by unfold modFault; rw [if_pos h12])
    by_cases h1 : l.length < 1
    · have h1' : (l.length : Int) < 1 := by omega
      clear h1 h12
      go_enter Try.func9, Try.ntmps9
      go_wp2_with (go_at_call 18; refine (F_any 3 (-1) _).mono ?_; rintro e w9 ⟨rfl, q9⟩; obtain ⟨k0, k1, k2, k3⟩ := fault_cells ((q9.block _ (lt_of_block hb1) (fun e => e)).trans hb1))
      refine bodyPost_ret (v := .agg #[.int .i64 3, .int .i64 (-1)]) (by simp [results, Try.results9, go_sem, k0, k1]) rfl ?_
      exact ⟨by rw [hE.out], (q2.trans q9).fresh ((kp_set _ _ _ _).trans (kp_set _ _ _ _) |>.mono fun k _ e => by omega)⟩
    · have h1' : ¬ (l.length : Int) < 1 := by omega
      have h2' : (6 : Int) < (l.length : Int) := by omega
      clear h1 h12
      go_enter Try.func9, Try.ntmps9
      go_wp2_with (go_at_call 18; refine (F_any 3 (-1) _).mono ?_; rintro e w9 ⟨rfl, q9⟩; obtain ⟨k0, k1, k2, k3⟩ := fault_cells ((q9.block _ (lt_of_block hb1) (fun e => e)).trans hb1))
      refine bodyPost_ret (v := .agg #[.int .i64 3, .int .i64 (-1)]) (by simp [results, Try.results9, go_sem, k0, k1]) rfl ?_
      exact ⟨by rw [hE.out], (q2.trans q9).fresh ((kp_set _ _ _ _).trans (kp_set _ _ _ _) |>.mono fun k _ e => by omega)⟩
  have h1' : ¬ (l.length : Int) < 1 := by omega
  have h2' : ¬ (6 : Int) < (l.length : Int) := by omega
  have HE := hid (show modFault l = funs (l.length : Int) l 0 by unfold modFault; rw [if_neg h12])
  have HF := hid (And.intro hF hS)
  have HB := hid (And.intro hb0 (And.intro hb1 q2))
  clear hF hb0 hb1 q2 h12 hS
  go_enter Try.func9, Try.ntmps9
  go_wp2
  go_loopw [3] (fun i wr => ∃ j : Nat, j ≤ l.length ∧ i = .int .i64 j ∧ funs (l.length : Int) l 0 = funs (l.length : Int) (l.drop j) j ∧ Quiet ((w.alloc (.cells #[.slice ao l.length cap] 24)).alloc (.cells #[.int .i64 0, .int .i64 0] 30)) wr) (fun i _ => l.length - (intOf i).toNat)
  case atStart => exact ⟨0, Nat.zero_le _, rfl, rfl, Kp.refl _ _⟩
  case round =>
    rename World => wq
    obtain ⟨j, hj, rfl, hf, q⟩ := hrel
    have hm0 := (q.block _ (lt_of_block HB.out.1) fun e => e).trans HB.out.1
    have x0 := mod_cell hm0
    have hbf := (q.block _ (lt_of_block HB.out.2.1) fun e => e).trans HB.out.2.1
    have hsz := q.size
    have z1 : w.heap.size < wq.heap.size := by simp at hsz; omega
    have z2 : w.heap.size + 1 < wq.heap.size := by simp at hsz; omega
    have HQ := hid (And.intro q hf)
    clear q hf hsz
    by_cases hlt : j < l.length
    · have hFq := HF.out.1.quiet (HB.out.2.2.trans HQ.out.1)
      obtain ⟨b, off, rfl, dh, ai, ci, ds, hci⟩ := hFq.get j hlt
      obtain ⟨d0, d9, d1⟩ := dh
      have HN := hid (And.intro (funs_next (l.length : Int) l j hlt) (funs_stop (l.length : Int) l j hlt))
      have hs6 := HF.out.2 l[j] (List.getElem_mem hlt)
      generalize hcu : l[j] = c at *
      have hbx := heap_alloc_new wq (.cells #[.int .i64 c.kind, .int .i64 c.k, .int .i64 c.n, .slice ai c.l.length ci] 38)
      have hbf2 := (Below.heap_alloc wq (.cells #[.int .i64 c.kind, .int .i64 c.k, .int .i64 c.n, .slice ai c.l.length ci] 38) _ z2).trans hbf
      have hbm := (Below.heap_alloc wq (.cells #[.int .i64 c.kind, .int .i64 c.k, .int .i64 c.n, .slice ai c.l.length ci] 38) _ z1).trans hm0
      have hca : Is (wq.alloc (.cells #[.int .i64 c.kind, .int .i64 c.k, .int .i64 c.n, .slice ai c.l.length ci] 38)) c ai := hci.quiet (Kp.alloc _ _)
      have HD := hid (deep_any 31 c ai ci 30 (wq.alloc (.cells #[.int .i64 c.kind, .int .i64 c.k, .int .i64 c.n, .slice ai c.l.length ci] 38)) (by decide) (by decide) (by omega) hca)
      have HSZ := hid (fun w3 (q3 : Quiet (wq.alloc (.cells #[.int .i64 c.kind, .int .i64 c.k, .int .i64 c.n, .slice ai c.l.length ci] 38)) w3) => size_any 121 c ai ci 120 w3 (by decide) (by decide) (hca.quiet q3))
      have HEF := hid (fun w4 (q4 : Quiet (wq.alloc (.cells #[.int .i64 c.kind, .int .i64 c.k, .int .i64 c.n, .slice ai c.l.length ci] 38)) w4) => exprFault_any l.length (some ⟨b, off, none⟩) cap (by omega) c ai ci 0 w4 (hca.quiet q4) ⟨by decide, by decide⟩ (by omega))
      clear hcu hci hFq hca hm0 hbf
      by_cases h3 : 30 < c.deep
      · have HFN := hid (show fun1 (l.length : Int) c = 4 by unfold fun1; rw [if_pos h3])
        go_wp2_with (first
          | (go_at_call 18; refine (F_any 4 (j : Int) _).mono ?_; rintro e w9 ⟨rfl, q9⟩; obtain ⟨k0, k1, k2, k3⟩ := fault_cells (((q3.trans q9).block _ (lt_of_block hbf2) (fun e => e)).trans hbf2))
          | (go_at_call 19; refine HD.out.mono ?_; rintro e w3 ⟨r3, rfl, _, k3a, k3b, q3⟩; have hr3 : (30 : Int) < (r3 : Int) := (by have := k3b h3; omega); obtain ⟨y0, y9, y1, y2⟩ := box_cells ((q3.block _ (lt_of_block hbx) (fun e => e)).trans hbx); clear k3a k3b))
        refine bodyPost_ret (v := .agg #[.int .i64 4, .int .i64 j]) (by simp [results, Try.results9, go_sem, k0, k1]) rfl ?_
        refine ⟨?_, ?_⟩
        · rw [HE.out, HQ.out.2, HN.out.2 (by rw [HFN.out]; first | decide | exact hbz), HFN.out]
        · exact (HB.out.2.2.trans (HQ.out.1.trans ((Kp.alloc _ _).trans (q3.trans q9)))).fresh ((kp_set _ _ _ _).trans (kp_set _ _ _ _) |>.mono fun k _ e => by omega)
      by_cases h4 : 120 < c.size
      · have HFN := hid (show fun1 (l.length : Int) c = 3 by unfold fun1; rw [if_neg h3, if_pos h4])
        go_wp2_with (first
          | (go_at_call 18; refine (F_any 3 (j : Int) _).mono ?_; rintro e w9 ⟨rfl, q9⟩; obtain ⟨k0, k1, k2, k3⟩ := fault_cells (((q4.trans q9).block _ (lt_of_block hbf2) (fun e => e)).trans hbf2))
          | (go_at_call 12; refine (HSZ.out w3 q3).mono ?_; rintro e w4 ⟨r4, rfl, _, _, k4a, k4b, q4⟩; have hr4 : (120 : Int) < (r4 : Int) := (by have := k4b h4; omega); replace q4 := q3.trans q4; obtain ⟨z0, z9, z1, z2⟩ := box_cells ((q4.block _ (lt_of_block hbx) (fun e => e)).trans hbx); have zm := mod_cell ((q4.block _ (lt_of_block hbm) (fun e => e)).trans hbm); clear k4a k4b)
          | (go_at_call 19; refine HD.out.mono ?_; rintro e w3 ⟨r3, rfl, _, k3a, k3b, q3⟩; have hr3 : ¬ (30 : Int) < (r3 : Int) := (by have := k3a (by omega); omega); obtain ⟨y0, y9, y1, y2⟩ := box_cells ((q3.block _ (lt_of_block hbx) (fun e => e)).trans hbx); clear k3a k3b))
        refine bodyPost_ret (v := .agg #[.int .i64 3, .int .i64 j]) (by simp [results, Try.results9, go_sem, k0, k1]) rfl ?_
        refine ⟨?_, ?_⟩
        · rw [HE.out, HQ.out.2, HN.out.2 (by rw [HFN.out]; first | decide | exact hbz), HFN.out]
        · exact (HB.out.2.2.trans (HQ.out.1.trans ((Kp.alloc _ _).trans (q4.trans q9)))).fresh ((kp_set _ _ _ _).trans (kp_set _ _ _ _) |>.mono fun k _ e => by omega)
      by_cases hbz : ¬ c.bad (l.length : Int) 0 = 0
      · have HFN := hid (show fun1 (l.length : Int) c = c.bad (l.length : Int) 0 by unfold fun1; rw [if_neg h3, if_neg h4])
        have hbb : (c.bad (l.length : Int) 0 != 0) = true := by simpa using hbz
        go_wp2_with (first
          | (go_at_call 18; refine (F_any (c.bad (l.length : Int) 0) (j : Int) _).mono ?_; rintro e w9 ⟨rfl, q9⟩; obtain ⟨k0, k1, k2, k3⟩ := fault_cells (((q5.trans q9).block _ (lt_of_block hbf2) (fun e => e)).trans hbf2))
          | (go_at_call 20; refine (HEF.out w4 q4).mono ?_; rintro e w5 ⟨rfl, q5⟩; replace q5 := q4.trans q5)
          | (go_at_call 12; refine (HSZ.out w3 q3).mono ?_; rintro e w4 ⟨r4, rfl, _, _, k4a, k4b, q4⟩; have hr4 : ¬ (120 : Int) < (r4 : Int) := (by have := k4a (by omega); omega); replace q4 := q3.trans q4; obtain ⟨z0, z9, z1, z2⟩ := box_cells ((q4.block _ (lt_of_block hbx) (fun e => e)).trans hbx); have zm := mod_cell ((q4.block _ (lt_of_block hbm) (fun e => e)).trans hbm); clear k4a k4b)
          | (go_at_call 19; refine HD.out.mono ?_; rintro e w3 ⟨r3, rfl, _, k3a, k3b, q3⟩; have hr3 : ¬ (30 : Int) < (r3 : Int) := (by have := k3a (by omega); omega); obtain ⟨y0, y9, y1, y2⟩ := box_cells ((q3.block _ (lt_of_block hbx) (fun e => e)).trans hbx); clear k3a k3b))
        refine bodyPost_ret (v := .agg #[.int .i64 (c.bad (l.length : Int) 0), .int .i64 j]) (by simp [results, Try.results9, go_sem, k0, k1]) rfl ?_
        refine ⟨?_, ?_⟩
        · rw [HE.out, HQ.out.2, HN.out.2 (by rw [HFN.out]; first | decide | exact hbz), HFN.out]
        · exact (HB.out.2.2.trans (HQ.out.1.trans ((Kp.alloc _ _).trans (q5.trans q9)))).fresh ((kp_set _ _ _ _).trans (kp_set _ _ _ _) |>.mono fun k _ e => by omega)
      · have HBZ := hid (Decidable.not_not.1 hbz)
        have HFN := hid (show fun1 (l.length : Int) c = 0 by unfold fun1; rw [if_neg h3, if_neg h4]; exact HBZ.out)
        clear hbz
        go_wp2_with (first
          | (go_at_call 20; refine (HEF.out w4 q4).mono ?_; rintro e w5 ⟨rfl, q5⟩; replace q5 := q4.trans q5; rw [HBZ.out])
          | (go_at_call 12; refine (HSZ.out w3 q3).mono ?_; rintro e w4 ⟨r4, rfl, _, _, k4a, k4b, q4⟩; have hr4 : ¬ (120 : Int) < (r4 : Int) := (by have := k4a (by omega); omega); replace q4 := q3.trans q4; obtain ⟨z0, z9, z1, z2⟩ := box_cells ((q4.block _ (lt_of_block hbx) (fun e => e)).trans hbx); have zm := mod_cell ((q4.block _ (lt_of_block hbm) (fun e => e)).trans hbm); clear k4a k4b)
          | (go_at_call 19; refine HD.out.mono ?_; rintro e w3 ⟨r3, rfl, _, k3a, k3b, q3⟩; have hr3 : ¬ (30 : Int) < (r3 : Int) := (by have := k3a (by omega); omega); obtain ⟨y0, y9, y1, y2⟩ := box_cells ((q3.block _ (lt_of_block hbx) (fun e => e)).trans hbx); clear k3a k3b))
        exact ⟨⟨j + 1, by omega, by go_num, by rw [HQ.out.2]; exact HN.out.1 HFN.out, HQ.out.1.trans ((Kp.alloc _ _).trans q5)⟩, by simp [intOf]; omega⟩
    · have hjl : j = l.length := by omega
      subst hjl
      obtain ⟨k0, k1, k2, k3⟩ := fault_cells hbf
      clear hbf
      go_wp2
      refine bodyPost_ret (v := .agg #[.int .i64 0, .int .i64 0]) (by simp [results, Try.results9, go_sem, k0, k1]) rfl ?_
      refine ⟨?_, ?_⟩
      · rw [HE.out, HQ.out.2, funs_end]
      · exact (HB.out.2.2.trans HQ.out.1).fresh ((kp_set _ _ _ _).trans (kp_set _ _ _ _) |>.mono fun k _ e => by omega)
end Go.Proofs.Ytjcniiojcigefad
