/- What the document prints. -/
import Derived.Test.YtbcfbelfeaakoadDoorTextR
namespace Go.Proofs.YtbcfbelfeaakoadDoor
open Go.ChangeShapes Go.WideShapes Go.ChangeAt Go.RowKit
theorem ba_four (a b c d : UInt8) : (ByteArray.mk #[a, b, c, d]) = ByteArray.mk [a, b, c, d].toArray := rfl
set_option maxRecDepth 8000 in
set_option maxHeartbeats 4000000 in
theorem printed_any (l : List V) (ao : Option Addr) (cap : Nat) (w : World) (ht : Laid w) (hF : Fo w l ao) (hS : sizes l ≤ 20000) :
    Calls Tryd.prog 15 #[.agg #[.slice ao l.length cap]] w fun e w' => PrintQ (fun f => f = modFault l) l w e w' := by
  have q2 : Quiet w ((w.alloc (.cells #[.slice ao l.length cap] 25)).alloc (.cells #[.int .i64 0, .int .i64 0] 27)) := (Kp.alloc _ _).trans (Kp.alloc _ _)
  have hb0 : ((w.alloc (.cells #[.slice ao l.length cap] 25)).alloc (.cells #[.int .i64 0, .int .i64 0] 27)).heap[w.heap.size]? = some (.cells #[.slice ao l.length cap] 25 (0, 0)) := by
    rw [Below.heap_alloc _ _ _ (by simp)]; exact heap_alloc_new w _
  have hb1 := heap_two w (.cells #[.slice ao l.length cap] 25) (.cells #[.int .i64 0, .int .i64 0] 27)
  have hll := sizes_len l
  have hl5 : l.length ≤ 20000 := by omega
  have htl := lines_len hF
  have HC := hid (codeFault_any l ao cap _ (hF.quiet q2) hl5 (fun x hx => Nat.le_trans (sizes_mem hx) hS))
  have HF := hid (And.intro hF ht)
  clear hF ht
  generalize hmf : modFault l = mf at *
  obtain ⟨c, a⟩ := mf
  simp only at HC
  go_enter Tryd.func15, Tryd.ntmps15
  go_wp2_with (go_at_call 31; refine HC.out.mono ?_)
  rintro e w3 ⟨he, q3⟩
  subst he
  have hb03 := (q3.block _ (lt_of_block hb0) fun e => e).trans hb0
  have hb13 := (q3.block _ (lt_of_block hb1) fun e => e).trans hb1
  have x0 := mod_cell hb03
  obtain ⟨k0, k1, k2, k3⟩ := fault_cells hb13
  have z3 : w.heap.size < w3.heap.size := lt_of_block hb03
  have z3' : w.heap.size + 1 < w3.heap.size := lt_of_block hb13
  have q23 := q2.trans q3
  by_cases hc : c = 0
  · subst hc
    have HB := hid (fun (w' : World) (q : Quiet w3 w') => And.intro (mod_cell ((q.block _ (lt_of_block hb03) fun e => e).trans hb03)) (fault_cells ((q.block _ (lt_of_block hb13) fun e => e).trans hb13)))
    have HQ := hid q23
    clear hb03 hb13 hb0 hb1 q2 q3 q23
    go_wp2
    go_loopw [5, 6] (fun s i wr => ∃ j : Nat, j ≤ l.length ∧ i = .int .i64 j ∧ s = .string ⟨(linesX (l.take j)).toArray⟩ ∧ Quiet w3 wr) (fun _ i _ => l.length - (intOf i).toNat)
    case atStart => exact ⟨0, Nat.zero_le _, rfl, rfl, Kp.alloc _ _⟩
    case round =>
      obtain ⟨j, hj, rfl, rfl, q⟩ := hrel
      obtain ⟨x0, r0, r1, r2, r3⟩ := HB.out _ q
      have hpre := lines_pre l j
      have hsz := q.size
      have zr : w.heap.size + 1 < wr.heap.size := by omega
      have hacc : (linesX (l.take j)).length ≤ 740000 := by omega
      by_cases hlt : j < l.length
      · obtain ⟨bb, oo, rfl, ⟨d0, d1, d2⟩, ca, cc, ds, hk⟩ := (HF.out.1.quiet (HQ.out.trans q)).get j hlt
        have hus := size_get l j hlt
        have HC := hid (textR_any l[j] ca cc _ (HF.out.2.quiet (HQ.out.trans q)) hk (by omega))
        have HN := hid (lines_take l j hlt)
        have hul : l[j].text.length ≤ 700000 := by have h1 := text_len l[j] ca hk; omega
        generalize l[j] = u at *
        generalize linesX (l.take j) = ax at *
        have HQ2 := hid q
        clear hk q hpre k0 k1 k2 k3 r0 r1 r2 r3
        go_wp2_with (go_at_call 32; refine HC.out.mono ?_; rintro e w4 ⟨rfl, q4⟩)
        refine ⟨⟨j + 1, by omega, by go_num, ?_, HQ2.out.trans q4⟩, by simp [intOf]; omega⟩
        rw [HN.out, ba_four, ba_one, ba_app, ba_app, ba_app, lineX]; simp
      · have hjl : j = l.length := by omega
        subst hjl
        rw [List.take_length] at hacc ⊢
        have HQ2 := hid q
        clear q hpre k0 k1 k2 k3
        by_cases hbig : 6000 < (linesX l).length
        · have HE := hid (show printX (0, a) l = ([], (3, -1)) by unfold printX; rw [if_neg (by simp), if_pos hbig])
          have hbig' : (6000 : Int) < ((linesX l).length : Int) := by omega
          clear hbig
          go_wp2_with (go_at_call 21; refine (F_any 3 (-1) _).mono ?_; rintro e w4 ⟨rfl, q4⟩; obtain ⟨y0, s0, s1, s2, s3⟩ := HB.out _ (HQ2.out.trans q4))
          refine bodyPost_ret (v := .tuple #[.string ⟨#[]⟩, .agg #[.int .i64 3, .int .i64 (-1)]]) (by simp [results, Tryd.results15, go_sem, s0, s1]) rfl ?_
          refine printQ_mk (0, a) [] (3, -1) HE.out rfl rfl ?_
          exact (HQ.out.trans (HQ2.out.trans q4)).fresh (far_two w _ _ _ _ (by omega))
        · have HE := hid (show printX (0, a) l = (linesX l, (0, 0)) by unfold printX; rw [if_neg (by simp), if_neg hbig])
          have hbig' : ¬ (6000 : Int) < ((linesX l).length : Int) := by omega
          clear hbig
          go_wp2
          refine bodyPost_ret (v := .tuple #[.string ⟨(linesX l).toArray⟩, .agg #[.int .i64 0, .int .i64 0]]) (by simp [results, Tryd.results15, go_sem, r0, r1]) rfl ?_
          refine printQ_mk (0, a) (linesX l) (0, 0) HE.out rfl rfl ?_
          exact (HQ.out.trans HQ2.out).fresh (far_two w _ _ _ _ (by omega))
  · have hz1 : (c != 0) = true := by simpa using hc
    have HE := hid (show printX (c, a) l = ([], (c, a)) by unfold printX; rw [if_pos hc])
    clear hb03 hb13 hb0 hb1
    go_wp2
    go_region
    all_goals
      go_wp2
      refine bodyPost_ret (v := .tuple #[.string ⟨#[]⟩, .agg #[.int .i64 c, .int .i64 a]]) (by simp [results, Tryd.results15, go_sem, k0, k1, z3']) rfl ?_
      refine printQ_mk (c, a) [] (c, a) HE.out rfl rfl ?_
      exact q23.fresh ((far_two w _ _ _ _ (by omega)).trans ((Kp.alloc _ _).trans (Kp.drew _)))
end Go.Proofs.YtbcfbelfeaakoadDoor
