/- The contract of the document's Target. -/
import Derived.Test.YthplldgdgmhdlaaRefTell
namespace Go.Proofs.Ythplldgdgmhdlaa
open Go.ChangeShapes Go.WideShapes Go.ChangeAt Go.RowKit
theorem six_q' {w w2 : World} (hq : Quiet w w2) (x0 x1 x2 x3 x4 x5 : Value) : Quiet w ((((((w2.setCell ⟨w.heap.size, 0, none⟩ x0).setCell ⟨w.heap.size, 1, none⟩ x1).setCell ⟨w.heap.size, 2, none⟩ x2).setCell ⟨w.heap.size, 3, none⟩ x3).setCell ⟨w.heap.size, 4, none⟩ x4).setCell ⟨w.heap.size, 5, none⟩ x5).drew :=
  (six_q hq x0 x1 x2 x3 x4 x5).trans (Kp.drew _)
section
variable {B : Nat} {w : World} {b : Nat} {vn vo : Value} {ns : List Nd} {os : List Bool}
set_option maxHeartbeats 4000000 in
theorem ntarget_any (h : GS 58 B w b vn vo ns os) (hw : Wf ns os.length) (n : Int) :
    Calls Try.prog 33 #[.pointer (some ⟨b, 0, none⟩), .int .i64 n] w fun e w' => e = .returned (.tuple #[(targetOf ns n).agg, .bool (thereB ns.length n)]) ∧ Quiet w w' := by
  have q1 : Quiet w (w.alloc (.cells nd0.cells.toArray 65)) := Kp.alloc w _
  have h1 := h.quiet q1
  have b1 := heap_alloc_new w (.cells nd0.cells.toArray 65)
  have HL := way_len hw n
  have HN := h.ln
  have hbw := h.lt
  simp only [Nd.cells, nd0] at q1 h1 b1
  cases ht : thereB ns.length n with
  | false =>
    have hE := hid (target_no ht)
    have hlen := hid (idx_no ht)
    clear h
    go_enter Try.func33, Try.ntmps33
    go_wp2_with (go_at_call 58; refine (nway_any hw _ _ _ (Nat.lt_succ_self _) h1).mono ?_; rintro e w2 ⟨v2, rfl, hr2, hq2, hnil⟩; obtain rfl := hnil hlen.out; have bb := (hq2.block _ (lt_of_block b1) id).trans b1; obtain ⟨d0, d1, d2, d3, d4, d5⟩ := six bb; obtain ⟨f0, f1, f2, f3, f4, f5⟩ := sixf bb; have Hq2 := hid hq2; clear b1 bb hr2 hq2 hnil)
    refine bodyPost_ret (v := .tuple #[.agg #[.int .i64 0, .int .i64 0, .int .i64 0, .int .i64 0, .int .i64 0, .int .i64 0], .bool false]) (by rw [results_cell_tmp rfl]; simp [go_sem, d0, d1, d2, d3, d4, d5]) rfl ⟨?_, ?_⟩
    · rw [hE.out]; rfl
    · exact six_q (q1.trans Hq2.out) _ _ _ _ _ _
  | true =>
    obtain ⟨m, hm⟩ : ∃ m, (wayOf ns n).length = m + 1 := by
      obtain ⟨j, rfl, hj⟩ := there_yes ht
      exact ⟨_, by rw [way_yes hw hj]; simp; rfl⟩
    have hmw : m < (wayOf ns n).length := by omega
    have hmi : m < (idxOf ns n).length := by rw [idx_len]; omega
    have hE := hid (show targetOf ns n = (wayOf ns n)[m] by rw [target_at (by omega)]; congr 1; omega)
    obtain ⟨i, ei, hi, en⟩ := idx_at hmi hmw
    have hlen := hid (show (idxOf ns n).length = m + 1 by rw [idx_len]; exact hm)
    have hii : (i : Int) < (ns.length : Int) := by omega
    have hi0 : (0 : Int) ≤ (i : Int) := by omega
    have hm80 : m ≤ 80 := by omega
    have hrl := hid h.rn.lt
    clear h hm
    go_enter Try.func33, Try.ntmps33
    go_wp2_with (go_at_call 58; refine (nway_any hw _ _ _ (Nat.lt_succ_self _) h1).mono ?_; rintro e w2 ⟨v2, rfl, hr2, hq2, _⟩; obtain ⟨g2, cap2, rfl⟩ := lies_shape hr2 (by omega); have cm := ints_cell hr2 m hmi; rw [ei] at cm; rw [hlen.out]; have h2 := h1.quiet hq2; have c0 := h2.cell0; have hrn := h2.rn; obtain ⟨gn, capn, hvn⟩ := lies_shape hrn (by omega); subst hvn; obtain ⟨y0, y1, y2, y3, y4, y5⟩ := nd_cells' hrn i hi; rw [en] at y0 y1 y2 y3 y4 y5; have bb := (hq2.block _ (lt_of_block b1) id).trans b1; obtain ⟨d0, d1, d2, d3, d4, d5⟩ := six bb; obtain ⟨f0, f1, f2, f3, f4, f5⟩ := sixf bb; have Hq2 := hid hq2; have hg2 := (hr2.lt g2 rfl).1; have hgn := (hrl.out gn rfl).2; generalize (wayOf ns n)[m] = x at *; clear b1 bb hr2 hq2 h2 hrn h1 hrl)
    have n1 : ¬ w.heap.size = b := by omega
    have n2 : ¬ w.heap.size = g2 := by simp at hg2; omega
    have n3 : ¬ w.heap.size = gn := by omega
    have hmz : (0 : Int) ≤ (m : Int) := by omega
    clear en hg2 hgn hmi hmw ei HL
    go_region
    go_wp2
    refine bodyPost_ret (v := .tuple #[x.agg, .bool true]) (by rw [results_cell_tmp rfl]; simp [go_sem, Nd.agg, d0, d1, d2, d3, d4, d5]) rfl ⟨?_, ?_⟩
    · rw [hE.out]
    · exact six_q' (q1.trans Hq2.out) _ _ _ _ _ _
end
end Go.Proofs.Ythplldgdgmhdlaa
