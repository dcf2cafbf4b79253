/- The contract of the document's Rights. -/
import Derived.Test.YtclkaamcoicgcaeJRef
namespace Go.Proofs.Ytclkaamcoicgcae.Gr
open Go.ChangeShapes Go.WideShapes Go.ChangeAt Go.RowKit
theorem all_snoc (os : List Bool) (k : Nat) (ws : List Nd) (j : Nat) (hj : j < ws.length) : (ws.take (j + 1)).all (bitOk os k) = ((ws.take j).all (bitOk os k) && (ws[j].rights.toNat.testBit k && passB os ws[j])) := by
  rw [take_snoc ws j hj, List.all_append]; simp [bitOk]
theorem var_q {w2 wr : World} (hq : Quiet w2 wr) (o : Obj) : Quiet w2 (wr.alloc o).drew := (hq.trans (Kp.alloc _ o)).trans (Kp.drew _)
section
variable {B : Nat} {w : World} {b : Nat} {vn vo : Value} {ns : List Nd} {os : List Bool}
set_option maxRecDepth 8000 in
set_option maxRecDepth 8000 in
set_option maxHeartbeats 8000000 in
theorem nrights_any (h : GS 45 B w b vn vo ns (os.map (! ·))) (hw0 : Wf ns os.length) (n : Int) :
    Calls Try.prog 35 #[.pointer (some ⟨b, 0, none⟩), .int .i64 n] w fun e w' => e = .returned (.int .i64 (rightsN ns os n : Nat)) ∧ Quiet w w' := by
  have hw : Wf ns (os.map (! ·)).length := by rw [List.length_map]; exact hw0
  cases ht : thereB ns.length n with
  | false =>
    have hE := hid (rights_no (os := os) ht)
    have hlen := hid (idx_no ht)
    go_enter Try.func35, Try.ntmps35
    go_wp2_with (go_at_call 62; refine (nway_any hw _ _ _ (Nat.lt_succ_self _) h).mono ?_; rintro e w2 ⟨v2, rfl, hr2, hq2, hnil⟩; obtain rfl := hnil hlen.out; clear hr2 hnil)
    go_loopw [6, 7] (fun r i wr => r = .int .i64 0 ∧ i = .int .i64 0 ∧ wr = w2) (fun _ _ _ => 0)
    case atStart => exact ⟨rfl, rfl, rfl⟩
    case round =>
      obtain ⟨rfl, rfl, rfl⟩ := hrel
      go_wp2
      go_ret
      exact ⟨by rw [hE.out]; rfl, hq2⟩
  | true =>
    have hS := hid (sum_rights (os := os) ht)
    obtain ⟨m, hm⟩ : ∃ m, (wayOf ns n).length = m + 1 := by
      obtain ⟨j, rfl, hj⟩ := there_yes ht
      exact ⟨_, by rw [way_yes hw hj]; simp; rfl⟩
    have HL := way_len hw n
    have HN := h.ln
    have HG := hid h
    have HIA := hid (fun k (a : k < (idxOf ns n).length) (b : k < (wayOf ns n).length) => idx_at a b)
    have HM := hid (way_mem hw0 n)
    have hlen := hid (show (idxOf ns n).length = m + 1 by rw [idx_len]; exact hm)
    have hlw := hid hm
    have hm80 : m + 1 ≤ 80 := by omega
    go_enter Try.func35, Try.ntmps35
    go_wp2_with (go_at_call 62; refine (nway_any hw _ _ _ (Nat.lt_succ_self _) h).mono ?_; rintro e w2 ⟨v2, rfl, hr2, hq2, _⟩; obtain ⟨g2, cap2, rfl⟩ := lies_shape hr2 (by have := hlen.out; omega); rw [hlen.out])
    have HR := hid hr2
    have HQ := hid hq2
    clear hr2 hq2 h hw hw0 hm HL
    generalize wayOf ns n = ws at *
    generalize idxOf ns n = is at *
    go_loopw [6, 7] (fun r i wr => ∃ k : Nat, k ≤ 4 ∧ i = .int .i64 k ∧ r = .int .i64 (sumTo os ws k : Nat) ∧ Quiet w2 wr) (fun _ i _ => 4 - (intOf i).toNat)
    case atStart => exact ⟨0, Nat.zero_le _, rfl, rfl, Kp.refl _ _⟩
    case round =>
      obtain ⟨k, hk, rfl, rfl, hq⟩ := hrel
      by_cases hk4 : k < 4
      · have hd4 : decide ((k : Int) < 4) = true := by simp; omega
        have hs15 := sum_le os ws k hk
        have Hq := hid hq
        clear hq
        go_wp2
        go_loopw [8, 9] (fun a i wz => ∃ j : Nat, j ≤ m + 1 ∧ i = .int .i64 j ∧ a = .bool ((ws.take j).all (bitOk os k)) ∧ Quiet w2 wz) (fun _ i _ => m + 1 - (intOf i).toNat)
        case atStart => exact ⟨0, Nat.zero_le _, rfl, rfl, Hq.out⟩
        case round =>
          obtain ⟨j, hj, rfl, rfl, hq⟩ := hrel
          by_cases hjm : j < m + 1
          · have hjw : j < ws.length := by rw [hlw.out]; exact hjm
            have hr := hq.row HR.out (fun _ _ e => e)
            have cj := ints_cell hr j (by rw [hlen.out]; exact hjm)
            obtain ⟨i, ei, hi', en⟩ := HIA.out j (by rw [hlen.out]; exact hjm) hjw
            rw [ei] at cj
            have hg := HG.out.quiet (HQ.out.trans hq)
            have c0 := hg.cell0
            have hrn := hg.rn
            obtain ⟨gn, capn, hvn⟩ := lies_shape hrn (by omega)
            subst hvn
            obtain ⟨d0, d1, d2, d3, d4, d5⟩ := nd_cells' hrn i hi'
            rw [en] at d0 d1 d2 d3 d4 d5
            obtain ⟨kk, hok⟩ := HM.out ws[j] (List.getElem_mem hjw)
            have hsn := hid (all_snoc os k ws j hjw)
            have hjj : (j : Int) < (m : Int) + 1 := by omega
            have hii : (i : Int) < (ns.length : Int) := by omega
            obtain ⟨q, hq0⟩ : ∃ q : Nat, ws[j].rights = q := ⟨ws[j].rights.toNat, by have := hok.r0; omega⟩
            have hq15 : q ≤ 15 := by have := hok.r1; omega
            have hg0 := hok.g0
            have hq1 := var_q hq (.cells ws[j].cells.toArray 49)
            have hgv := HG.out.quiet (HQ.out.trans hq1)
            clear hr hrn hg hok ei en
            generalize ws[j] = x at *
            obtain ⟨xp, xg, xr, xc, xl, xf⟩ := x
            simp only [Nd.cells] at *
            subst hq0
            have Hq1 := hid hq1
            have qz : Quiet wr (wr.alloc (.cells #[.int .i64 0, .int .i64 0, .int .i64 0, .int .i64 0, .int .i64 0, .int .i64 0] 49)) := Kp.alloc _ _
            have cj' := qz.cell cj (fun e => e)
            have c0' := qz.cell c0 (fun e => e)
            have d0' := qz.cell d0 (fun e => e)
            have d1' := qz.cell d1 (fun e => e)
            have d2' := qz.cell d2 (fun e => e)
            have d3' := qz.cell d3 (fun e => e)
            have d4' := qz.cell d4 (fun e => e)
            have d5' := qz.cell d5 (fun e => e)
            clear hq hq1 qz
            cases hA : (ws.take j).all (bitOk os k) with
            | false =>
              rw [hA] at hsn
              go_wp2
              go_region
              go_wp2
              exact ⟨⟨j + 1, by omega, by go_num, by rw [hsn.out]; rfl, Hq1.out⟩, by simp [intOf]; omega⟩
            | true =>
              rw [hA] at hsn
              cases hT : q.testBit k with
              | false =>
                go_wp2
                go_region
                go_wp2_with (go_at_call 34; refine (bit_any q k hq15 hk4 _).mono ?_; rintro e w' ⟨rfl, rfl⟩; rw [hT])
                exact ⟨⟨j + 1, by omega, by go_num, by rw [hsn.out]; simp [hT], Hq1.out⟩, by simp [intOf]; omega⟩
              | true =>
                by_cases hgate : xg = -1
                · subst hgate
                  go_wp2
                  go_region
                  go_wp2_with (go_at_call 34; refine (bit_any q k hq15 hk4 _).mono ?_; rintro e w' ⟨rfl, rfl⟩; rw [hT])
                  exact ⟨⟨j + 1, by omega, by go_num, by rw [hsn.out]; simp [passB, hT], Hq1.out⟩, by simp [intOf]; omega⟩
                · have hge : 0 ≤ xg := by
                    rcases hg0 with e | e
                    · exact absurd e hgate
                    · simp [thereB] at e; omega
                  have hgd : decide (xg < 0) = false := by simp; omega
                  cases ho : openB os xg with
                  | false =>
                    go_wp2
                    go_region
                    go_wp2_with (first | (go_at_call 34; refine (bit_any q k hq15 hk4 _).mono ?_; rintro e w' ⟨rfl, rfl⟩; rw [hT]) | (go_at_call 63; refine (nopen_any hgv _).mono ?_; rintro e w' ⟨rfl, rfl⟩; rw [ho]))
                    exact ⟨⟨j + 1, by omega, by go_num, by rw [hsn.out]; simp [passB, hT, ho, hgate], Hq1.out⟩, by simp [intOf]; omega⟩
                  | true =>
                    go_wp2
                    go_region
                    go_wp2_with (first | (go_at_call 34; refine (bit_any q k hq15 hk4 _).mono ?_; rintro e w' ⟨rfl, rfl⟩; rw [hT]) | (go_at_call 63; refine (nopen_any hgv _).mono ?_; rintro e w' ⟨rfl, rfl⟩; rw [ho]))
                    exact ⟨⟨j + 1, by omega, by go_num, by rw [hsn.out]; simp [passB, hT, ho], Hq1.out⟩, by simp [intOf]; omega⟩
          · have hje : j = ws.length := by rw [hlw.out]; omega
            have htk : (ws.take j) = ws := by rw [hje]; exact List.take_length
            rw [htk]
            have hsu := hid (show sumTo os ws (k + 1) = sumTo os ws k + if ws.all (bitOk os k) then 2 ^ k else 0 from rfl)
            clear htk hje
            have Hq2 := hid hq
            clear hq
            cases hA : ws.all (bitOk os k) with
            | false =>
              rw [hA] at hsu
              go_wp2
              exact ⟨⟨k + 1, by omega, by go_num, by rw [hsu.out]; simp, Hq2.out⟩, by simp [intOf]; omega⟩
            | true =>
              rw [hA] at hsu
              have hsv := hid (show sumTo os ws (k + 1) = sumTo os ws k + 2 ^ k by rw [hsu.out, if_pos rfl])
              clear hsu
              generalize hs1 : sumTo os ws k = s1 at *
              clear hs1
              obtain rfl | rfl | rfl | rfl : k = 0 ∨ k = 1 ∨ k = 2 ∨ k = 3 := by omega
              · go_wp2
                exact ⟨⟨1, by decide, by go_num, by rw [show sumTo os ws 1 = s1 + 1 from hsv.out]; simp, Hq2.out⟩, by simp [intOf]⟩
              · go_wp2
                exact ⟨⟨2, by decide, by go_num, by rw [show sumTo os ws 2 = s1 + 2 from hsv.out]; simp, Hq2.out⟩, by simp [intOf]⟩
              · go_wp2
                exact ⟨⟨3, by decide, by go_num, by rw [show sumTo os ws 3 = s1 + 4 from hsv.out]; simp, Hq2.out⟩, by simp [intOf]⟩
              · go_wp2
                exact ⟨⟨4, by decide, by go_num, by rw [show sumTo os ws 4 = s1 + 8 from hsv.out]; simp, Hq2.out⟩, by simp [intOf]⟩
      · have hke : k = 4 := by omega
        subst hke
        rw [hS.out]
        have Hq := hid hq
        clear hq
        go_wp2
        go_ret
        exact ⟨rfl, HQ.out.trans Hq.out⟩
end
end Go.Proofs.Ytclkaamcoicgcae.Gr
