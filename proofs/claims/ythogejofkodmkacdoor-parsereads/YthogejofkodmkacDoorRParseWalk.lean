/- Parse, as the document says it: the walk. -/
import Derived.Test.YthogejofkodmkacDoorRParse
namespace Go.Proofs.YthogejofkodmkacDoor
open Go.ChangeShapes Go.WideShapes Go.ChangeAt Go.RowKit
set_option maxRecDepth 8000 in
set_option maxHeartbeats 2000000 in
theorem rparse_scan (l : List UInt8) (hl : l.length ≤ 9000) (w : World) (hw : Laid w) (hc : (scan l).2.1 ≠ 0) : Calls Tryd.prog 12 #[.string ⟨l.toArray⟩] w (OutP w ([], (scan l).2.1, (scan l).2.2)) := by
  have HS := hid (fun o1 o2 => rscan_any l hl ((w.alloc o1).alloc o2) ((hw.quiet (Kp.alloc _ _)).quiet (Kp.alloc _ _)))
  generalize hs : scan l = s at *
  obtain ⟨ts, c, a⟩ := s
  simp only at hc HS ⊢
  have hc1 : (c != 0) = true := by simpa using hc
  clear hw hs
  go_enter Tryd.func12, Tryd.ntmps12
  go_wp2_with (go_at_call 9; refine (HS.out _ _).mono ?_; rintro e' w1 ⟨v, rfl, hT, q1⟩; obtain ⟨hb0, hb1⟩ := two_q q1; have c0 := box1 hb0; have f0 := box_free hb0; obtain ⟨d0, d1⟩ := box2 hb1; have f1 := box_free hb1; have hl0 := lt_of_block hb0; have hl1 := lt_of_block hb1; clear hb0 hb1)
  go_region
  go_wp2
  refine bodyPost_ret (v := .tuple #[.agg #[.slice none 0 0], .agg #[.int .i64 c, .int .i64 a]]) (by simp [results, Tryd.results12, go_sem, c0, d0, d1, hl0, hl1]) rfl ⟨none, 0, rfl, Fo.nil _ _, parse_told q1 ?_⟩
  exact (((res_set0 w _ 0 _).trans (res_set w _ 1 0 _)).trans (res_set w _ 1 1 _)).trans ((Kp.alloc _ _).trans (Kp.drew _))
/-- The boxes of the results stay. -/
theorem r_boxes {w w1 W w2 : World} {o1 o2 o3 o4 : Obj} {rb : Nat} (q1 : Quiet ((w.alloc o1).alloc o2) w1) (hW : W = (w1.alloc o3).alloc o4) (hrb : rb = w1.heap.size + 1) (q2 : Kr rb W w2) : w2.heap[w.heap.size]? = some o1 ∧ w2.heap[w.heap.size + 1]? = some o2 := by
  subst hW hrb
  exact ⟨(parse_boxes q1 q2).1, (parse_boxes q1 q2).2.1⟩
theorem far_len {ts pp r : List Tk} {j j4 a : Nat} (h1 : j4 ≤ ts.length) (h2 : ts.drop j4 = r) (h3 : ts.drop (j + 1) = pp ++ r) (h4 : a + (ts.length - j) ≤ 9000) (h5 : j < ts.length) : a + 1 + (ts.length - j4) ≤ 9000 ∧ j < j4 := by
  have e1 := congrArg List.length h2
  have e2 := congrArg List.length h3
  simp only [List.length_drop, List.length_append] at e1 e2
  omega
set_option maxRecDepth 8000 in
set_option maxHeartbeats 8000000 in
theorem rparse_read (l : List UInt8) (hl : l.length ≤ 9000) (w : World) (hw : Laid w) (hc : (scan l).2.1 = 0) : Calls Tryd.prog 12 #[.string ⟨l.toArray⟩] w (OutP w (parseT (l.length : Int) (scan l).1)) := by
  obtain ⟨i0, hi0, hz0, hz1, hz2⟩ := info_parts Tryd.infoV
  have hz := bytes_size l
  have hF := scan_fine l
  have hn := scan_few_len l
  have HS := hid (fun o1 o2 => rscan_any l hl ((w.alloc o1).alloc o2) ((hw.quiet (Kp.alloc _ _)).quiet (Kp.alloc _ _)))
  rw [scan_at hc] at HS
  generalize (scan l).1 = ts at *
  simp only at HS
  have hts : ts.length ≤ 9000 := by omega
  obtain ⟨e, he⟩ : ∃ e : Int, e = (l.length : Int) := ⟨_, rfl⟩
  rw [← he]
  obtain ⟨P, hP⟩ : ∃ P, P = parseT e ts := ⟨_, rfl⟩
  rw [← hP]
  have HP := hid (And.intro hP (And.intro hF he))
  clear hw hc hF hP he
  go_enter Tryd.func12, Tryd.ntmps12
  go_wp2_with (go_at_call 9; refine (HS.out _ _).mono ?_; rintro e' w1 ⟨v, rfl, hT, q1⟩; obtain ⟨ao, cap, rfl⟩ := hT.shape)
  obtain ⟨W, hW⟩ : ∃ W, W = (w1.alloc (.cells #[.int .i64 0, .int .i64 0] 25)).alloc (.cells #[.slice ao ts.length cap, .int .i64 (l.length : Int), .int .i64 0, .int .i64 0, .int .i64 0] 59) := ⟨_, rfl⟩
  have hsz : W.heap.size = w1.heap.size + 2 := by rw [hW]; simp
  have hqW : QB W (w1.heap.size + 1) e ts ao cap 0 0 0 := by
    rw [hW, HP.out.2.2]
    have := qb_begin (e := (l.length : Int)) hT (Kp.alloc w1 (.cells #[.int .i64 0, .int .i64 0] 25))
    simpa using this
  obtain ⟨tot, htot⟩ : ∃ tot, tot = modFrom e [] ts := ⟨_, rfl⟩
  have HST := hid (show NS W (w1.heap.size + 1) e ts ao cap tot (ts.length + 1) (W.alloc (.cells #[.slice none 0 0] 37)) from .inl ⟨[], 0, none, 0, 0, [], ⟨heap_alloc_new W _, Row.nil _ _ _ _ (Kp.alloc _ _) (by simp), hqW.quiet (Kp.alloc _ _), Nat.zero_le _, by rw [List.drop_zero]; exact htot.symm, by simp; omega⟩, by omega⟩)
  have HWW := hid (And.intro hW hsz)
  have HT := hid htot
  have hrW : w1.heap.size + 1 < W.heap.size := by omega
  have hle : w.heap.size ≤ w1.heap.size := by have := q1.size; simp at this; omega
  have hne : ¬ w.heap.size = w1.heap.size + 1 := by have := q1.size; simp at this; omega
  have hne1 : ¬ w.heap.size + 1 = w1.heap.size + 1 := by have := q1.size; simp at this; omega
  have hne2 : ¬ w.heap.size = w1.heap.size + 2 := by omega
  have hne3 : ¬ w.heap.size + 1 = w1.heap.size + 2 := by omega
  rw [← hW]
  clear hW hsz hqW htot HS hT
  go_loopg [] (ts.length + 1) (fun gk wr => Hid (NS W (w1.heap.size + 1) e ts ao cap tot gk wr))
  case atStart => exact HST
  case round =>
    rename World => wq
    clear HST
    rcases hrel.out with ⟨acc, j, av, m, cv, ps, hE, hgk⟩ | ⟨x, z, av, m, cv, hGx, hx0, hE, hgk⟩
    · have HE := hid hE
      have hbm := hE.box
      rw [HWW.out.2] at hbm
      have c0' := box1 hbm
      obtain ⟨b0, b1, b2, b3, b4⟩ := box5 hE.qb.box
      have hszr : W.heap.size + 1 ≤ wq.heap.size := hE.row.sz
      have hszq : w1.heap.size + 2 < wq.heap.size := lt_of_block hbm
      have HOK := hid (rok_yes hE.qb)
      have hm9 : m ≤ 9000 := by have := hE.row.lens; have := hE.few; omega
      have HGK := hid hgk
      have hjle := hE.le
      clear hE hbm hrel hgk
      by_cases hlt : j < ts.length
      · have hlt' : (j : Int) < (ts.length : Int) := by omega
        have hdc : ts.drop j = ts[j] :: ts.drop (j + 1) := List.drop_eq_getElem_cons hlt
        have HKP := hid (fun (w2 : World) (q : Kr (w1.heap.size + 1) wq w2) => HE.out.kp hrW q)
        cases hmu : mustT e funB (ts.drop j) with
        | error x =>
          have htx : tot = .error x := by rw [← HE.out.tot]; rw [hdc] at hmu ⊢; rw [modFrom_cons, hmu]; rfl
          have HX := hid (And.intro htx (show x.1 ≠ 0 by have := must_told e funB _ x hmu; omega))
          have HM := hid (rmust_bad HE.out.qb hts hjle funB (fine_mark HP.out.2.1).2.2 hmu)
          clear hmu htx hdc
          go_wp2_with (first
            | (go_at_call 29; refine HM.out.mono ?_; rintro e' w2 ⟨rfl, s2, q2⟩; have HC := hid (rexpr_not (s2.quiet (Kp.drew w2)) HX.out.2); have hk2 := (HKP.out w2 q2).1; rw [HWW.out.2] at hk2; have c0 := box1 hk2; have HR := hid (HKP.out w2 q2).2.row; have hsz2 := (HKP.out w2 q2).2.sz; clear hk2)
            | (go_at_call 28; refine HOK.out.mono ?_; rintro e' w9 ⟨rfl, h9⟩; replace h9 := h9.symm; subst h9))
          go_region_law ((first
            | (refine step_append_lies _ (by rfl) _ _ _ (by rfl) (W.heap.size + 1) 53 i0 _ 4 48 Tryd.undV hi0 hz0 hz1 hz2 rfl (by omega) (.slice av m cv) m (tris ps) (by rfl) hr3 ⟨w3.heap.size, 0, none⟩ 1 1 (tri (v, xa, xc)) (by rfl) (by rfl) (news_at w3 _ 53) (tri_one _) (by omega) (by unfold maxLen; omega) (by omega) (by simp; omega) (w3.heap.size + 1) (by simp) ?_; intro gg cap2 w4 hown1 hgrow hat hlt1; have hD := n_junk (x := x) (av' := some ⟨gg, 0, none⟩) (m' := m + 1) (cv' := cap2) (HKP.out w2 q2).1 (HKP.out w2 q2).2 hrW q3 h3 hgrow; rw [HWW.out.2] at hD; have e1 := hD.2.1; have e2 := hD.2.2; have HD := hid hD.1; clear hown1 hgrow hat hlt1 hD)
            | (go_simp; go_at_call 30; refine HC.out.mono ?_; rintro e' w3 ⟨v, xa, xc, z, rfl, h3, q3⟩; have u3 : w3.cell? ⟨w1.heap.size + 2, 0, none⟩ = some (.slice av m cv) := q3.cell c0 (show ¬ w1.heap.size + 2 = w1.heap.size + 1 by omega); have u4 : (w3.alloc (.cells #[.int .i64 v.kind, .int .i64 v.k, .int .i64 v.n, .slice xa v.l.length xc] 53)).cell? ⟨w1.heap.size + 2, 0, none⟩ = some (.slice av m cv) := (Kp.alloc (F := fun _ => False) _ _).cell u3 (fun e => e); have hr3 := (q3.row (HR.out.drew) (fun k e1 e2 => (by have := (HR.out.lt k e1).1; have := HWW.out.2; omega))).alloc (.cells #[.int .i64 v.kind, .int .i64 v.k, .int .i64 v.n, .slice xa v.l.length xc] 53); have z3 : W.heap.size + 1 ≤ w3.heap.size := Nat.le_trans hsz2 q3.size)))
          all_goals
            go_wp2_with fail
            go_roundg 0
            case measure => have := HGK.out; omega
            case rel => exact .inr ⟨x, _, _, _, _, HX.out.1, HX.out.2, HD.out, rfl⟩
        | ok y =>
          obtain ⟨u, r1⟩ := y
          obtain ⟨hr1, _⟩ := must_short hmu
          have htx : tot = andThen (exprT e 31 (ts.drop (j + 1))) fun v r => modFrom e (acc ++ [v]) r := by rw [← HE.out.tot]; rw [hdc] at hmu ⊢; rw [modFrom_cons, hmu, hr1]; rfl
          have HM := hid (rmust_ok HE.out.qb hts funB (fine_mark HP.out.2.1).2.2 hmu)
          have HCX := hid (fun w2 (s2 : QB w2 (w1.heap.size + 1) e ts ao cap ((j + 1 : Nat) : Int) 0 0) => rexpr_any (w1.heap.size + 1) e ts ao cap hts HP.out.2.1 31 0 (j + 1) w2.drew (by decide) (by decide) (by omega) (s2.quiet (Kp.drew _)))
          clear hmu hdc hr1
          cases hx : exprT e 31 (ts.drop (j + 1)) with
          | error x =>
            rw [hx] at htx HCX
            have HX := hid (And.intro (show tot = .error x from htx) (show x.1 ≠ 0 by have := expr_told e 31 _ x hx; omega))
            clear hx htx
            go_wp2_with (first
              | (go_at_call 29; refine HM.out.mono ?_; rintro e' w2 ⟨rfl, s2, q2⟩; have hk2 := (HKP.out w2 q2).1; rw [HWW.out.2] at hk2; have c0 := box1 hk2; have HR := hid (HKP.out w2 q2).2.row; have hsz2 := (HKP.out w2 q2).2.sz; clear hk2)
              | (go_at_call 28; refine HOK.out.mono ?_; rintro e' w9 ⟨rfl, h9⟩; replace h9 := h9.symm; subst h9))
            go_region_law ((first
              | (refine step_append_lies _ (by rfl) _ _ _ (by rfl) (W.heap.size + 1) 53 i0 _ 4 48 Tryd.undV hi0 hz0 hz1 hz2 rfl (by omega) (.slice av m cv) m (tris ps) (by rfl) hr3 ⟨w3.heap.size, 0, none⟩ 1 1 (tri (v, xa, xc)) (by rfl) (by rfl) (news_at w3 _ 53) (tri_one _) (by omega) (by unfold maxLen; omega) (by omega) (by simp; omega) (w3.heap.size + 1) (by simp) ?_; intro gg cap2 w4 hown1 hgrow hat hlt1; have hD := n_junk (x := x) (av' := some ⟨gg, 0, none⟩) (m' := m + 1) (cv' := cap2) (HKP.out w2 q2).1 (HKP.out w2 q2).2 hrW q3 h3 hgrow; rw [HWW.out.2] at hD; have e1 := hD.2.1; have e2 := hD.2.2; have HD := hid hD.1; clear hown1 hgrow hat hlt1 hD)
              | (go_simp; go_at_call 30; refine (HCX.out w2 s2).mono ?_; rintro e' w3 ⟨v, xa, xc, z, rfl, h3, q3⟩; have u3 : w3.cell? ⟨w1.heap.size + 2, 0, none⟩ = some (.slice av m cv) := q3.cell c0 (show ¬ w1.heap.size + 2 = w1.heap.size + 1 by omega); have u4 : (w3.alloc (.cells #[.int .i64 v.kind, .int .i64 v.k, .int .i64 v.n, .slice xa v.l.length xc] 53)).cell? ⟨w1.heap.size + 2, 0, none⟩ = some (.slice av m cv) := (Kp.alloc (F := fun _ => False) _ _).cell u3 (fun e => e); have hr3 := (q3.row (HR.out.drew) (fun k e1 e2 => (by have := (HR.out.lt k e1).1; have := HWW.out.2; omega))).alloc (.cells #[.int .i64 v.kind, .int .i64 v.k, .int .i64 v.n, .slice xa v.l.length xc] 53); have z3 : W.heap.size + 1 ≤ w3.heap.size := Nat.le_trans hsz2 q3.size)))
            all_goals
              go_wp2_with fail
              go_roundg 0
              case measure => have := HGK.out; omega
              case rel => exact .inr ⟨x, _, _, _, _, HX.out.1, HX.out.2, HD.out, rfl⟩
          | ok y =>
            obtain ⟨v, r'⟩ := y
            rw [hx] at htx HCX
            obtain ⟨pp, hp, _⟩ := expr_ok e 31 _ v r' hx
            have hfew := HE.out.few
            have HX := hid (And.intro (show modFrom e (acc ++ [v]) r' = tot from htx.symm) (And.intro hp hfew))
            clear hx htx hp hfew
            go_wp2_with (first
              | (go_at_call 29; refine HM.out.mono ?_; rintro e' w2 ⟨rfl, s2, q2⟩; have hk2 := (HKP.out w2 q2).1; rw [HWW.out.2] at hk2; have c0 := box1 hk2; have HR := hid (HKP.out w2 q2).2.row; have hsz2 := (HKP.out w2 q2).2.sz; clear hk2)
              | (go_at_call 28; refine HOK.out.mono ?_; rintro e' w9 ⟨rfl, h9⟩; replace h9 := h9.symm; subst h9))
            go_region_law ((first
              | (refine step_append_lies _ (by rfl) _ _ _ (by rfl) (W.heap.size + 1) 53 i0 _ 4 48 Tryd.undV hi0 hz0 hz1 hz2 rfl (by omega) (.slice av m cv) m (tris ps) (by rfl) hr3 ⟨w3.heap.size, 0, none⟩ 1 1 (tri (v, xa, xc)) (by rfl) (by rfl) (news_at w3 _ 53) (tri_one _) (by omega) (by unfold maxLen; omega) (by omega) (by simp; omega) (w3.heap.size + 1) (by simp) ?_; intro gg cap2 w4 hown1 hgrow hat hlt1; have hD := n_push (tot := tot) (j' := j4) (HKP.out w2 q2).1 (HKP.out w2 q2).2 hrW (by rw [h4.2]; exact HX.out.1) h4.1 (far_len h4.1 h4.2 HX.out.2.1 HX.out.2.2 hlt).1 q3 h3 s3 hown1 hgrow hat; rw [HWW.out.2] at hD; have e1 := hD.2.1; have e2 := hD.2.2; have HD := hid hD.1; clear hown1 hgrow hat hlt1 hD)
              | (go_simp; go_at_call 30; refine (HCX.out w2 s2).mono ?_; rintro e' w3 ⟨xa, xc, j4, rfl, h3, h4, s3, q3⟩; have u3 : w3.cell? ⟨w1.heap.size + 2, 0, none⟩ = some (.slice av m cv) := q3.cell c0 (show ¬ w1.heap.size + 2 = w1.heap.size + 1 by omega); have u4 : (w3.alloc (.cells #[.int .i64 v.kind, .int .i64 v.k, .int .i64 v.n, .slice xa v.l.length xc] 53)).cell? ⟨w1.heap.size + 2, 0, none⟩ = some (.slice av m cv) := (Kp.alloc (F := fun _ => False) _ _).cell u3 (fun e => e); have hr3 := (q3.row (HR.out.drew) (fun k e1 e2 => (by have := (HR.out.lt k e1).1; have := HWW.out.2; omega))).alloc (.cells #[.int .i64 v.kind, .int .i64 v.k, .int .i64 v.n, .slice xa v.l.length xc] 53); have z3 : W.heap.size + 1 ≤ w3.heap.size := Nat.le_trans hsz2 q3.size)))
            all_goals
              go_wp2_with fail
              go_roundg (ts.length - j4 + 1)
              case measure => have h7 := HGK.out; have h8 := (far_len h4.1 h4.2 HX.out.2.1 HX.out.2.2 hlt).2; omega
              case rel => exact .inl ⟨_, j4, _, _, _, _, HD.out, rfl⟩
      · obtain rfl : j = ts.length := by omega
        have hT : tot = .ok (acc, []) := by rw [← HE.out.tot, List.drop_length, modFrom_nil]
        have hPP : P = if (modFault acc).1 = 0 then (acc, 0, 0) else ([], (modFault acc).1, (modFault acc).2) := by rw [HP.out.1, parseT, ← HT.out, hT]
        have hsac : sizes acc ≤ 20000 := by
          have h5 := HT.out; rw [hT] at h5
          have := mod_ok _ _ _ _ _ _ h5.symm; rw [sizes_nil] at this; omega
        have hFo : HoldL (W.heap.size + 1) wq acc av := HE.out.row.holdL
        have hm := hid HE.out.row.lens
        have hlac : acc.length ≤ 20000 := by have := sizes_len acc; omega
        have HCF := hid (fun w2 (q : Quiet wq w2) => codeFault_any acc av cv w2 (hFo.fo.quiet q) hlac (fun x hx => Nat.le_trans (sizes_mem hx) hsac))
        have HFo := hid hFo
        have HB := hid (fun w2 (q : Kr (w1.heap.size + 1) wq w2) => r_boxes q1 HWW.out.1 rfl (HE.out.row.kr.trans q))
        rw [← hm.out] at HCF
        clear hT hFo hsac hlac
        by_cases hf : (modFault acc).1 = 0
        · rw [if_pos hf] at hPP
          have HFZ := hid hf
          clear hf
          subst hPP
          go_wp2_with (first
            | (go_at_call 18; refine (HCF.out wq (Kp.refl _ _)).mono ?_; rintro e' w3 ⟨rfl, q3⟩; rw [HFZ.out]; have a0 := (HB.out w3 (Quiet.kr q3)).1; have a1 := (HB.out w3 (Quiet.kr q3)).2; have m0 := q3.cell c0' (fun e => e); have d0 := box1 a0; have f0 := box_free a0; obtain ⟨d1, d2⟩ := box2 a1; have f1 := box_free a1; have l0 := lt_of_block a0; have l1 := lt_of_block a1; have l2 := Nat.lt_of_lt_of_le hszq q3.size; clear a0 a1)
            | (go_at_call 28; refine HOK.out.mono ?_; rintro e' w9 ⟨rfl, h9⟩; replace h9 := h9.symm; subst h9))
          refine bodyPost_ret (v := .tuple #[.agg #[.slice av m cv], .agg #[.int .i64 0, .int .i64 0]]) (by simp [results, Tryd.results12, go_sem, d0, d1, d2, l0, l1]) rfl ?_
          refine ⟨av, cv, by rw [hm.out], ?_, ?_⟩
          · have hk : Kp (fun i => i ≤ w.heap.size + 1) wq ((((w3.setCell ⟨w.heap.size, 0, none⟩ (.slice av m cv)).setCell ⟨w.heap.size + 1, 0, none⟩ (.int .i64 0)).setCell ⟨w.heap.size + 1, 1, none⟩ (.int .i64 0)).alloc (.cells #[.int .i64 0, .int .i64 (modFault acc).2] 25)) :=
              (Kp.mono q3 fun _ _ e => e.elim).trans ((((Kp.setCell (F := fun i => i ≤ w.heap.size + 1) w3 ⟨w.heap.size, 0, none⟩ _ (Nat.le_succ _)).trans (Kp.setCell _ ⟨w.heap.size + 1, 0, none⟩ _ (Nat.le_refl _))).trans (Kp.setCell _ ⟨w.heap.size + 1, 1, none⟩ _ (Nat.le_refl _))).trans (Kp.alloc _ _))
            exact (HFo.out.step fun k h1 h2 => hk.block k h2 (by have := HWW.out.2; omega)).fo
          · refine parse_far q1 (HWW.out.1 ▸ HE.out.row.kr) ?_
            exact (Kp.mono q3 fun _ _ e => e.elim).trans ((((res_set0 w _ 0 _).trans (res_set w _ 1 0 _)).trans (res_set w _ 1 1 _)).trans (Kp.alloc _ _))
        · rw [if_neg hf] at hPP
          have hf1 : ((modFault acc).1 != 0) = true := by simpa using hf
          subst hPP
          go_wp2_with (first
            | (go_at_call 18; refine (HCF.out wq (Kp.refl _ _)).mono ?_; rintro e' w3 ⟨rfl, q3⟩; have a0 := (HB.out w3 (Quiet.kr q3)).1; have a1 := (HB.out w3 (Quiet.kr q3)).2; have m0 := q3.cell c0' (fun e => e); have d0 := box1 a0; have f0 := box_free a0; obtain ⟨d1, d2⟩ := box2 a1; have f1 := box_free a1; have l0 := lt_of_block a0; have l1 := lt_of_block a1; have l2 := Nat.lt_of_lt_of_le hszq q3.size; clear a0 a1)
            | (go_at_call 28; refine HOK.out.mono ?_; rintro e' w9 ⟨rfl, h9⟩; replace h9 := h9.symm; subst h9))
          go_region
          go_wp2
          refine bodyPost_ret (v := .tuple #[.agg #[.slice none 0 0], .agg #[.int .i64 (modFault acc).1, .int .i64 (modFault acc).2]]) (by simp [results, Tryd.results12, go_sem, d0, d1, d2, l0, l1]) rfl ⟨none, 0, rfl, Fo.nil _ _, ?_⟩
          refine parse_far q1 (HWW.out.1 ▸ HE.out.row.kr) ?_
          exact (Kp.mono q3 fun _ _ e => e.elim).trans ((((res_set0 w _ 0 _).trans (res_set w _ 1 0 _)).trans (res_set w _ 1 1 _)).trans ((Kp.alloc _ _).trans (Kp.drew _)))
    · have hbm := hE.box
      rw [HWW.out.2] at hbm
      have hszq : w1.heap.size + 2 < wq.heap.size := lt_of_block hbm
      obtain ⟨b0, b1, b2, b3, b4⟩ := box5 hE.qb.box
      have HNO := hid (rok_no hE.qb hx0)
      have hPP : P = ([], x.1, x.2) := by rw [HP.out.1, parseT, ← HT.out, hGx]
      have HE := hid hE
      have hab := r_boxes q1 HWW.out.1 rfl hE.kr
      have d0 := box1 hab.1
      have f0 := box_free hab.1
      obtain ⟨d1, d2⟩ := box2 hab.2
      have f1 := box_free hab.2
      have l0 := lt_of_block hab.1
      have l1 := lt_of_block hab.2
      clear hE hbm hrel hgk hGx hx0 hab
      subst hPP
      go_wp2_with (go_at_call 28; refine HNO.out.mono ?_; rintro e' w9 ⟨rfl, h9⟩; replace h9 := h9.symm; subst h9)
      go_region
      go_wp2
      refine bodyPost_ret (v := .tuple #[.agg #[.slice none 0 0], .agg #[.int .i64 x.1, .int .i64 x.2]]) (by simp [results, Tryd.results12, go_sem, d0, d1, d2]) rfl ⟨none, 0, rfl, Fo.nil _ _, ?_⟩
      refine parse_far q1 (HWW.out.1 ▸ HE.out.kr) ?_
      exact (((res_set0 w _ 0 _).trans (res_set w _ 1 0 _)).trans (res_set w _ 1 1 _)).trans (Kp.drew _)
theorem rparse_any (l : List UInt8) (hl : l.length ≤ 9000) (w : World) (hw : Laid w) : Calls Tryd.prog 12 #[.string ⟨l.toArray⟩] w (OutP w (parseB l)) := by
  unfold parseB
  split
  · rename_i h; exact rparse_read l hl w hw h
  · rename_i h; exact rparse_scan l hl w hw h
end Go.Proofs.YthogejofkodmkacDoor
