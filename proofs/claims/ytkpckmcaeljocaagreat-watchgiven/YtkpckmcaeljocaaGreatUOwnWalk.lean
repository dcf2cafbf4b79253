/- Parts. -/
import Derived.Test.YtkpckmcaeljocaaGreatUV8
namespace Go.Proofs.YtkpckmcaeljocaaGreat
open Go.ChangeShapes Go.WideShapes Go.ChangeAt Go.RowKit
theorem own_start {R : Nat → Bool} {W w2 w3 : World} {l : List V} {ra : Option Addr} {rc : Nat} (hr0 : ∀ k, R k = true → k < W.heap.size) (q : Quiet W w2) (hF : Fo (cutV R W.heap.size w2) l ra) (hb : l ≠ [] → ∃ b, ra = some ⟨b, 0, none⟩ ∧ W.heap.size ≤ b ∧ IsV w2 b) (hw : w3 = w2.alloc (.cells #[.slice ra l.length rc] 36)) :
    NS R W l ra (.slice (some ⟨w2.heap.size, 0, none⟩) 1 1) [(l, ra, rc)] w3 := by
  subst hw
  have hk : Keeps R W.heap.size w2 (w2.alloc (.cells #[.slice ra l.length rc] 36)) := Keeps.quiet (Kp.alloc _ _) q.size
  refine ⟨owns_mono (row_one w2 36 (.slice ra l.length rc)) q.size, hF.kept hk.cell, fun x hx => ?_, (q.trans (Kp.alloc _ _)).low⟩
  simp at hx; subst hx
  refine ⟨hF.kept hk.cell, fun h => ?_⟩
  obtain ⟨b, e, h3, h4⟩ := hb h
  exact ⟨b, e, h3, hk.isV (out_new hr0 h3) h4⟩
theorem quiet_none {X w4 : World} (hg : X.grownBy w4 (Value.slice none 0 0).ownBlock) : Quiet X w4 := ⟨hg.os, hg.tape, hg.output, hg.size, fun k hk _ => hg.block k hk (by simp [Value.ownBlock])⟩
theorem keeps_cell {R : Nat → Bool} {h : Nat} {w w1 : World} {b off : Nat} {x : Value} (k : Keeps R h w w1) (hr : R b = false) (hv : IsV w b) (hc : w.cell? ⟨b, off, none⟩ = some x) : w1.cell? ⟨b, off, none⟩ = some x := by
  obtain ⟨c, hb⟩ := hv
  exact (World.cell?_of_block ((k.2 b c _ hr hb).trans hb.symm)).trans hc
theorem keeps_head {R : Nat → Bool} {h : Nat} {w w1 : World} {b off : Nat} {v : V} (k : Keeps R h w w1) (hr : R b = false) (hv : IsV w b) (hh : v.head w b off) : v.head w1 b off :=
  ⟨keeps_cell k hr hv hh.1, keeps_cell k hr hv hh.2⟩
theorem free_row {w : World} {b : Nat} (h : IsV w b) (off : Nat) : w.frozen? ⟨b, off, none⟩ = false := by
  obtain ⟨c, hb⟩ := h
  exact frozen_of_row w b off _ 38 hb
set_option maxRecDepth 8000 in
set_option maxHeartbeats 2000000 in
theorem own_any (l : List V) (ao : Option Addr) (cap : Nat) (R : Nat → Bool) (w : World) (hr0 : ∀ k, R k = true → k < w.heap.size) (hF : Fo (cutV R w.heap.size w) l ao) (hS : sizes l ≤ 20000) :
    Calls Tryz.prog 130 #[.slice ao l.length cap, .func (.func 126) #[] #[], .func (.func 131) #[] #[]] w fun e w' => ∃ ao' cap', e = .returned (.slice ao' l.length cap') ∧ Fo (cutV R w.heap.size w') l ao' ∧ Quiet w w' := by
  obtain ⟨i0, hi0, hz0, hz1, hz2⟩ := info_parts Tryz.infoV
  obtain ⟨j0, hj0, jz0, jz1, jz2⟩ := info_parts Tryz.infoL
  have hlen5 : l.length ≤ 20000 := by have := sizes_len l; omega
  have HM := hid (more_any l ao cap 262144 w hF.uncut hS (by decide))
  have hd := hid (show decide (262144 < sizes l) = false by simp; omega)
  have HF := hid hF
  have hlk := look_nil
  have hmd := neq_made
  clear hF
  by_cases hl0 : l.length = 0
  · obtain rfl := List.eq_nil_of_length_eq_zero hl0
    rw [List.length_nil] at HM ⊢
    clear hl0 hlen5 HF hS hr0
    cases ao with
    | none =>
      go_enter Tryz.func130, Tryz.ntmps130
      go_wp2_with (go_at_call 125; refine HM.out.mono ?_; rintro e w2 ⟨rfl, q2⟩; rw [hd.out])
      have q3 : Quiet w (w2.alloc (.cells #[.slice none 0 0] 36)) := q2.trans (Kp.alloc _ _)
      clear HM hd
      go_loopg [9] 1 (fun gk sv wr => Quiet w wr ∧ ((gk = 1 ∧ sv = .slice (some ⟨w2.heap.size, 0, none⟩) 1 1 ∧ wr.cell? ⟨w2.heap.size, 0, none⟩ = some (.slice none 0 0)) ∨ (gk = 0 ∧ sv = .slice (some ⟨w2.heap.size, 0, none⟩) 0 1)))
      case atStart => exact ⟨q3, .inl ⟨rfl, rfl, by simp⟩⟩
      case round =>
        obtain ⟨qr, ⟨rfl, rfl, hc⟩ | ⟨rfl, rfl⟩⟩ := hrel
        · go_wp2
          go_loopw [9, 44] (fun sv i w6 => i = .int .i64 0 ∧ sv = .slice (some ⟨w2.heap.size, 0, none⟩) 0 1 ∧ Quiet w w6) (fun _ _ _ => 0)
          case atStart => exact ⟨rfl, rfl, qr⟩
          case round =>
            obtain ⟨rfl, rfl, q6⟩ := hrel
            go_wp2
            go_roundg 0
            case measure => decide
            case rel => exact ⟨q6, .inr ⟨rfl, rfl⟩⟩
        · go_wp2
          go_ret
          exact ⟨none, 0, rfl, Fo.nil _ _, qr⟩
    | some a =>
      go_enter Tryz.func130, Tryz.ntmps130
      go_wp2_with (go_at_call 125; refine HM.out.mono ?_; rintro e w2 ⟨rfl, q2⟩; rw [hd.out])
      have q3 : Quiet w (w2.alloc (.cells #[.slice none 0 0] 36)) := q2.trans (Kp.alloc _ _)
      clear HM hd
      go_loopg [9] 1 (fun gk sv wr => Quiet w wr ∧ ((gk = 1 ∧ sv = .slice (some ⟨w2.heap.size, 0, none⟩) 1 1 ∧ wr.cell? ⟨w2.heap.size, 0, none⟩ = some (.slice none 0 0)) ∨ (gk = 0 ∧ sv = .slice (some ⟨w2.heap.size, 0, none⟩) 0 1)))
      case atStart => exact ⟨q3, .inl ⟨rfl, rfl, by simp⟩⟩
      case round =>
        obtain ⟨qr, ⟨rfl, rfl, hc⟩ | ⟨rfl, rfl⟩⟩ := hrel
        · go_wp2
          go_loopw [9, 44] (fun sv i w6 => i = .int .i64 0 ∧ sv = .slice (some ⟨w2.heap.size, 0, none⟩) 0 1 ∧ Quiet w w6) (fun _ _ _ => 0)
          case atStart => exact ⟨rfl, rfl, qr⟩
          case round =>
            obtain ⟨rfl, rfl, q6⟩ := hrel
            go_wp2
            go_roundg 0
            case measure => decide
            case rel => exact ⟨q6, .inr ⟨rfl, rfl⟩⟩
        · go_wp2
          go_ret
          exact ⟨none, 0, rfl, Fo.nil _ _, qr⟩
  · obtain ⟨b0, o0, hao⟩ : ∃ b0 o0, ao = some ⟨b0, o0, none⟩ := by obtain ⟨b0, o0, e, _⟩ := HF.out 0 (by omega); exact ⟨b0, o0, e⟩
    subst hao
    have hpos : 0 < l.length := by omega
    have key : ∀ w2, Quiet w w2 → ∃ ps : List Kd, ps.map (·.1) = l ∧ (∀ p ∈ ps, Is (cutV R w.heap.size w2) p.1 p.2.1) ∧ (∀ j x, (tris ps)[j]? = some x → w2.cell? ((⟨b0, o0, none⟩ : Addr).add j) = some x) ∧ (tris ps).length = l.length * 3 := by
      intro w2 q2
      obtain ⟨ps, h1, h2, h3⟩ := kids_of (HF.out.kept (Keeps.quiet q2 (Nat.le_refl _)).cell)
      refine ⟨ps, h1, h2, fun j x hx => ?_, ?_⟩
      · rw [Addr.add_lit]; exact (cutV_cell (h3 j x hx)).1
      · rw [tris_len, ← h1, List.length_map]
    have HK := hid key
    clear key
    go_enter Tryz.func130, Tryz.ntmps130
    go_wp2_with (first
      | (at_builtin; refine wpList_append_lies _ rfl (.const (.slice none 0 0)) (.tmp 24) 36 rfl w.heap.size 38 i0 _ 3 40 Tryz.undV hi0 hz0 hz1 hz2 rfl (by decide) (.slice none 0 0) 0 [] rfl (World.ownsRow_nil _ _ _ _) ⟨b0, o0, none⟩ l.length cap (tris ps) rfl p4 p3 (tris_onec ps) hpos (by unfold maxLen; omega) (by omega) q2.size _ rfl ?_; intro G cap4 w4 hr4 hg4 hat4 hlt4; rw [Nat.zero_add, List.nil_append] at hr4; have q4 := quiet_none hg4; have hGe := hid (hat4.resolve_left (by simp [Value.ownBlock])); have HR4 := hid hr4; clear hg4 hat4 hr4)
      | (go_at_call 125; refine HM.out.mono ?_; rintro e w2 ⟨rfl, q2⟩; rw [hd.out]; obtain ⟨ps, p1, p2, p3, p4⟩ := HK.out _ q2; have HP1 := hid (And.intro p1 p2); clear p1 p2))
    have HS := hid (own_start (R := R) (w3 := w4.alloc (.cells #[.slice (some ⟨G, 0, none⟩) l.length cap4] 36)) (rc := cap4) hr0 (q2.trans q4) (copied HP1.out.1 HP1.out.2 (Keeps.quiet q4 q2.size) HR4.out (by have := congrArg List.length HP1.out.1; simp at this; omega) hpos (out_new hr0 (by have := hGe.out; have := q2.size; omega))).1 (fun _ => ⟨G, rfl, by have := hGe.out; have := q2.size; omega, (copied HP1.out.1 HP1.out.2 (Keeps.quiet q4 q2.size) HR4.out (by have := congrArg List.length HP1.out.1; simp at this; omega) hpos (out_new hr0 (by have := hGe.out; have := q2.size; omega))).2⟩) rfl)
    clear p3 p4 q2 q4 HK HM hd HR4 hGe HP1 hlt4 HF hl0
    go_loopg [9] (1 + sizes l) (fun gk sv wr => ∃ ts : List Pl, tsz ts = gk ∧ gk ≤ 1 + sizes l ∧ NS R w l (some ⟨G, 0, none⟩) sv ts wr)
    case atStart => exact ⟨[(l, some ⟨G, 0, none⟩, cap4)], tsz_one _, Nat.le_refl _, HS.out⟩
    case round =>
      clear HS
      obtain ⟨ts, hsz, hle, H⟩ := hrel
      rcases List.eq_nil_or_concat ts with rfl | ⟨ts, ⟨u, ua, uc⟩, rfl⟩
      · obtain ⟨av, cv, hsv⟩ := owns_shape H.row
        have HH := hid H
        subst hsv
        clear hsz hle H
        go_wp2
        go_ret
        exact ⟨some ⟨G, 0, none⟩, cap4, rfl, HH.out.root, quiet_of HH.out.low⟩
      · rw [List.concat_eq_append] at hsz H
        have hr := H.row
        rw [List.map_append, List.map_cons, List.map_nil, List.length_append, List.length_cons, List.length_nil, Nat.zero_add] at hr
        obtain ⟨g, cp, hv⟩ := lies_shape hr (by omega)
        subst hv
        obtain ⟨hr', hc'⟩ := owns_pop hr rfl
        have hc := hc' 0 (by decide)
        simp only [Nat.mul_one, Nat.add_zero, List.getElem?_cons_zero, slv] at hc
        have hu := H.all (u, ua, uc) (by simp)
        simp only at hu
        rw [tsz_app, tsz_one] at hsz
        have htl := tsz_len ts
        have hul := sizes_len u
        have hcp := owns_cap hr
        simp only at hsz
        have hul5 : u.length ≤ 20000 := by omega
        have htl5 : ts.length ≤ 20000 := by omega
        have HX := hid (And.intro hsz hle)
        have HH := hid (show NS R w l (some ⟨G, 0, none⟩) (.slice (some ⟨g, 0, none⟩) ts.length cp) ts wr from ⟨hr', H.root, fun x hx => H.all x (by simp [hx]), H.low⟩)
        have HU := hid hu
        clear hc' hr hsz hle H hr' hu
        go_wp2
        go_loopw [9, 44] (fun sv i w6 => ∃ (j : Nat) (ks : List Pl), j ≤ u.length ∧ i = .int .i64 j ∧ NS R w l (some ⟨G, 0, none⟩) sv (ts ++ ks) w6 ∧ (tsz ks ≤ sizes (u.take j) ∧ ks.length ≤ j) ∧ Fo (cutV R w.heap.size w6) u ua ∧ (u ≠ [] → ∃ b, ua = some ⟨b, 0, none⟩ ∧ w.heap.size ≤ b ∧ IsV w6 b)) (fun _ i _ => u.length - (intOf i).toNat)
        case atStart => exact ⟨0, [], Nat.zero_le _, rfl, by rw [List.append_nil]; exact HH.out, ⟨by simp [tsz_nil], Nat.le_refl _⟩, HU.out⟩
        case round =>
          rename World => wq
          clear HH HU hc
          obtain ⟨j, ks, hj, rfl, H, hks, hfu, hub⟩ := hrel
          have htt := sizes_take_le u j
          have hlen6 : (ts ++ ks).length ≤ 40000 := by have := HX.out; have := tsz_len ks; simp only [List.length_append]; omega
          obtain ⟨nk, hnk⟩ : ∃ nk, nk = (ts ++ ks).length := ⟨_, rfl⟩
          have hrk := H.row
          rw [← hnk] at hrk hlen6
          have HNK := hid hnk
          obtain ⟨av, cv, hsv⟩ := owns_shape hrk
          clear hnk hrk
          by_cases hlt : j < u.length
          · obtain ⟨b, hua, hbl, hbv⟩ := hub (by intro e; rw [e] at hlt; simp at hlt)
            subst hua
            obtain ⟨b', o', e', hh, ca, cc, cs, hci⟩ := hfu.get j hlt
            cases e'
            rw [Nat.zero_add] at hh cs
            have hnx := sizes_take u j hlt
            generalize hcu : u[j] = c at *
            have hat : c.at (cutV R w.heap.size wq) b (j * 3) := (at_iff _ _ _ _).2 ⟨hh, ca, cc, cs, hci⟩
            have hh' := head_kept (fun a x hc => (cutV_cell hc).1) hh
            obtain ⟨d0, d1⟩ := hh'
            have ds := (cutV_cell cs).1
            have HN := hid (And.intro hnx (And.intro (size_eq c) hks))
            have HAT := hid hat
            have HH := hid (And.intro H (And.intro hfu hbv))
            have hcl5 : c.l.length ≤ 20000 := by have := sizes_len c.l; have := size_eq c; have := sizes_take_le u (j + 1); have := HX.out; omega
            have HHD := hid hh
            have HCI := hid hci
            have HBL := hid hbl
            have hbr : R b = false := out_new hr0 hbl
            subst hsv
            clear hcu hnx hks hat hh cs hci hfu hub H hbv hbl
            by_cases hcl : c.l.length = 0
            · have hcl' : ¬ (0 : Int) < (c.l.length : Int) := by omega
              have HCL := hid (List.eq_nil_of_length_eq_zero hcl)
              have HKY := hid (show keyOf ca c.l.length = .agg #[.pointer none, .int .i64 c.l.length] by simp [keyOf, hcl])
              clear hcl
              go_wp2_with (first
                | (go_at_call 131; refine (with_any c ca none cc 0 0 _).mono ?_; rintro e w7 ⟨rfl, q7⟩; replace q7 : Quiet wq w7 := q4.trans q7; obtain ⟨e0, e1⟩ := head_kept (low_kept q7.low) (⟨d0, d1⟩ : c.head wq b (j * 3)); have es : w7.cell? ⟨b, j * 3 + 2, none⟩ = some (.slice ca c.l.length cc) := q7.cell ds (fun e => e); have hv7 := (Keeps.quiet (R := R) q7 HH.out.1.low.size).isV hbr HH.out.2.2; have f0 := free_row hv7 (j * 3); have f1 := free_row hv7 (j * 3 + 1); have f2 := free_row hv7 (j * 3 + 2); have f3 := free_row hv7 (j * 3 + 3))
                | (go_at_call 144; refine (listOf_any ca c.l.length cc w3 (fun h => by rw [HCL.out] at h; simp at h)).mono ?_; rintro e w4 ⟨rfl, q4⟩; rw [HKY.out]; replace q4 := q3.trans q4; obtain ⟨e0, e1⟩ := head_kept (low_kept q4.low) (⟨d0, d1⟩ : c.head wq b (j * 3)); have es : w4.cell? ⟨b, j * 3 + 2, none⟩ = some (.slice ca c.l.length cc) := q4.cell ds (fun e => e))
                | (go_at_call 126; refine (inside_any c ca cc _).mono ?_; rintro e w3 ⟨rfl, q3⟩))
              have hcz : c.l.length = 0 := by rw [HCL.out]; rfl
              have hW := (HH.out.1.quiet hr0 q7).write hr0 (u := c) (ao' := none) (cap' := 0) (at_kept (Keeps.quiet q7 HH.out.1.low.size).cell c _ _ HAT.out) HBL.out hv7 (by rw [HCL.out]; exact Fo.nil _ _) (by rw [hcz]; exact wrt_set (v := c) (y := .slice none 0 0) ⟨e0, e1⟩ es)
              refine ⟨⟨j + 1, ks, by omega, by go_num, hW.1, ?_, hW.2.1 _ _ (HH.out.2.1.kept (Keeps.quiet q7 HH.out.1.low.size).cell), fun _ => ⟨b, rfl, HBL.out, hW.2.2 _ hv7⟩⟩, by simp [intOf]; omega⟩
              have h1 := HN.out; omega
            · have hcl' : (0 : Int) < (c.l.length : Int) := by omega
              obtain ⟨cb, co, hca⟩ : ∃ cb co, ca = some ⟨cb, co, none⟩ := by obtain ⟨b', o', e, _⟩ := HCI.out.fo 0 (by omega); exact ⟨b', o', e⟩
              subst hca
              have hcp : 0 < c.l.length := by omega
              have HKY := hid (show keyOf (some ⟨cb, co, none⟩) c.l.length = .agg #[.pointer (some ⟨cb, co, none⟩), .int .i64 c.l.length] by simp [keyOf, hcl])
              have key : ∀ w4, Quiet wq w4 → ∃ ps : List Kd, ps.map (·.1) = c.l ∧ (∀ p ∈ ps, Is (cutV R w.heap.size w4) p.1 p.2.1) ∧ (∀ j x, (tris ps)[j]? = some x → w4.cell? ((⟨cb, co, none⟩ : Addr).add j) = some x) ∧ (tris ps).length = c.l.length * 3 ∧ c.l.length = ps.length := by
                intro w4 q4
                obtain ⟨ps, h1, h2, h3⟩ := kids_of (HCI.out.fo.kept (Keeps.quiet q4 HH.out.1.low.size).cell)
                refine ⟨ps, h1, h2, fun j x hx => ?_, ?_, ?_⟩
                · rw [Addr.add_lit]; exact (cutV_cell (h3 j x hx)).1
                · rw [tris_len, ← h1, List.length_map]
                · rw [← h1, List.length_map]
              have HK := hid key
              have HHD2 := hid (show c.head wq b (j * 3) from ⟨d0, d1⟩)
              have hsq := hid HH.out.1.low.size
              have hszw := HH.out.1.low.size
              clear key
              go_wp2_with (first
                | (go_at_call 131; refine (with_any c (some ⟨cb, co, none⟩) (some ⟨G2, 0, none⟩) cc c.l.length cap5 _).mono ?_; rintro e w7 ⟨rfl, q7⟩; obtain ⟨e0, e1⟩ := head_kept (low_kept q7.low) H6.out.1; have es : w7.cell? ⟨b, j * 3 + 2, none⟩ = some (.slice (some ⟨cb, co, none⟩) c.l.length cc) := q7.cell H6.out.2.1 (fun e => e); have hv7 := (Keeps.quiet (R := R) q7 N6.out.1.low.size).isV hbr H6.out.2.2; have f0 := free_row hv7 (j * 3); have f1 := free_row hv7 (j * 3 + 1); have f2 := free_row hv7 (j * 3 + 2); have f3 := free_row hv7 (j * 3 + 3))
                | (at_builtin; refine wpList_append_lies _ rfl (.tmp 69) (.tmp 71) 212 rfl w.heap.size 36 j0 _ 1 24 Tryz.undL hj0 jz0 jz1 jz2 rfl (by decide) _ nk ((ts ++ ks).map slv) rfl (hr5.out.alloc _) ⟨w5.heap.size, 0, none⟩ 1 1 [slv (c.l, some ⟨G2, 0, none⟩, cap5)] rfl rfl (news_at w5 _ 36) (by simp [Value.oneCell', slv]) (by decide) (by unfold maxLen; omega) (by omega) (by simp; omega) _ rfl ?_; intro g6 cap6 w6 hr6 hg6 hat6 hlt6; have N6 := hid ((HH.out.1.quiet hr0 (q4.trans q5.out)).push hr0 (x := (c.l, some ⟨G2, 0, none⟩, cap5)) ⟨hC5.out.1, fun _ => ⟨G2, rfl, hG2.out, hC5.out.2⟩⟩ HNK.out hr6 hg6); have H6 := hid (And.intro (keeps_head N6.out.2 hbr hV5.out (head_kept (low_kept (q4.trans q5.out).low) HHD2.out)) (And.intro (keeps_cell N6.out.2 hbr hV5.out ((q4.trans q5.out).cell ds (fun e => e))) (N6.out.2.isV hbr hV5.out))); obtain ⟨g0, g1⟩ := H6.out.1; have gs := H6.out.2.1; clear hr6 hg6 hat6 hlt6)
                | (at_builtin; refine wpList_append_lies _ rfl (.const (.slice none 0 0)) (.tmp 67) 36 rfl w.heap.size 38 i0 _ 3 40 Tryz.undV hi0 hz0 hz1 hz2 rfl (by decide) (.slice none 0 0) 0 [] rfl (World.ownsRow_nil _ _ _ _) ⟨cb, co, none⟩ c.l.length cc (tris ps) rfl p4 p3 (tris_onec ps) hcp (by unfold maxLen; omega) (by omega) (by have := q4.size; omega) _ rfl ?_; intro G2 cap5 w5 hr5' hg5 hat5 hlt5; rw [Nat.zero_add, List.nil_append] at hr5'; have q5 := hid (quiet_none hg5); have hG2 := hid (show w.heap.size ≤ G2 by have := hat5.resolve_left (by simp [Value.ownBlock]); have := q4.size; omega); have hC5 := hid (copied HP.out.1 HP.out.2.1 (Keeps.quiet q5.out (by have := q4.size; omega)) hr5' HP.out.2.2 hcp (out_new hr0 hG2.out)); have hr5 := hid (show w5.ownsRow w.heap.size 36 1 (.slice av nk cv) nk ((ts ++ ks).map slv) by have := (HH.out.1.quiet hr0 (q4.trans q5.out)).row; rw [← HNK.out] at this; exact this); have hV5 := hid ((Keeps.quiet (R := R) (q4.trans q5.out) hsq.out).isV hbr HH.out.2.2); have hs5 := (q4.trans q5.out).size; clear hr5' hg5 hat5 hlt5)
                | (go_at_call 144; refine (listOf_any (some ⟨cb, co, none⟩) c.l.length cc w3 (fun h => ⟨cb, co, rfl⟩)).mono ?_; rintro e w4 ⟨rfl, q4⟩; rw [HKY.out]; replace q4 := q3.trans q4; obtain ⟨ps, p1, p2, p3, p4, p5⟩ := HK.out w4 q4; have HP := hid (And.intro p1 (And.intro p2 p5)); clear p1 p2 p5)
                | (go_at_call 126; refine (inside_any c (some ⟨cb, co, none⟩) cc _).mono ?_; rintro e w3 ⟨rfl, q3⟩))
              have k7 := Keeps.quiet (R := R) q7 N6.out.1.low.size
              have k5 := Keeps.quiet (R := R) (q4.trans q5.out) hsq.out
              have k57 := (k5.trans N6.out.2).trans k7
              have hW := (N6.out.1.quiet hr0 q7).write hr0 (u := c) (ao' := some ⟨G2, 0, none⟩) (cap' := cap5) (at_kept k57.cell c _ _ HAT.out) HBL.out hv7 (hC5.out.1.kept (N6.out.2.trans k7).cell) (wrt_set (v := c) (y := .slice (some ⟨G2, 0, none⟩) c.l.length cap5) ⟨e0, e1⟩ es)
              refine ⟨⟨j + 1, ks ++ [(c.l, some ⟨G2, 0, none⟩, cap5)], by omega, by go_num, by rw [← List.append_assoc]; exact hW.1, ?_, hW.2.1 _ _ (HH.out.2.1.kept k57.cell), fun _ => ⟨b, rfl, HBL.out, hW.2.2 _ hv7⟩⟩, by simp [intOf]; omega⟩
              have h1 := HN.out; rw [tsz_app, tsz_one, List.length_append]; simp only [List.length_cons, List.length_nil]; omega
          · have hjl : j = u.length := by omega
            subst hjl
            subst hsv
            have HH := hid (And.intro H hks)
            clear H hks hfu hub
            go_wp2
            go_roundg (tsz (ts ++ ks))
            case measure =>
              have h2 := HH.out.2; have h3 := HX.out
              rw [List.take_length] at h2; rw [tsz_app]; omega
            case rel =>
              refine ⟨ts ++ ks, rfl, ?_, HH.out.1⟩
              have h2 := HH.out.2; have h3 := HX.out
              rw [List.take_length] at h2; rw [tsz_app]; omega
end Go.Proofs.YtkpckmcaeljocaaGreat
