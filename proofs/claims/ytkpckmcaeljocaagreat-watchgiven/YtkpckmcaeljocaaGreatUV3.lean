/- Parts. -/
import Derived.Test.YtkpckmcaeljocaaGreatUV2
namespace Go.Proofs.YtkpckmcaeljocaaGreat
open Go.ChangeShapes Go.WideShapes Go.ChangeAt Go.RowKit
theorem gateQ_any (v : V) (ao : Option Addr) (cap : Nat) (w : World) : Calls Tryz.prog 189 #[.agg #[.int .i64 v.kind, .int .i64 v.n, .slice ao v.l.length cap]] w fun e w' => e = .returned (.bool (v.kind == 5)) ∧ Quiet w w' := by
  go_enter Tryz.func189, Tryz.ntmps189
  go_wp2
  go_ret
  exact ⟨by simp, Kp.alloc _ _⟩
set_option maxRecDepth 8000 in
set_option maxHeartbeats 4000000 in
theorem searchG_any (v : V) (ao : Option Addr) (cap : Nat) (W w : World) (hB : Below W.heap.size W w) (hI : Is W v ao) (hS : v.size ≤ 500) :
    Calls Tryz.prog 127 #[.agg #[.int .i64 v.kind, .int .i64 v.n, .slice ao v.l.length cap], .func (.func 126) #[] #[], .func (.func 189) #[] #[]] w fun e w' => e = .returned (.bool v.gate) ∧ Below W.heap.size W w' := by
  obtain ⟨i0, hi, hz0, hz1, hz2⟩ := info_parts Tryz.infoV
  have hst := hid (vs_start (o := .cells #[.int .i64 v.kind, .int .i64 v.n, .slice ao v.l.length cap] 38) (cap := cap) hI hB)
  clear hI hB
  go_enter Tryz.func127, Tryz.ntmps127
  go_wp2
  go_loopg [7] v.size (fun gk sv wr => ∃ (ts : List Kd), vsz ts = gk ∧ gk ≤ v.size ∧ VS W sv ts wr ∧ v.gate = gateIn (pend ts))
  case atStart => exact ⟨[(v, ao, cap)], vsz_one _, Nat.le_refl _, hst.out, by rw [pend_one]; rfl⟩
  case round =>
    rename World => wr
    clear hst
    obtain ⟨ts, hsz, hle, H, hinv⟩ := hrel
    rcases List.eq_nil_or_concat ts with rfl | ⟨ts, ⟨u, ua, uc⟩, rfl⟩
    · obtain ⟨av, cv, hsv⟩ := owns_shape H.row
      have HH := hid (And.intro H hinv)
      subst hsv
      clear hsz hle H hinv
      go_wp2
      go_ret
      refine ⟨?_, HH.out.1.low⟩
      rw [HH.out.2, pend_nil]; rfl
    · rw [List.concat_eq_append] at hsz H hinv
      have hr := H.row
      rw [tris_app, tris_one, List.length_append, List.length_cons, List.length_nil, Nat.zero_add] at hr
      obtain ⟨g, cp, hv⟩ := lies_shape hr (by omega)
      subst hv
      obtain ⟨hr', hc'⟩ := owns_pop hr rfl
      obtain ⟨t0, t1, t2⟩ := tri_cells hc'
      have huW := H.lie (u, ua, uc) (by simp)
      simp only at huW
      rw [vsz_app, vsz_one] at hsz
      simp only at hsz
      have htl := vsz_len ts
      have hus := size_eq u
      have hul := sizes_len u.l
      have hcp := owns_cap hr
      have hul5 : u.l.length ≤ 500 := by omega
      have htl5 : ts.length ≤ 500 := by omega
      have HX := hid (And.intro hsz (And.intro hus (And.intro hle hinv)))
      have HH := hid (show VS W (.slice (some ⟨g, 0, none⟩) ts.length cp) ts wr from ⟨hr', fun p hp => H.lie p (by simp [hp]), H.low⟩)
      have HU := hid huW
      rw [pend_pop] at hinv
      have HE := hid hinv
      clear hc' hr hsz hle H hr' huW hus hinv
      cases hk : (u.kind == 5) with
      | true =>
        have hE := hid (show v.gate = true by rw [HE.out]; simp [gateIn, hk])
        go_wp2_with (go_at_call 189; refine (gateQ_any u ua uc _).mono ?_; rintro e w2 ⟨rfl, q2⟩; rw [hk])
        go_ret
        exact ⟨by rw [hE.out]; rfl, (HH.out.quiet ((Kp.alloc _ _).trans q2)).low⟩
      | false =>
        have hE := hid (show v.gate = gateIn (pres u.l ++ pend ts) by rw [HE.out]; simp [gateIn, hk])
        go_wp2_with (first
          | (go_at_call 126; refine (inside_any u ua uc _).mono ?_; rintro e w3 ⟨rfl, q3⟩)
          | (go_at_call 189; refine (gateQ_any u ua uc _).mono ?_; rintro e w2 ⟨rfl, q2⟩; rw [hk]; have hbx : w2.heap[wr.heap.size]? = some (.cells #[.int .i64 u.kind, .int .i64 u.n, .slice ua u.l.length uc] 38 (0, 0)) := (q2.block _ (by simp) (fun e => e)).trans (heap_alloc_new wr _); obtain ⟨y0, y1, y2⟩ := box_cells hbx; clear hbx))
        have H3 := hid (And.intro (HH.out.quiet ((Kp.alloc _ _).trans (q2.trans q3))) trivial)
        clear y0 y1 y2 t0 t1 t2
        go_loopw [7, 35] (fun sv i w5 => ∃ (j : Nat) (ks : List Kd), j ≤ u.l.length ∧ i = .int .i64 j ∧ ks.map (·.1) = u.l.reverse.take j ∧ VS W sv (ts ++ ks) w5 ∧ True) (fun _ i _ => u.l.length - (intOf i).toNat)
        case atStart => exact ⟨0, [], Nat.zero_le _, rfl, by simp, by rw [List.append_nil]; exact H3.out.1, H3.out.2⟩
        case round =>
          rename World => wq
          clear H3 HH
          obtain ⟨j, ks, hj, rfl, hks, H, hst⟩ := hrel
          have hl3 : ks.length = j := by have := congrArg List.length hks; rw [List.length_map, List.length_take, List.length_reverse] at this; omega
          obtain ⟨nk, hnk⟩ : ∃ nk, nk = (ts ++ ks).length := ⟨_, rfl⟩
          have hnk5 : nk ≤ 1000 := by rw [hnk, List.length_append, hl3]; omega
          have hrk := H.row
          rw [← hnk] at hrk
          obtain ⟨av, cv, hsv⟩ := owns_shape hrk
          have HNK := hid hnk
          clear hnk hl3
          by_cases hlt : j < u.l.length
          · have hidx : (u.l.length : Int) - 1 - (j : Int) = ((u.l.length - 1 - j : Nat) : Int) := by omega
            have hq : u.l.length - 1 - j < u.l.length := by omega
            obtain ⟨xb, xo, hxa, xh, xa, xc, xs, hxi⟩ := HU.out.fo.get (u.l.length - 1 - j) hq
            obtain ⟨x0, x1⟩ := head_kept (low_kept H.low) xh
            have xsk := low_kept H.low _ _ xs
            have HN := hid (show u.l.reverse.take (j + 1) = u.l.reverse.take j ++ [u.l[u.l.length - 1 - j]] from rev_take u.l j hlt)
            generalize hcu : u.l[u.l.length - 1 - j] = x at *
            have HXX := hid (And.intro hxi hks)
            have HH := hid (And.intro H hst)
            have HRK := hid hrk
            have hsz := H.low.size
            subst hsv
            subst hxa
            clear hcu xh xs hxi hks H hst hrk hq
            go_wp2_with (at_builtin; refine wpList_append_lies _ rfl (.tmp 38) (.tmp 47) 36 rfl W.heap.size 38 i0 _ 3 40 Tryz.undV hi hz0 hz1 hz2 rfl (by decide) _ nk (tris (ts ++ ks)) rfl (HRK.out.alloc _) ⟨wq.heap.size, 0, none⟩ 1 1 (tri (x, xa, xc)) rfl rfl (news_at wq _ 38) (tri_one _) (by decide) (by unfold maxLen; omega) (by omega) (by simp; omega) _ rfl ?_; intro g2 cap2 w1 hr1 hg1 hat hlt1; have hD := hid (HH.out.1.push (x := (x, xa, xc)) HXX.out.1 HNK.out hr1 hg1); have hI := hid (trivial); clear hr1 hg1 hat hlt1)
            exact ⟨⟨j + 1, ks ++ [(x, xa, xc)], by omega, by go_num, by rw [List.map_append, HXX.out.2, HN.out]; rfl, by rw [← List.append_assoc]; exact hD.out, hI.out⟩, by simp [intOf]; omega⟩
          · have hjl : j = u.l.length := by omega
            subst hjl
            have hpr : u.l.reverse.take u.l.length = u.l.reverse := List.take_of_length_le (by simp)
            rw [hpr] at hks
            have HH := hid (And.intro H (And.intro hst hks))
            subst hsv
            clear H hrk hks hst
            go_wp2
            go_roundg (vsz (ts ++ ks))
            case measure =>
              have h3 := HX.out; have h4 := vsz_map ks
              rw [HH.out.2.2, sizes_rev] at h4
              rw [vsz_app]; omega
            case rel =>
              refine ⟨ts ++ ks, rfl, ?_, HH.out.1, by rw [pend_push ts ks u HH.out.2.2, ← hE.out]⟩
              have h3 := HX.out; have h4 := vsz_map ks
              rw [HH.out.2.2, sizes_rev] at h4
              rw [vsz_app]; omega
theorem checkQ_any (v : V) (ao : Option Addr) (cap bc : Nat) (c : Int) (w : World) (hc : w.heap[bc]? = some (.cells #[.int .i64 c] 3 (0, 0))) :
    Calls Tryz.prog 128 #[.agg #[.int .i64 v.kind, .int .i64 v.n, .slice ao v.l.length cap], .pointer (some ⟨bc, 0, none⟩)] w fun e w' => e = .returned (.bool (v.fault1 != 0)) ∧ w'.heap[bc]? = some (.cells #[.int .i64 v.fault1] 3 (0, 0)) ∧ Kp (fun k => k = bc) w w' := by
  have hlt := lt_of_block hc
  go_enter Tryz.func128, Tryz.ntmps128
  go_wp2_with (go_at_call 129; refine (fault_any v ao cap _).mono ?_; rintro e w2 ⟨rfl, q2⟩; have hb : w2.heap[bc]? = some (.cells #[.int .i64 c] 3 (0, 0)) := (((Kp.alloc _ _).trans q2).block bc hlt (fun h => h)).trans hc; have k0 := cell_of_one hb; have k1 := free_of_one hb)
  go_ret
  refine ⟨by simp, one_setCell hb, ?_⟩
  exact ((((Kp.alloc w _).trans q2).mono fun _ _ h => h.elim)).trans (Kp.setCell _ _ _ rfl)
theorem vs_code {W w w2 : World} {sv : Value} {ts : List Kd} {o : Obj} {bc : Nat} {c c' : Int} (H : VS W sv ts w) (hc : w.heap[bc]? = some (.cells #[.int .i64 c] 3 (0, 0))) (hbc : W.heap.size ≤ bc) (_ : w2.heap[bc]? = some (.cells #[.int .i64 c'] 3 (0, 0))) (q : Kp (fun k => k = bc) (w.alloc o) w2) : VS W sv ts w2 :=
  (H.quiet (Kp.alloc w o)).step q (fun k e => by omega) fun k e e2 => by subst e2; exact row_other H.row hc (by decide) e
theorem code_kept {w w1 : World} {sv : Value} {n : Nat} {xs : List Value} {B bc : Nat} {c : Int} {o : Obj} (hc : w.heap[bc]? = some (.cells #[.int .i64 c] 3 (0, 0))) (hr : w.ownsRow B 38 3 sv n xs) (hg : (w.alloc o).grownBy w1 sv.ownBlock) : w1.heap[bc]? = some (.cells #[.int .i64 c] 3 (0, 0)) := by
  have hlt := lt_of_block hc
  rw [hg.block bc (by simp; omega) (fun e => row_other hr hc (by decide) e.symm), Below.heap_alloc _ _ _ hlt]
  exact hc
theorem first_cons (v : V) (l : List V) : first (v :: l) = if v.fault1 = 0 then first l else v.fault1 := rfl
set_option maxRecDepth 8000 in
set_option maxHeartbeats 4000000 in
theorem searchC_any (v : V) (ao : Option Addr) (cap : Nat) (bc : Nat) (c : Int) (W w : World) (hB : Below W.heap.size W w) (hI : Is W v ao) (hS : v.size ≤ 500) (hbc : W.heap.size ≤ bc) (hc : w.heap[bc]? = some (.cells #[.int .i64 c] 3 (0, 0))) :
    Calls Tryz.prog 127 #[.agg #[.int .i64 v.kind, .int .i64 v.n, .slice ao v.l.length cap], .func (.func 126) #[] #[], .func (.func 128) #[] #[.pointer (some ⟨bc, 0, none⟩)]] w fun e w' => (∃ r, e = .returned (.bool r)) ∧ w'.heap[bc]? = some (.cells #[.int .i64 v.fault] 3 (0, 0)) ∧ Below W.heap.size W w' := by
  obtain ⟨i0, hi, hz0, hz1, hz2⟩ := info_parts Tryz.infoV
  have hst := hid (vs_start (o := .cells #[.int .i64 v.kind, .int .i64 v.n, .slice ao v.l.length cap] 38) (cap := cap) hI hB)
  have hc1 := hid (show ((w.alloc (.cells #[.int .i64 v.kind, .int .i64 v.n, .slice ao v.l.length cap] 38)).alloc (.cells #[.int .i64 v.kind, .int .i64 v.n, .slice ao v.l.length cap] 38)).heap[bc]? = some (.cells #[.int .i64 c] 3 (0, 0)) by
    have hlt := lt_of_block hc
    rw [Below.heap_alloc _ _ _ (by simp; omega), Below.heap_alloc _ _ _ hlt]; exact hc)
  clear hc
  clear hI hB
  go_enter Tryz.func127, Tryz.ntmps127
  go_wp2
  go_loopg [7] v.size (fun gk sv wr => ∃ (ts : List Kd) (c : Int), vsz ts = gk ∧ gk ≤ v.size ∧ VS W sv ts wr ∧ wr.heap[bc]? = some (.cells #[.int .i64 c] 3 (0, 0)) ∧ v.fault = first (pend ts) ∧ (ts = [] → c = 0))
  case atStart => exact ⟨[(v, ao, cap)], c, vsz_one _, Nat.le_refl _, hst.out, hc1.out, by rw [pend_one]; rfl, fun e => by simp at e⟩
  case round =>
    rename World => wr
    clear hst
    obtain ⟨ts, c, hsz, hle, H, hinv⟩ := hrel
    rcases List.eq_nil_or_concat ts with rfl | ⟨ts, ⟨u, ua, uc⟩, rfl⟩
    · obtain ⟨av, cv, hsv⟩ := owns_shape H.row
      have HH := hid (And.intro H (And.intro hinv.1 (And.intro hinv.2.1 (hinv.2.2 rfl))))
      subst hsv
      clear hsz hle H hinv
      go_wp2
      go_ret
      refine ⟨(by first | exact ⟨_, rfl⟩ | rfl), ?_, HH.out.1.low⟩
      rw [HH.out.2.2.1, pend_nil, HH.out.2.1, HH.out.2.2.2]; rfl
    · rw [List.concat_eq_append] at hsz H hinv
      have hr := H.row
      rw [tris_app, tris_one, List.length_append, List.length_cons, List.length_nil, Nat.zero_add] at hr
      obtain ⟨g, cp, hv⟩ := lies_shape hr (by omega)
      subst hv
      obtain ⟨hr', hc'⟩ := owns_pop hr rfl
      obtain ⟨t0, t1, t2⟩ := tri_cells hc'
      have huW := H.lie (u, ua, uc) (by simp)
      simp only at huW
      rw [vsz_app, vsz_one] at hsz
      simp only at hsz
      have htl := vsz_len ts
      have hus := size_eq u
      have hul := sizes_len u.l
      have hcp := owns_cap hr
      have hul5 : u.l.length ≤ 500 := by omega
      have htl5 : ts.length ≤ 500 := by omega
      have HX := hid (And.intro hsz (And.intro hus hle))
      have HH := hid (show VS W (.slice (some ⟨g, 0, none⟩) ts.length cp) ts wr from ⟨hr', fun p hp => H.lie p (by simp [hp]), H.low⟩)
      have HU := hid huW
      obtain ⟨hcd, hfa, _⟩ := hinv
      rw [pend_pop, first_cons] at hfa
      have HE := hid hfa
      have hlt := lt_of_block hcd
      have hcb := hid hcd
      have HQ := hid (fun (o' : Obj) => checkQ_any u ua uc bc c (wr.alloc o') ((Below.heap_alloc wr o' bc hlt).trans hcd))
      clear hc' hr hsz hle H hr' huW hus
      by_cases hk : u.fault1 = 0
      · have hk' : (u.fault1 != 0) = false := by simp [hk]
        have hE := hid (show v.fault = first (pres u.l ++ pend ts) by rw [HE.out, if_pos hk])
        clear hcd hfa
        go_wp2_with (first
          | (go_at_call 126; refine (inside_any u ua uc _).mono ?_; rintro e w3 ⟨rfl, q3⟩)
          | (go_at_call 128; refine (HQ.out _).mono ?_; rintro e w2 ⟨rfl, hb2, q2⟩; rw [hk']; rw [hk] at hb2; have hbx : w2.heap[wr.heap.size]? = some (.cells #[.int .i64 u.kind, .int .i64 u.n, .slice ua u.l.length uc] 38 (0, 0)) := (q2.block _ (by simp) (by show ¬ wr.heap.size = bc; omega)).trans (heap_alloc_new wr _); obtain ⟨y0, y1, y2⟩ := box_cells hbx; clear hbx))
        have H3 := hid (And.intro ((vs_code HH.out hcb.out hbc hb2 q2).quiet q3) ((q3.block _ (lt_of_block hb2) (fun e => e)).trans hb2))
        clear y0 y1 y2 t0 t1 t2
        go_loopw [7, 35] (fun sv i w5 => ∃ (j : Nat) (ks : List Kd), j ≤ u.l.length ∧ i = .int .i64 j ∧ ks.map (·.1) = u.l.reverse.take j ∧ VS W sv (ts ++ ks) w5 ∧ w5.heap[bc]? = some (.cells #[.int .i64 0] 3 (0, 0))) (fun _ i _ => u.l.length - (intOf i).toNat)
        case atStart => exact ⟨0, [], Nat.zero_le _, rfl, by simp, by rw [List.append_nil]; exact H3.out.1, H3.out.2⟩
        case round =>
          rename World => wq
          clear H3 HH
          obtain ⟨j, ks, hj, rfl, hks, H, hst⟩ := hrel
          have hl3 : ks.length = j := by have := congrArg List.length hks; rw [List.length_map, List.length_take, List.length_reverse] at this; omega
          obtain ⟨nk, hnk⟩ : ∃ nk, nk = (ts ++ ks).length := ⟨_, rfl⟩
          have hnk5 : nk ≤ 1000 := by rw [hnk, List.length_append, hl3]; omega
          have hrk := H.row
          rw [← hnk] at hrk
          obtain ⟨av, cv, hsv⟩ := owns_shape hrk
          have HNK := hid hnk
          clear hnk hl3
          by_cases hlt : j < u.l.length
          · have hidx : (u.l.length : Int) - 1 - (j : Int) = ((u.l.length - 1 - j : Nat) : Int) := by omega
            have hq : u.l.length - 1 - j < u.l.length := by omega
            obtain ⟨xb, xo, hxa, xh, xa, xc, xs, hxi⟩ := HU.out.fo.get (u.l.length - 1 - j) hq
            obtain ⟨x0, x1⟩ := head_kept (low_kept H.low) xh
            have xsk := low_kept H.low _ _ xs
            have HN := hid (show u.l.reverse.take (j + 1) = u.l.reverse.take j ++ [u.l[u.l.length - 1 - j]] from rev_take u.l j hlt)
            generalize hcu : u.l[u.l.length - 1 - j] = x at *
            have HXX := hid (And.intro hxi hks)
            have HH := hid (And.intro H hst)
            have HRK := hid hrk
            have hsz := H.low.size
            subst hsv
            subst hxa
            clear hcu xh xs hxi hks H hst hrk hq
            go_wp2_with (at_builtin; refine wpList_append_lies _ rfl (.tmp 38) (.tmp 47) 36 rfl W.heap.size 38 i0 _ 3 40 Tryz.undV hi hz0 hz1 hz2 rfl (by decide) _ nk (tris (ts ++ ks)) rfl (HRK.out.alloc _) ⟨wq.heap.size, 0, none⟩ 1 1 (tri (x, xa, xc)) rfl rfl (news_at wq _ 38) (tri_one _) (by decide) (by unfold maxLen; omega) (by omega) (by simp; omega) _ rfl ?_; intro g2 cap2 w1 hr1 hg1 hat hlt1; have hD := hid (HH.out.1.push (x := (x, xa, xc)) HXX.out.1 HNK.out hr1 hg1); have hI := hid ((code_kept HH.out.2 HRK.out hg1)); clear hr1 hg1 hat hlt1)
            exact ⟨⟨j + 1, ks ++ [(x, xa, xc)], by omega, by go_num, by rw [List.map_append, HXX.out.2, HN.out]; rfl, by rw [← List.append_assoc]; exact hD.out, hI.out⟩, by simp [intOf]; omega⟩
          · have hjl : j = u.l.length := by omega
            subst hjl
            have hpr : u.l.reverse.take u.l.length = u.l.reverse := List.take_of_length_le (by simp)
            rw [hpr] at hks
            have HH := hid (And.intro H (And.intro hst hks))
            subst hsv
            clear H hrk hks hst
            go_wp2
            go_roundg (vsz (ts ++ ks))
            case measure =>
              have h3 := HX.out; have h4 := vsz_map ks
              rw [HH.out.2.2, sizes_rev] at h4
              rw [vsz_app]; omega
            case rel =>
              refine ⟨ts ++ ks, 0, rfl, ?_, HH.out.1, HH.out.2.1, by rw [pend_push ts ks u HH.out.2.2, ← hE.out], fun _ => rfl⟩
              have h3 := HX.out; have h4 := vsz_map ks
              rw [HH.out.2.2, sizes_rev] at h4
              rw [vsz_app]; omega
      · have hk' : (u.fault1 != 0) = true := by simp [hk]
        have hE := hid (show v.fault = u.fault1 by rw [HE.out, if_neg hk])
        clear hcd hfa
        go_wp2_with (go_at_call 128; refine (HQ.out _).mono ?_; rintro e w2 ⟨rfl, hb2, q2⟩; rw [hk'])
        go_ret
        exact ⟨⟨_, rfl⟩, by rw [hE.out]; exact hb2, (vs_code HH.out hcb.out hbc hb2 q2).low⟩
structure CS (B : Nat) (w : World) (bc : Nat) (sv : Value) (cs : List Int) : Prop where
  obj : w.heap[bc]? = some (.cells #[sv] 130 (0, 0))
  row : w.ownsRow B 3 1 sv cs.length (ints cs)
  nb : sv.ownBlock ≠ some bc
  lo : B ≤ bc
  nil : cs = [] → sv = .slice none 0 0
theorem CS.quiet {B : Nat} {w w' : World} {bc : Nat} {sv : Value} {cs : List Int} (h : CS B w bc sv cs) (q : Quiet w w') : CS B w' bc sv cs :=
  { h with obj := (q.block bc (lt_of_block h.obj) fun e => e).trans h.obj, row := q.row h.row fun _ _ e => e }
def CSOwn (bc : Nat) (sv : Value) (k : Nat) : Prop := k = bc ∨ sv.ownBlock = some k
theorem caps_step {B : Nat} {w w1 : World} {bc : Nat} {sv : Value} {cs : List Int} {o1 o2 : Obj} {x : Int} {g cap : Nat} (h : CS B w bc sv cs)
    (hr : w1.ownsRow B 3 1 (.slice (some ⟨g, 0, none⟩) (cs.length + 1) cap) (cs.length + 1) (ints cs ++ [.int .i64 x])) (hg : ((w.alloc o1).alloc o2).grownBy w1 sv.ownBlock) (hat : sv.ownBlock = some g ∨ g = w.heap.size + 2) :
    CS B (w1.setCell ⟨bc, 0, none⟩ (.slice (some ⟨g, 0, none⟩) (cs.length + 1) cap)) bc (.slice (some ⟨g, 0, none⟩) (cs.length + 1) cap) (cs ++ [x]) ∧ Kp (CSOwn bc sv) w (w1.setCell ⟨bc, 0, none⟩ (.slice (some ⟨g, 0, none⟩) (cs.length + 1) cap)) := by
  have hlt := lt_of_block h.obj
  have q0 : Quiet w ((w.alloc o1).alloc o2) := (Kp.alloc _ _).trans (Kp.alloc _ _)
  have q1 : Kp (fun k => sv.ownBlock = some k) ((w.alloc o1).alloc o2) w1 := Kp.grown hg fun k _ e => e.symm
  have hb : w1.heap[bc]? = some (.cells #[sv] 130 (0, 0)) := ((q1.block bc (by have := q0.size; omega) h.nb).trans (q0.block bc hlt fun e => e)).trans h.obj
  have hgb : g ≠ bc := by
    rintro rfl
    rcases hat with e | e
    · exact h.nb e
    · omega
  refine ⟨⟨one_setCell hb, ?_, by simp [Value.ownBlock]; exact hgb, h.lo, fun e => by simp at e⟩, ?_⟩
  · have := (Kp.setCell (F := fun k => k = bc) w1 ⟨bc, 0, none⟩ (.slice (some ⟨g, 0, none⟩) (cs.length + 1) cap) rfl).row hr (fun k e => by simp [Value.ownBlock] at e; omega)
    simpa [ints] using this
  · exact ((q0.mono fun _ _ e => e.elim).trans (q1.mono fun _ _ e => .inr e)).trans (Kp.setCell _ _ _ (.inl rfl))
def capOf (k n : Int) : List Int := if k = 4 then [n] else []
set_option maxRecDepth 8000 in
set_option maxHeartbeats 1000000 in
theorem capsQ_any (v : V) (ao : Option Addr) (cap bc B : Nat) (sv : Value) (cs : List Int) (w : World) (h : CS B w bc sv cs) (hB : B ≤ w.heap.size) (hcs : cs.length ≤ 500) :
    Calls Tryz.prog 190 #[.agg #[.int .i64 v.kind, .int .i64 v.n, .slice ao v.l.length cap], .pointer (some ⟨bc, 0, none⟩)] w fun e w' => e = .returned (.bool false) ∧ ∃ sv', CS B w' bc sv' (cs ++ capOf v.kind v.n) ∧ Kp (CSOwn bc sv) w w' := by
  obtain ⟨i0, hi, hz0, hz1, hz2⟩ := info_parts Tryz.infoI
  obtain ⟨k, n, l⟩ := v
  have hlt := lt_of_block h.obj
  by_cases hk : k = 4
  · subst hk
    have h1 := h.quiet (Kp.alloc w (.cells #[.int .i64 4, .int .i64 n, .slice ao l.length cap] 38))
    have h2 := h1.quiet (Kp.alloc _ (.cells #[.int .i64 n] 3))
    have c1 := cell_of_one h1.obj
    have hrow := h2.row
    obtain ⟨av, cv, hsv⟩ := owns_shape hrow
    have hE := hid (show capOf 4 n = [n] by simp [capOf])
    have HH := hid h
    have hf : ∀ (w1 : World), ((w.alloc (.cells #[.int .i64 4, .int .i64 n, .slice ao l.length cap] 38)).alloc (.cells #[.int .i64 n] 3)).grownBy w1 sv.ownBlock → w1.cell? ⟨bc, 0, none⟩ = some sv ∧ w1.frozen? ⟨bc, 0, none⟩ = false := by
      intro w1 hg
      have q1 : Kp (fun k => sv.ownBlock = some k) _ w1 := Kp.grown hg fun k _ e => e.symm
      have hb := (q1.block bc (lt_of_block h2.obj) h.nb).trans h2.obj
      exact ⟨cell_of_one hb, free_of_one hb⟩
    subst hsv
    clear h h1 h2
    go_enter Tryz.func190, Tryz.ntmps190
    go_wp2_with (at_builtin; refine wpList_append_lies _ rfl (.tmp 7) (.tmp 10) 130 rfl B 3 i0 _ 1 8 Tryz.undI hi hz0 hz1 hz2 rfl (by decide) _ cs.length (ints cs) rfl hrow ⟨w.heap.size + 1, 0, none⟩ 1 1 [.int .i64 n] rfl rfl (news_from (t := 3) (heap_two w _ _)) (by simp [Value.oneCell']) (by decide) (by unfold maxLen; omega) (by omega) (by simp; omega) (w.heap.size + 2) (by simp) ?_; intro g2 cap2 w1 hr1 hg1 hat hlt1; have hS := hid (caps_step (x := n) HH.out hr1 hg1 hat); have f1 := (hf w1 hg1).2; have f0 := (hf w1 hg1).1; clear hr1 hg1 hat hlt1)
    go_ret
    exact ⟨rfl, _, by rw [hE.out]; exact hS.out.1, hS.out.2⟩
  · have hE := hid (show capOf k n = [] by simp [capOf, hk])
    go_enter Tryz.func190, Tryz.ntmps190
    go_wp2
    go_ret
    refine ⟨rfl, sv, ?_, Kp.alloc _ _⟩
    rw [hE.out, List.append_nil]
    exact h.quiet (Kp.alloc _ _)
theorem caps_fresh {w : World} {B bc : Nat} {sv : Value} {cs : List Int} (h : CS B w bc sv cs) : ¬ CSOwn bc sv w.heap.size := by
  rintro (e | e)
  · have := lt_of_block h.obj; omega
  · have := (h.row.lt _ e).2; omega
theorem vs_caps {W w w2 : World} {sv sv2 : Value} {ts : List Kd} {o : Obj} {bc : Nat} {cs : List Int} (H : VS W sv ts w) (hc : CS W.heap.size w bc sv2 cs) (q : Kp (CSOwn bc sv2) (w.alloc o) w2) : VS W sv ts w2 := by
  refine (H.quiet (Kp.alloc w o)).step q (fun k e => ?_) fun k e e2 => ?_
  · rcases e with e | e
    · rw [e]; exact hc.lo
    · exact (hc.row.lt k e).1
  · rcases e2 with e2 | e2
    · subst e2; exact row_other H.row hc.obj (by decide) e
    · exact rows_apart H.row hc.row (by decide) k e e2
theorem caps_kept {w w1 : World} {sv sv2 : Value} {n : Nat} {xs : List Value} {B B2 bc : Nat} {cs : List Int} {o : Obj} (h : CS B2 w bc sv2 cs) (hr : w.ownsRow B 38 3 sv n xs) (hg : (w.alloc o).grownBy w1 sv.ownBlock) : CS B2 w1 bc sv2 cs := by
  have hlt := lt_of_block h.obj
  refine { h with obj := ?_, row := ?_ }
  · rw [hg.block bc (by simp; omega) (fun e => row_other hr h.obj (by decide) e.symm), Below.heap_alloc _ _ _ hlt]; exact h.obj
  · exact Kp.row (F := fun k => sv.ownBlock = some k) (Kp.grown hg fun k _ e => e.symm) (h.row.alloc o) fun k e e2 => rows_apart h.row hr (by decide) k e e2
theorem capsIn_cons (v : V) (l : List V) : capsIn (v :: l) = capOf v.kind v.n ++ capsIn l := by
  by_cases h : v.kind = 4 <;> simp [capsIn, capOf, h]
set_option maxRecDepth 8000 in
set_option maxHeartbeats 4000000 in
theorem searchP_any (v : V) (ao : Option Addr) (cap : Nat) (bc : Nat) (sv : Value) (W w : World) (hB : Below W.heap.size W w) (hI : Is W v ao) (hS : v.size ≤ 500) (hc : CS W.heap.size w bc sv []) :
    Calls Tryz.prog 127 #[.agg #[.int .i64 v.kind, .int .i64 v.n, .slice ao v.l.length cap], .func (.func 126) #[] #[], .func (.func 190) #[] #[.pointer (some ⟨bc, 0, none⟩)]] w fun e w' => e = .returned (.bool false) ∧ (∃ sv', CS W.heap.size w' bc sv' v.caps) ∧ Below W.heap.size W w' := by
  obtain ⟨i0, hi, hz0, hz1, hz2⟩ := info_parts Tryz.infoV
  have hst := hid (vs_start (o := .cells #[.int .i64 v.kind, .int .i64 v.n, .slice ao v.l.length cap] 38) (cap := cap) hI hB)
  have hc1 := hid (show CS W.heap.size ((w.alloc (.cells #[.int .i64 v.kind, .int .i64 v.n, .slice ao v.l.length cap] 38)).alloc (.cells #[.int .i64 v.kind, .int .i64 v.n, .slice ao v.l.length cap] 38)) bc sv [] from hc.quiet ((Kp.alloc _ _).trans (Kp.alloc _ _)))
  clear hc
  clear hI hB
  go_enter Tryz.func127, Tryz.ntmps127
  go_wp2
  go_loopg [7] v.size (fun gk sv wr => ∃ (ts : List Kd) (sv4 : Value) (cs : List Int), vsz ts = gk ∧ gk ≤ v.size ∧ VS W sv ts wr ∧ CS W.heap.size wr bc sv4 cs ∧ v.caps = cs ++ capsIn (pend ts))
  case atStart => exact ⟨[(v, ao, cap)], sv, [], vsz_one _, Nat.le_refl _, hst.out, hc1.out, by rw [pend_one]; rfl⟩
  case round =>
    rename World => wr
    clear hst
    obtain ⟨ts, sv4, cs, hsz, hle, H, hinv⟩ := hrel
    rcases List.eq_nil_or_concat ts with rfl | ⟨ts, ⟨u, ua, uc⟩, rfl⟩
    · obtain ⟨av, cv, hsv⟩ := owns_shape H.row
      have HH := hid (And.intro H hinv)
      subst hsv
      clear hsz hle H hinv
      go_wp2
      go_ret
      refine ⟨rfl, ⟨sv4, ?_⟩, HH.out.1.low⟩
      rw [HH.out.2.2, pend_nil]; simpa [capsIn] using HH.out.2.1
    · rw [List.concat_eq_append] at hsz H hinv
      have hr := H.row
      rw [tris_app, tris_one, List.length_append, List.length_cons, List.length_nil, Nat.zero_add] at hr
      obtain ⟨g, cp, hv⟩ := lies_shape hr (by omega)
      subst hv
      obtain ⟨hr', hc'⟩ := owns_pop hr rfl
      obtain ⟨t0, t1, t2⟩ := tri_cells hc'
      have huW := H.lie (u, ua, uc) (by simp)
      simp only at huW
      rw [vsz_app, vsz_one] at hsz
      simp only at hsz
      have htl := vsz_len ts
      have hus := size_eq u
      have hul := sizes_len u.l
      have hcp := owns_cap hr
      have hul5 : u.l.length ≤ 500 := by omega
      have htl5 : ts.length ≤ 500 := by omega
      have HX := hid (And.intro hsz (And.intro hus hle))
      have HH := hid (show VS W (.slice (some ⟨g, 0, none⟩) ts.length cp) ts wr from ⟨hr', fun p hp => H.lie p (by simp [hp]), H.low⟩)
      have HU := hid huW
      obtain ⟨hcd, hfa⟩ := hinv
      rw [pend_pop, capsIn_cons] at hfa
      have hcs5 : cs.length ≤ 500 := by have h1 := caps_len v; rw [hfa, List.length_append] at h1; omega
      have HE := hid hfa
      have HCS := hid hcd
      have HQ := hid (fun (o' : Obj) => capsQ_any u ua uc bc W.heap.size sv4 cs (wr.alloc o') (hcd.quiet (Kp.alloc wr o')) (by have := H.low.size; simp; omega) hcs5)
      clear hc' hr hsz hle H hr' huW hus
      have hE := hid (show v.caps = cs ++ (capOf u.kind u.n ++ capsIn (pres u.l ++ pend ts)) from HE.out)
      clear hcd hfa
      go_wp2_with (first
        | (go_at_call 126; refine (inside_any u ua uc _).mono ?_; rintro e w3 ⟨rfl, q3⟩)
        | (go_at_call 190; refine (HQ.out _).mono ?_; rintro e w2 ⟨rfl, sv5, hb2, q2⟩; have hbx : w2.heap[wr.heap.size]? = some (.cells #[.int .i64 u.kind, .int .i64 u.n, .slice ua u.l.length uc] 38 (0, 0)) := (q2.block _ (by simp) (caps_fresh HCS.out)).trans (heap_alloc_new wr _); obtain ⟨y0, y1, y2⟩ := box_cells hbx; clear hbx))
      have H3 := hid (And.intro ((vs_caps HH.out HCS.out q2).quiet q3) (hb2.quiet q3))
      clear y0 y1 y2 t0 t1 t2
      go_loopw [7, 35] (fun sv i w5 => ∃ (j : Nat) (ks : List Kd), j ≤ u.l.length ∧ i = .int .i64 j ∧ ks.map (·.1) = u.l.reverse.take j ∧ VS W sv (ts ++ ks) w5 ∧ CS W.heap.size w5 bc sv5 (cs ++ capOf u.kind u.n)) (fun _ i _ => u.l.length - (intOf i).toNat)
      case atStart => exact ⟨0, [], Nat.zero_le _, rfl, by simp, by rw [List.append_nil]; exact H3.out.1, H3.out.2⟩
      case round =>
        rename World => wq
        clear H3 HH
        obtain ⟨j, ks, hj, rfl, hks, H, hst⟩ := hrel
        have hl3 : ks.length = j := by have := congrArg List.length hks; rw [List.length_map, List.length_take, List.length_reverse] at this; omega
        obtain ⟨nk, hnk⟩ : ∃ nk, nk = (ts ++ ks).length := ⟨_, rfl⟩
        have hnk5 : nk ≤ 1000 := by rw [hnk, List.length_append, hl3]; omega
        have hrk := H.row
        rw [← hnk] at hrk
        obtain ⟨av, cv, hsv⟩ := owns_shape hrk
        have HNK := hid hnk
        clear hnk hl3
        by_cases hlt : j < u.l.length
        · have hidx : (u.l.length : Int) - 1 - (j : Int) = ((u.l.length - 1 - j : Nat) : Int) := by omega
          have hq : u.l.length - 1 - j < u.l.length := by omega
          obtain ⟨xb, xo, hxa, xh, xa, xc, xs, hxi⟩ := HU.out.fo.get (u.l.length - 1 - j) hq
          obtain ⟨x0, x1⟩ := head_kept (low_kept H.low) xh
          have xsk := low_kept H.low _ _ xs
          have HN := hid (show u.l.reverse.take (j + 1) = u.l.reverse.take j ++ [u.l[u.l.length - 1 - j]] from rev_take u.l j hlt)
          generalize hcu : u.l[u.l.length - 1 - j] = x at *
          have HXX := hid (And.intro hxi hks)
          have HH := hid (And.intro H hst)
          have HRK := hid hrk
          have hsz := H.low.size
          subst hsv
          subst hxa
          clear hcu xh xs hxi hks H hst hrk hq
          go_wp2_with (at_builtin; refine wpList_append_lies _ rfl (.tmp 38) (.tmp 47) 36 rfl W.heap.size 38 i0 _ 3 40 Tryz.undV hi hz0 hz1 hz2 rfl (by decide) _ nk (tris (ts ++ ks)) rfl (HRK.out.alloc _) ⟨wq.heap.size, 0, none⟩ 1 1 (tri (x, xa, xc)) rfl rfl (news_at wq _ 38) (tri_one _) (by decide) (by unfold maxLen; omega) (by omega) (by simp; omega) _ rfl ?_; intro g2 cap2 w1 hr1 hg1 hat hlt1; have hD := hid (HH.out.1.push (x := (x, xa, xc)) HXX.out.1 HNK.out hr1 hg1); have hI := hid ((caps_kept HH.out.2 HRK.out hg1)); clear hr1 hg1 hat hlt1)
          exact ⟨⟨j + 1, ks ++ [(x, xa, xc)], by omega, by go_num, by rw [List.map_append, HXX.out.2, HN.out]; rfl, by rw [← List.append_assoc]; exact hD.out, hI.out⟩, by simp [intOf]; omega⟩
        · have hjl : j = u.l.length := by omega
          subst hjl
          have hpr : u.l.reverse.take u.l.length = u.l.reverse := List.take_of_length_le (by simp)
          rw [hpr] at hks
          have HH := hid (And.intro H (And.intro hst hks))
          subst hsv
          clear H hrk hks hst
          go_wp2
          go_roundg (vsz (ts ++ ks))
          case measure =>
            have h3 := HX.out; have h4 := vsz_map ks
            rw [HH.out.2.2, sizes_rev] at h4
            rw [vsz_app]; omega
          case rel =>
            refine ⟨ts ++ ks, sv5, cs ++ capOf u.kind u.n, rfl, ?_, HH.out.1, HH.out.2.1, by rw [pend_push ts ks u HH.out.2.2, List.append_assoc]; exact hE.out⟩
            have h3 := HX.out; have h4 := vsz_map ks
            rw [HH.out.2.2, sizes_rev] at h4
            rw [vsz_app]; omega
end Go.Proofs.YtkpckmcaeljocaaGreat
