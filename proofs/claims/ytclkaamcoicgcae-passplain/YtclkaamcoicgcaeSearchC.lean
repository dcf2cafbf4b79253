/- The contract of Search with the question of Check. -/
import Derived.Test.YtclkaamcoicgcaeJSmall
namespace Go.Proofs.Ytclkaamcoicgcae
open Go.ChangeShapes Go.WideShapes Go.ChangeAt Go.RowKit
theorem checkQ_any (v : V) (ao : Option Addr) (cap bc : Nat) (c : Int) (w : World) (hc : w.heap[bc]? = some (.cells #[.int .i64 c] 3 (0, 0))) :
    Calls Try.prog 57 #[.agg #[.int .i64 v.kind, .int .i64 v.n, .slice ao v.l.length cap], .pointer (some ⟨bc, 0, none⟩)] w fun e w' => e = .returned (.bool (v.fault1 != 0)) ∧ w'.heap[bc]? = some (.cells #[.int .i64 v.fault1] 3 (0, 0)) ∧ Kp (fun k => k = bc) w w' := by
  have hlt := lt_of_block hc
  go_enter Try.func57, Try.ntmps57
  go_wp2_with (go_at_call 58; refine (fault_any v ao cap _).mono ?_; rintro e w2 ⟨rfl, q2⟩; have hb : w2.heap[bc]? = some (.cells #[.int .i64 c] 3 (0, 0)) := (((Kp.alloc _ _).trans q2).block bc hlt (fun h => h)).trans hc; have k0 := cell_of_one hb; have k1 := free_of_one hb)
  go_ret
  refine ⟨by simp, one_setCell hb, ?_⟩
  exact ((((Kp.alloc w _).trans q2).mono fun _ _ h => h.elim)).trans (Kp.setCell _ _ _ rfl)
theorem vs_code {W w w2 : World} {sv : Value} {ts : List Kd} {o : Obj} {bc : Nat} {c c' : Int} (H : VS W sv ts w) (hc : w.heap[bc]? = some (.cells #[.int .i64 c] 3 (0, 0))) (hbc : W.heap.size ≤ bc) (_ : w2.heap[bc]? = some (.cells #[.int .i64 c'] 3 (0, 0))) (q : Kp (fun k => k = bc) (w.alloc o) w2) : VS W sv ts w2 :=
  (H.quiet (Kp.alloc w o)).step q (fun k e => by omega) fun k e e2 => by subst e2; exact row_other H.row hc (by decide) e
theorem code_kept {w w1 : World} {sv : Value} {n : Nat} {xs : List Value} {B bc : Nat} {c : Int} {o : Obj} (hc : w.heap[bc]? = some (.cells #[.int .i64 c] 3 (0, 0))) (hr : w.ownsRow B 25 3 sv n xs) (hg : (w.alloc o).grownBy w1 sv.ownBlock) : w1.heap[bc]? = some (.cells #[.int .i64 c] 3 (0, 0)) := by
  have hlt := lt_of_block hc
  rw [hg.block bc (by simp; omega) (fun e => row_other hr hc (by decide) e.symm), Below.heap_alloc _ _ _ hlt]
  exact hc
theorem first_cons (v : V) (l : List V) : first (v :: l) = if v.fault1 = 0 then first l else v.fault1 := rfl
set_option maxRecDepth 8000 in
set_option maxHeartbeats 4000000 in
theorem searchC_any (v : V) (ao : Option Addr) (cap : Nat) (bc : Nat) (c : Int) (W w : World) (hB : Below W.heap.size W w) (hI : Is W v ao) (hS : v.size ≤ 500) (hbc : W.heap.size ≤ bc) (hc : w.heap[bc]? = some (.cells #[.int .i64 c] 3 (0, 0))) :
    Calls Try.prog 56 #[.agg #[.int .i64 v.kind, .int .i64 v.n, .slice ao v.l.length cap], .func (.func 55) #[] #[], .func (.func 57) #[] #[.pointer (some ⟨bc, 0, none⟩)]] w fun e w' => (∃ r, e = .returned (.bool r)) ∧ w'.heap[bc]? = some (.cells #[.int .i64 v.fault] 3 (0, 0)) ∧ Below W.heap.size W w' := by
  obtain ⟨i0, hi, hz0, hz1, hz2⟩ := info_parts Try.infoV
  have hst := hid (vs_start (o := .cells #[.int .i64 v.kind, .int .i64 v.n, .slice ao v.l.length cap] 25) (cap := cap) hI hB)
  have hc1 := hid (show ((w.alloc (.cells #[.int .i64 v.kind, .int .i64 v.n, .slice ao v.l.length cap] 25)).alloc (.cells #[.int .i64 v.kind, .int .i64 v.n, .slice ao v.l.length cap] 25)).heap[bc]? = some (.cells #[.int .i64 c] 3 (0, 0)) by
    have hlt := lt_of_block hc
    rw [Below.heap_alloc _ _ _ (by simp; omega), Below.heap_alloc _ _ _ hlt]; exact hc)
  clear hc
  clear hI hB
  go_enter Try.func56, Try.ntmps56
  go_wp2
  go_loopg [7] v.size (fun gk sv wr => ∃ (ts : List Kd) (c : Int), vsz ts = gk ∧ gk ≤ v.size ∧ VS W sv ts wr ∧ wr.heap[bc]? = some (.cells #[.int .i64 c] 3 (0, 0)) ∧ v.fault = first (pend ts) ∧ (ts = [] → c = 0))
  case atStart => exact ⟨[(v, ao, cap)], c, vsz_one _, Nat.le_refl _, hst.out, hc1.out, by rw [pend_one]; rfl, fun e => by simp at e⟩
  case round =>
    rename World => wr
    clear hst
    obtain ⟨ts, c, hsz, hle, H, hinv⟩ := hrel
    rcases List.eq_nil_or_concat ts with rfl | ⟨ts, ⟨u, ua, uc⟩, rfl⟩
    · obtain ⟨av, cv, hsv⟩ := owns_shape H.row
      have HH := hid (And.intro H (And.intro hinv.1 (And.intro hinv.2.1 (hinv.2.2 rfl))))
      subst hsv
      clear hsz hle H hinv
      go_wp2
      go_ret
      refine ⟨(by first | exact ⟨_, rfl⟩ | rfl), ?_, HH.out.1.low⟩
      rw [HH.out.2.2.1, pend_nil, HH.out.2.1, HH.out.2.2.2]; rfl
    · rw [List.concat_eq_append] at hsz H hinv
      have hr := H.row
      rw [tris_app, tris_one, List.length_append, List.length_cons, List.length_nil, Nat.zero_add] at hr
      obtain ⟨g, cp, hv⟩ := lies_shape hr (by omega)
      subst hv
      obtain ⟨hr', hc'⟩ := owns_pop hr rfl
      obtain ⟨t0, t1, t2⟩ := tri_cells hc'
      have huW := H.lie (u, ua, uc) (by simp)
      simp only at huW
      rw [vsz_app, vsz_one] at hsz
      simp only at hsz
      have htl := vsz_len ts
      have hus := size_eq u
      have hul := sizes_len u.l
      have hcp := owns_cap hr
      have hul5 : u.l.length ≤ 500 := by omega
      have htl5 : ts.length ≤ 500 := by omega
      have HX := hid (And.intro hsz (And.intro hus hle))
      have HH := hid (show VS W (.slice (some ⟨g, 0, none⟩) ts.length cp) ts wr from ⟨hr', fun p hp => H.lie p (by simp [hp]), H.low⟩)
      have HU := hid huW
      obtain ⟨hcd, hfa, _⟩ := hinv
      rw [pend_pop, first_cons] at hfa
      have HE := hid hfa
      have hlt := lt_of_block hcd
      have hcb := hid hcd
      have HQ := hid (fun (o' : Obj) => checkQ_any u ua uc bc c (wr.alloc o') ((Below.heap_alloc wr o' bc hlt).trans hcd))
      clear hc' hr hsz hle H hr' huW hus
      by_cases hk : u.fault1 = 0
      · have hk' : (u.fault1 != 0) = false := by simp [hk]
        have hE := hid (show v.fault = first (pres u.l ++ pend ts) by rw [HE.out, if_pos hk])
        clear hcd hfa
        go_wp2_with (first
          | (go_at_call 55; refine (inside_any u ua uc _).mono ?_; rintro e w3 ⟨rfl, q3⟩)
          | (go_at_call 57; refine (HQ.out _).mono ?_; rintro e w2 ⟨rfl, hb2, q2⟩; rw [hk']; rw [hk] at hb2; have hbx : w2.heap[wr.heap.size]? = some (.cells #[.int .i64 u.kind, .int .i64 u.n, .slice ua u.l.length uc] 25 (0, 0)) := (q2.block _ (by simp) (by show ¬ wr.heap.size = bc; omega)).trans (heap_alloc_new wr _); obtain ⟨y0, y1, y2⟩ := box_cells hbx; clear hbx))
        have H3 := hid (And.intro ((vs_code HH.out hcb.out hbc hb2 q2).quiet q3) ((q3.block _ (lt_of_block hb2) (fun e => e)).trans hb2))
        clear y0 y1 y2 t0 t1 t2
        go_loopw [7, 35] (fun sv i w5 => ∃ (j : Nat) (ks : List Kd), j ≤ u.l.length ∧ i = .int .i64 j ∧ ks.map (·.1) = u.l.reverse.take j ∧ VS W sv (ts ++ ks) w5 ∧ w5.heap[bc]? = some (.cells #[.int .i64 0] 3 (0, 0))) (fun _ i _ => u.l.length - (intOf i).toNat)
        case atStart => exact ⟨0, [], Nat.zero_le _, rfl, by simp, by rw [List.append_nil]; exact H3.out.1, H3.out.2⟩
        case round =>
          rename World => wq
          clear H3 HH
          obtain ⟨j, ks, hj, rfl, hks, H, hst⟩ := hrel
          have hl3 : ks.length = j := by have := congrArg List.length hks; rw [List.length_map, List.length_take, List.length_reverse] at this; omega
          obtain ⟨nk, hnk⟩ : ∃ nk, nk = (ts ++ ks).length := ⟨_, rfl⟩
          have hnk5 : nk ≤ 1000 := by rw [hnk, List.length_append, hl3]; omega
          have hrk := H.row
          rw [← hnk] at hrk
          obtain ⟨av, cv, hsv⟩ := owns_shape hrk
          have HNK := hid hnk
          clear hnk hl3
          by_cases hlt : j < u.l.length
          · have hidx : (u.l.length : Int) - 1 - (j : Int) = ((u.l.length - 1 - j : Nat) : Int) := by omega
            have hq : u.l.length - 1 - j < u.l.length := by omega
            obtain ⟨xb, xo, hxa, xh, xa, xc, xs, hxi⟩ := HU.out.fo.get (u.l.length - 1 - j) hq
            obtain ⟨x0, x1⟩ := head_kept (low_kept H.low) xh
            have xsk := low_kept H.low _ _ xs
            have HN := hid (show u.l.reverse.take (j + 1) = u.l.reverse.take j ++ [u.l[u.l.length - 1 - j]] from rev_take u.l j hlt)
            generalize hcu : u.l[u.l.length - 1 - j] = x at *
            have HXX := hid (And.intro hxi hks)
            have HH := hid (And.intro H hst)
            have HRK := hid hrk
            have hsz := H.low.size
            subst hsv
            subst hxa
            clear hcu xh xs hxi hks H hst hrk hq
            go_wp2_with (at_builtin; refine wpList_append_lies _ rfl (.tmp 38) (.tmp 47) 23 rfl W.heap.size 25 i0 _ 3 40 Try.undV hi hz0 hz1 hz2 rfl (by decide) _ nk (tris (ts ++ ks)) rfl (HRK.out.alloc _) ⟨wq.heap.size, 0, none⟩ 1 1 (tri (x, xa, xc)) rfl rfl (news_at wq _ 25) (tri_one _) (by decide) (by unfold maxLen; omega) (by omega) (by simp; omega) _ rfl ?_; intro g2 cap2 w1 hr1 hg1 hat hlt1; have hD := hid (HH.out.1.push (x := (x, xa, xc)) HXX.out.1 HNK.out hr1 hg1); have hI := hid ((code_kept HH.out.2 HRK.out hg1)); clear hr1 hg1 hat hlt1)
            exact ⟨⟨j + 1, ks ++ [(x, xa, xc)], by omega, by go_num, by rw [List.map_append, HXX.out.2, HN.out]; rfl, by rw [← List.append_assoc]; exact hD.out, hI.out⟩, by simp [intOf]; omega⟩
          · have hjl : j = u.l.length := by omega
            subst hjl
            have hpr : u.l.reverse.take u.l.length = u.l.reverse := List.take_of_length_le (by simp)
            rw [hpr] at hks
            have HH := hid (And.intro H (And.intro hst hks))
            subst hsv
            clear H hrk hks hst
            go_wp2
            go_roundg (vsz (ts ++ ks))
            case measure =>
              have h3 := HX.out; have h4 := vsz_map ks
              rw [HH.out.2.2, sizes_rev] at h4
              rw [vsz_app]; omega
            case rel =>
              refine ⟨ts ++ ks, 0, rfl, ?_, HH.out.1, HH.out.2.1, by rw [pend_push ts ks u HH.out.2.2, ← hE.out], fun _ => rfl⟩
              have h3 := HX.out; have h4 := vsz_map ks
              rw [HH.out.2.2, sizes_rev] at h4
              rw [vsz_app]; omega
      · have hk' : (u.fault1 != 0) = true := by simp [hk]
        have hE := hid (show v.fault = u.fault1 by rw [HE.out, if_neg hk])
        clear hcd hfa
        go_wp2_with (go_at_call 57; refine (HQ.out _).mono ?_; rintro e w2 ⟨rfl, hb2, q2⟩; rw [hk'])
        go_ret
        exact ⟨⟨_, rfl⟩, by rw [hE.out]; exact hb2, (vs_code HH.out hcb.out hbc hb2 q2).low⟩
end Go.Proofs.Ytclkaamcoicgcae
