/- The contract of Search with the question of Gates. -/
import Derived.Test.YtclkaamcoicgcaeJSmall
namespace Go.Proofs.Ytclkaamcoicgcae
open Go.ChangeShapes Go.WideShapes Go.ChangeAt Go.RowKit
theorem gateQ_any (v : V) (ao : Option Addr) (cap : Nat) (w : World) : Calls Try.prog 59 #[.agg #[.int .i64 v.kind, .int .i64 v.n, .slice ao v.l.length cap]] w fun e w' => e = .returned (.bool (v.kind == 5)) ∧ Quiet w w' := by
  go_enter Try.func59, Try.ntmps59
  go_wp2
  go_ret
  exact ⟨by simp, Kp.alloc _ _⟩
set_option maxRecDepth 8000 in
set_option maxHeartbeats 4000000 in
theorem searchG_any (v : V) (ao : Option Addr) (cap : Nat) (W w : World) (hB : Below W.heap.size W w) (hI : Is W v ao) (hS : v.size ≤ 500) :
    Calls Try.prog 56 #[.agg #[.int .i64 v.kind, .int .i64 v.n, .slice ao v.l.length cap], .func (.func 55) #[] #[], .func (.func 59) #[] #[]] w fun e w' => e = .returned (.bool v.gate) ∧ Below W.heap.size W w' := by
  obtain ⟨i0, hi, hz0, hz1, hz2⟩ := info_parts Try.infoV
  have hst := hid (vs_start (o := .cells #[.int .i64 v.kind, .int .i64 v.n, .slice ao v.l.length cap] 25) (cap := cap) hI hB)
  clear hI hB
  go_enter Try.func56, Try.ntmps56
  go_wp2
  go_loopg [7] v.size (fun gk sv wr => ∃ (ts : List Kd), vsz ts = gk ∧ gk ≤ v.size ∧ VS W sv ts wr ∧ v.gate = gateIn (pend ts))
  case atStart => exact ⟨[(v, ao, cap)], vsz_one _, Nat.le_refl _, hst.out, by rw [pend_one]; rfl⟩
  case round =>
    rename World => wr
    clear hst
    obtain ⟨ts, hsz, hle, H, hinv⟩ := hrel
    rcases List.eq_nil_or_concat ts with rfl | ⟨ts, ⟨u, ua, uc⟩, rfl⟩
    · obtain ⟨av, cv, hsv⟩ := owns_shape H.row
      have HH := hid (And.intro H hinv)
      subst hsv
      clear hsz hle H hinv
      go_wp2
      go_ret
      refine ⟨?_, HH.out.1.low⟩
      rw [HH.out.2, pend_nil]; rfl
    · rw [List.concat_eq_append] at hsz H hinv
      have hr := H.row
      rw [tris_app, tris_one, List.length_append, List.length_cons, List.length_nil, Nat.zero_add] at hr
      obtain ⟨g, cp, hv⟩ := lies_shape hr (by omega)
      subst hv
      obtain ⟨hr', hc'⟩ := owns_pop hr rfl
      obtain ⟨t0, t1, t2⟩ := tri_cells hc'
      have huW := H.lie (u, ua, uc) (by simp)
      simp only at huW
      rw [vsz_app, vsz_one] at hsz
      simp only at hsz
      have htl := vsz_len ts
      have hus := size_eq u
      have hul := sizes_len u.l
      have hcp := owns_cap hr
      have hul5 : u.l.length ≤ 500 := by omega
      have htl5 : ts.length ≤ 500 := by omega
      have HX := hid (And.intro hsz (And.intro hus (And.intro hle hinv)))
      have HH := hid (show VS W (.slice (some ⟨g, 0, none⟩) ts.length cp) ts wr from ⟨hr', fun p hp => H.lie p (by simp [hp]), H.low⟩)
      have HU := hid huW
      rw [pend_pop] at hinv
      have HE := hid hinv
      clear hc' hr hsz hle H hr' huW hus hinv
      cases hk : (u.kind == 5) with
      | true =>
        have hE := hid (show v.gate = true by rw [HE.out]; simp [gateIn, hk])
        go_wp2_with (go_at_call 59; refine (gateQ_any u ua uc _).mono ?_; rintro e w2 ⟨rfl, q2⟩; rw [hk])
        go_ret
        exact ⟨by rw [hE.out]; rfl, (HH.out.quiet ((Kp.alloc _ _).trans q2)).low⟩
      | false =>
        have hE := hid (show v.gate = gateIn (pres u.l ++ pend ts) by rw [HE.out]; simp [gateIn, hk])
        go_wp2_with (first
          | (go_at_call 55; refine (inside_any u ua uc _).mono ?_; rintro e w3 ⟨rfl, q3⟩)
          | (go_at_call 59; refine (gateQ_any u ua uc _).mono ?_; rintro e w2 ⟨rfl, q2⟩; rw [hk]; have hbx : w2.heap[wr.heap.size]? = some (.cells #[.int .i64 u.kind, .int .i64 u.n, .slice ua u.l.length uc] 25 (0, 0)) := (q2.block _ (by simp) (fun e => e)).trans (heap_alloc_new wr _); obtain ⟨y0, y1, y2⟩ := box_cells hbx; clear hbx))
        have H3 := hid (And.intro (HH.out.quiet ((Kp.alloc _ _).trans (q2.trans q3))) trivial)
        clear y0 y1 y2 t0 t1 t2
        go_loopw [7, 35] (fun sv i w5 => ∃ (j : Nat) (ks : List Kd), j ≤ u.l.length ∧ i = .int .i64 j ∧ ks.map (·.1) = u.l.reverse.take j ∧ VS W sv (ts ++ ks) w5 ∧ True) (fun _ i _ => u.l.length - (intOf i).toNat)
        case atStart => exact ⟨0, [], Nat.zero_le _, rfl, by simp, by rw [List.append_nil]; exact H3.out.1, H3.out.2⟩
        case round =>
          rename World => wq
          clear H3 HH
          obtain ⟨j, ks, hj, rfl, hks, H, hst⟩ := hrel
          have hl3 : ks.length = j := by have := congrArg List.length hks; rw [List.length_map, List.length_take, List.length_reverse] at this; omega
          obtain ⟨nk, hnk⟩ : ∃ nk, nk = (ts ++ ks).length := ⟨_, rfl⟩
          have hnk5 : nk ≤ 1000 := by rw [hnk, List.length_append, hl3]; omega
          have hrk := H.row
          rw [← hnk] at hrk
          obtain ⟨av, cv, hsv⟩ := owns_shape hrk
          have HNK := hid hnk
          clear hnk hl3
          by_cases hlt : j < u.l.length
          · have hidx : (u.l.length : Int) - 1 - (j : Int) = ((u.l.length - 1 - j : Nat) : Int) := by omega
            have hq : u.l.length - 1 - j < u.l.length := by omega
            obtain ⟨xb, xo, hxa, xh, xa, xc, xs, hxi⟩ := HU.out.fo.get (u.l.length - 1 - j) hq
            obtain ⟨x0, x1⟩ := head_kept (low_kept H.low) xh
            have xsk := low_kept H.low _ _ xs
            have HN := hid (show u.l.reverse.take (j + 1) = u.l.reverse.take j ++ [u.l[u.l.length - 1 - j]] from rev_take u.l j hlt)
            generalize hcu : u.l[u.l.length - 1 - j] = x at *
            have HXX := hid (And.intro hxi hks)
            have HH := hid (And.intro H hst)
            have HRK := hid hrk
            have hsz := H.low.size
            subst hsv
            subst hxa
            clear hcu xh xs hxi hks H hst hrk hq
            go_wp2_with (at_builtin; refine wpList_append_lies _ rfl (.tmp 38) (.tmp 47) 23 rfl W.heap.size 25 i0 _ 3 40 Try.undV hi hz0 hz1 hz2 rfl (by decide) _ nk (tris (ts ++ ks)) rfl (HRK.out.alloc _) ⟨wq.heap.size, 0, none⟩ 1 1 (tri (x, xa, xc)) rfl rfl (news_at wq _ 25) (tri_one _) (by decide) (by unfold maxLen; omega) (by omega) (by simp; omega) _ rfl ?_; intro g2 cap2 w1 hr1 hg1 hat hlt1; have hD := hid (HH.out.1.push (x := (x, xa, xc)) HXX.out.1 HNK.out hr1 hg1); have hI := hid (trivial); clear hr1 hg1 hat hlt1)
            exact ⟨⟨j + 1, ks ++ [(x, xa, xc)], by omega, by go_num, by rw [List.map_append, HXX.out.2, HN.out]; rfl, by rw [← List.append_assoc]; exact hD.out, hI.out⟩, by simp [intOf]; omega⟩
          · have hjl : j = u.l.length := by omega
            subst hjl
            have hpr : u.l.reverse.take u.l.length = u.l.reverse := List.take_of_length_le (by simp)
            rw [hpr] at hks
            have HH := hid (And.intro H (And.intro hst hks))
            subst hsv
            clear H hrk hks hst
            go_wp2
            go_roundg (vsz (ts ++ ks))
            case measure =>
              have h3 := HX.out; have h4 := vsz_map ks
              rw [HH.out.2.2, sizes_rev] at h4
              rw [vsz_app]; omega
            case rel =>
              refine ⟨ts ++ ks, rfl, ?_, HH.out.1, by rw [pend_push ts ks u HH.out.2.2, ← hE.out]⟩
              have h3 := HX.out; have h4 := vsz_map ks
              rw [HH.out.2.2, sizes_rev] at h4
              rw [vsz_app]; omega
end Go.Proofs.Ytclkaamcoicgcae
