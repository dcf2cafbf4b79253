/- The contract of HasMore: lists of what is still to be looked at. -/
import Derived.Test.YtclkaamcoicgcaeJBase
namespace Go.Proofs.Ytclkaamcoicgcae
open Go.ChangeShapes Go.WideShapes Go.ChangeAt Go.RowKit
set_option maxRecDepth 8000 in
set_option maxHeartbeats 2000000 in
theorem more_any (l : List V) (ao : Option Addr) (cap than : Nat) (w : World) (hF : Fo w l ao) (hS : sizes l ≤ 20000) (hth : than ≤ 67108864) :
    Calls Try.prog 54 #[.slice ao l.length cap, .int .i64 than, .func (.func 55) #[] #[]] w fun e w' => e = .returned (.bool (decide (than < sizes l))) ∧ Quiet w w' := by
  obtain ⟨i0, hi, hz0, hz1, hz2⟩ := info_parts Try.infoL
  have hroot := hid hF
  have hll := sizes_len l
  have hlen5 : l.length ≤ 20000 := by omega
  have hrow := hid (row_one w 23 (slv (l, ao, cap)))
  clear hF
  go_enter Try.func54, Try.ntmps54
  go_wp2
  go_loopg [7, 8] (1 + sizes l) (fun gk p sv wr => ∃ (P : Nat) (ts : List Pl), p = .int .i64 P ∧ wr.ownsRow w.heap.size 23 1 sv ts.length (ts.map slv) ∧ Lie w ts ∧ tsz ts = gk ∧ gk ≤ 1 + sizes l ∧ P + trs ts = sizes l ∧ Below w.heap.size w wr)
  case atStart =>
    refine ⟨l.length, [(l, ao, cap)], rfl, hrow.out, ?_, tsz_one _, Nat.le_refl _, by rw [trs_one]; simp only; omega, (Below.refl _ _).alloc (Nat.le_refl _) _⟩
    intro x hx; simp at hx; subst hx; exact hroot.out
  case round =>
    obtain ⟨P, ts, rfl, hr, hL, hsz, hle, hP, hB⟩ := hrel
    have hsB := hB.size
    by_cases hbig : than < P
    · have hE := hid (show decide (than < sizes l) = true by simp; omega)
      have hd : decide ((P : Int) ≤ (than : Int)) = false := by simp; omega
      have hd2 : ¬ (P : Int) ≤ (than : Int) := by omega
      have hP5 : P ≤ 20000 := by omega
      clear hsz hP
      go_wp2
      go_ret
      exact ⟨by rw [hE.out]; simp, quiet_of hB⟩
    · have hd2 : (P : Int) ≤ (than : Int) := by omega
      rcases List.eq_nil_or_concat ts with rfl | ⟨ts, ⟨u, ua, uc⟩, rfl⟩
      · obtain ⟨av, cv, rfl⟩ := owns_shape hr
        have hE := hid (show decide (than < sizes l) = false by simp [trs_nil] at hP; simp; omega)
        have hP5 : P ≤ 20000 := by omega
        clear hsz hP
        go_wp2
        go_ret
        exact ⟨by rw [hE.out]; simp, quiet_of hB⟩
      · rw [List.concat_eq_append] at hr hL hsz hP
        rw [List.map_append, List.map_cons, List.map_nil, List.length_append, List.length_cons, List.length_nil, Nat.zero_add] at hr
        obtain ⟨g, cp, hv⟩ := lies_shape hr (by omega)
        subst hv
        obtain ⟨hr', hc'⟩ := owns_pop hr rfl
        have hc := hc' 0 (by decide)
        simp only [Nat.mul_one, Nat.add_zero, List.getElem?_cons_zero, slv] at hc
        have hu := hL (u, ua, uc) (by simp)
        simp only at hu
        have hL' : Lie w ts := fun x hx => hL x (by simp [hx])
        rw [tsz_app, tsz_one] at hsz
        rw [trs_app, trs_one] at hP
        simp only at hsz hP
        have htl := tsz_len ts
        have hul := sizes_len u
        have hcp := owns_cap hr
        have hul5 : u.length ≤ 20000 := by omega
        have htl5 : ts.length ≤ 20000 := by omega
        have hP5 : P ≤ 20000 := by omega
        have HL := hid hL'
        have HU := hid hu
        have HX := hid (And.intro hsz hP)
        clear hc' hr hL hL' hu hsz hP
        go_wp2
        go_loopw [7, 8, 38] (fun p sv i w2 => ∃ (j Q : Nat) (ks : List Pl), j ≤ u.length ∧ i = .int .i64 j ∧ p = .int .i64 (P + Q : Nat) ∧ w2.ownsRow w.heap.size 23 1 sv (ts ++ ks).length ((ts ++ ks).map slv) ∧ Lie w ks ∧ (Q + trs ks + j = sizes (u.take j) ∧ tsz ks ≤ sizes (u.take j) ∧ ks.length ≤ j) ∧ Below w.heap.size w w2) (fun _ _ i _ => u.length - (intOf i).toNat)
        case atStart => exact ⟨0, 0, [], Nat.zero_le _, rfl, rfl, by simpa using hr', fun x hx => by simp at hx, ⟨by simp [trs_nil, sizes_nil], by simp [tsz_nil], Nat.le_refl _⟩, hB⟩
        case round =>
          obtain ⟨j, Q, ks, hj, rfl, rfl, hrk, hLk, hks, hBk⟩ := hrel
          have htt := sizes_take_le u j
          have hlen6 : (ts ++ ks).length ≤ 40000 := by have := HX.out; simp only [List.length_append]; omega
          have hQ5 : Q ≤ 20000 := by have := HX.out; omega
          obtain ⟨nk, hnk⟩ : ∃ nk, nk = (ts ++ ks).length := ⟨_, rfl⟩
          rw [← hnk] at hrk hlen6
          have HNK := hid hnk
          clear hnk
          obtain ⟨av, cv, hsv⟩ := owns_shape hrk
          by_cases hlt : j < u.length
          · obtain ⟨bb, oo, rfl, dh, ca, cc, ds, hci⟩ := HU.out.get j hlt
            have hbb := World.block_lt_of_cell? w _ ds
            obtain ⟨d0, d1⟩ := head_kept (low_kept hBk) dh
            have dsk := low_cell hBk ds hbb
            have hnx := sizes_take u j hlt
            generalize hcu : u[j] = c at *
            have HC := hid hci.fo
            have HN := hid (And.intro hnx (size_eq c))
            have HK := hid hks
            have hcl5 : c.l.length ≤ 20000 := by have := sizes_len c.l; have := size_eq c; have := sizes_take_le u (j + 1); have := HX.out; omega
            clear hcu hnx hks dh ds hci
            by_cases hcl : c.l.length = 0
            · subst hsv
              have hcl' : ¬ (0 : Int) < (c.l.length : Int) := by omega
              have HCL := hid hcl
              clear hcl
              go_wp2_with (go_at_call 55; refine (inside_any c ca cc _).mono ?_; rintro e w3 ⟨rfl, q3⟩)
              refine ⟨⟨j + 1, Q, ks, by omega, by go_num, by go_num, HNK.out ▸ (q3.row (hrk.alloc _) fun _ _ e => e), hLk, ?_, low_of (hBk.alloc hBk.size _) q3 (by have := hBk.size; simp; omega)⟩, by simp [intOf]; omega⟩
              have h0 : c.l = [] := List.eq_nil_of_length_eq_zero HCL.out
              have h1 := HN.out; have h2 := HK.out
              rw [h0, sizes_nil] at h1; exact ⟨by omega, by omega, by omega⟩
            · have hcl' : (0 : Int) < (c.l.length : Int) := by omega
              have HR := hid hrk
              subst hsv
              have hsk := hBk.size
              go_wp2_with (first
                | (at_builtin; refine wpList_append_lies _ rfl (.tmp 52) (.tmp 54) 82 rfl w.heap.size 23 i0 _ 1 24 Try.undL hi hz0 hz1 hz2 rfl (by decide) _ nk ((ts ++ ks).map slv) rfl (hr3.alloc _) ⟨w3.heap.size, 0, none⟩ 1 1 [slv (c.l, ca, cc)] rfl rfl (news_at w3 _ 23) (by simp [Value.oneCell', slv]) (by decide) (by unfold maxLen; omega) (by omega) (by simp; omega) _ rfl ?_; intro g2 cap2 w1 hr1 hg1 hat hlt1; have hS := hid (push_row (x := (c.l, ca, cc)) hB3 (by omega) hr3 HNK.out hr1 hg1); clear hr1 hg1 hat hlt1)
                | (go_at_call 55; refine (inside_any c ca cc _).mono ?_; rintro e w3 ⟨rfl, q3⟩; have hr3 := q3.row (HR.out.alloc _) (fun _ _ e => e); have hB3 := low_of (hBk.alloc hBk.size _) q3 (by simp; omega); have hs3 := hB3.size))
              refine ⟨⟨j + 1, Q + c.l.length, ks ++ [(c.l, ca, cc)], by omega, by go_num, by go_num, ?_, hLk.app ?_, ?_, hS.out.2⟩, by simp [intOf]; omega⟩
              · rw [← List.append_assoc]; exact hS.out.1
              · intro x hx; simp at hx; subst hx; exact HC.out
              · have h1 := HN.out; have h2 := HK.out; have h3 := sizes_len c.l
                rw [trs_app, trs_one, tsz_app, tsz_one, List.length_append]; simp only [List.length_cons, List.length_nil]; exact ⟨by omega, by omega, by omega⟩
          · have hjl : j = u.length := by omega
            subst hjl
            have HK := hid hks
            clear hks
            subst hsv
            go_wp2
            go_roundg (tsz (ts ++ ks))
            case measure =>
              have h2 := HK.out; have h3 := HX.out
              rw [List.take_length] at h2; rw [tsz_app]; omega
            case rel =>
              refine ⟨P + Q, ts ++ ks, by go_num, HNK.out ▸ hrk, HL.out.app hLk, rfl, ?_, ?_, hBk⟩
              · have h2 := HK.out; have h3 := HX.out
                rw [List.take_length] at h2; rw [tsz_app]; omega
              · have h2 := HK.out; have h3 := HX.out
                rw [List.take_length] at h2; rw [trs_app]; omega
end Go.Proofs.Ytclkaamcoicgcae
