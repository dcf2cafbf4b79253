/- The contract of Same: the walk. -/
import Derived.Test.YtekkecnhnaejlabDoorSame
import Derived.StillTailTactics
namespace Go.Proofs.YtekkecnhnaejlabDoor
open Go.ChangeShapes Go.WideShapes Go.ChangeAt Go.RowKit
theorem Tryd.mixed : Tryd.prog.follows .mixedOrders = true := by kernel_rfl
set_option maxHeartbeats 4000000 in
set_option maxRecDepth 8000 in
theorem same_any (a b : List V) (aa ba : Option Addr) (ac bc : Nat) (w : World) (hA : Fo w a aa) (hB0 : Fo w b ba) (hS : sizes a ≤ 20000) :
    Calls Tryd.prog 28 #[.slice aa a.length ac, .slice ba b.length bc, .func (.func 23) #[] #[], .func (.func 29) #[] #[]] w fun e w' => e = .returned (.bool (sames a b)) ∧ Quiet w w' := by
  obtain ⟨i0, hi, hz0, hz1, hz2⟩ := info_parts Tryd.infoT
  have hmm : ∀ (w : World), (Instr.makeMap 52 none).run Tryd.prog w = .ok (.map (some w.heap.size)) (w.alloc (.map #[] 0)) := fun w => run_makeMap _ w
  have hroot := hid (And.intro hA hB0)
  have hrow := hid (row_two (w.alloc (.map #[] 0)) 54 (slv (a, aa, ac)) (slv (b, ba, bc)))
  rw [World.size_alloc] at hrow
  clear hA hB0
  go_enter Tryd.func28, Tryd.ntmps28
  go_wp2
  clear hmm
  go_loopg [9, 11] (1 + sizes a) (fun gk st sv wr => ∃ (ps : List Pp) (n : Nat), st = .int .i64 n ∧ wr.ownsRow w.heap.size 54 2 sv ps.length (ps.flatMap tw) ∧ Lie2 w ps ∧ (a = b ↔ Eq2 ps) ∧ fsz ps = gk ∧ n + frs ps = sizes a ∧ gk ≤ 1 + sizes a ∧ Below w.heap.size w wr)
  case atStart =>
    refine ⟨[((a, aa, ac), (b, ba, bc))], 0, rfl, owns_mono hrow.out (by simp), ?_, (Eq2.one ((a, aa, ac), (b, ba, bc))).symm, fsz_one _, by rw [frs_one]; simp, Nat.le_refl _, ((Below.refl _ _).alloc (Nat.le_refl _) _).alloc (by simp) _⟩
    intro p hp; simp at hp; subst hp; exact hroot.out
  case round =>
    rename World => Wr
    obtain ⟨ps, n, rfl, hr, hL, hiff, hsz, hn, hgk, hB⟩ := hrel
    have hsB := hB.size
    rcases List.eq_nil_or_concat ps with rfl | ⟨ps, ⟨⟨x, xa, xc⟩, ⟨y, ya, yc⟩⟩, rfl⟩
    · obtain ⟨av, cv, rfl⟩ := owns_shape hr
      have hE := hid (sames_true (hiff.2 (by intro p hp; simp at hp)))
      have hn5 : n ≤ 20000 := by omega
      clear hsz hiff hn
      go_wp2
      go_ret
      exact ⟨by rw [hE.out]; rfl, quiet_of hB⟩
    · rw [List.concat_eq_append] at hr hL hsz hiff hn
      rw [List.flatMap_append, List.flatMap_cons, List.flatMap_nil, List.append_nil, List.length_append, List.length_cons, List.length_nil, Nat.zero_add] at hr
      obtain ⟨g, cp, hv⟩ := lies_shape hr (by omega)
      subst hv
      obtain ⟨hr', hc'⟩ := owns_pop hr rfl
      have hp0 := hc' 0 (by decide)
      have hp1 := hc' 1 (by decide)
      simp only [tw, Nat.add_zero, List.getElem?_cons_zero, List.getElem?_cons_succ, slv] at hp0 hp1
      obtain ⟨hx, hy⟩ := hL ((x, xa, xc), (y, ya, yc)) (by simp)
      simp only at hx hy
      have hL' : Lie2 w ps := fun p hp => hL p (by simp [hp])
      rw [Eq2.app, Eq2.one] at hiff
      rw [fsz_app, fsz_one] at hsz
      rw [frs_app, frs_one] at hn
      simp only at hiff hsz hn
      have hff := fsz_frs ps
      have hxl := sizes_len x
      have hcp := owns_cap hr
      have hxl5 : x.length ≤ 20000 := by omega
      have hps5 : ps.length ≤ 20000 := by omega
      have hn5 : n ≤ 20000 := by omega
      have hnx5 : n + x.length ≤ 20000 := by omega
      have HL := hid hL'
      have HI := hid hiff
      have HX := hid (And.intro hsz (And.intro hn (And.intro hff hgk)))
      have HF := hid (And.intro hx hy)
      clear hc' hr hx hy hL hL' hsz hn hiff hff hgk
      by_cases hll : x.length = y.length
      · have HLL := hid hll
        rw [← hll] at hp1
        clear hll
        go_wp2
        go_loopw [11, 72] (fun sv i w2 => ∃ (j : Nat) (qs : List Pp), j ≤ x.length ∧ i = .int .i64 j ∧ SS w ps x y Wr.heap.size (.slice xa x.length xc) (.slice ya x.length yc) sv j qs w2) (fun _ i _ => x.length - (intOf i).toNat)
        case atStart =>
          refine ⟨0, [], Nat.zero_le _, rfl, ⟨?_, fun p hp => by simp at hp, by simp [Eq2], by simp [frs, sizes_nil], hB.alloc hB.size _, heap_alloc_new Wr _, fun e => by have := (hr'.lt _ e).2; omega⟩⟩
          simpa using hr'.alloc _
        case round =>
          rename World => wq
          obtain ⟨j, qs, hj, rfl, H⟩ := hrel
          obtain ⟨k0, k1⟩ := H.cells
          have hfq := fsz_frs qs
          have hlen6 : (ps ++ qs).length ≤ 40000 := by have := H.num; simp only [List.length_append]; omega
          obtain ⟨nk, hnk⟩ : ∃ nk, nk = (ps ++ qs).length := ⟨_, rfl⟩
          have hrk := H.row
          rw [← hnk] at hrk hlen6
          have HNK := hid hnk
          obtain ⟨av, cv, hsv⟩ := owns_shape hrk
          clear hnk hfq
          by_cases hlt : j < x.length
          · obtain ⟨xb, xo, hxa, hxh, ca, cc, xs, hci⟩ := HF.out.1.get j hlt
            obtain ⟨yb, yo, hya, hyh, da, dc, ys, hdi⟩ := HF.out.2.get j (HLL.out ▸ hlt)
            obtain ⟨x0, x1⟩ := head_kept (low_kept H.low) hxh
            obtain ⟨y0, y1⟩ := head_kept (low_kept H.low) hyh
            have xsk := low_kept H.low _ _ xs
            have ysk := low_kept H.low _ _ ys
            have HT := hid (take_eq HLL.out j hlt)
            have HZ := hid (sizes_take x j hlt)
            have HC := hid (And.intro hci.fo hdi.fo)
            subst hxa hya hsv
            generalize hcx : x[j] = c at *
            generalize hcy : y[j]'(HLL.out ▸ hlt) = d at *
            have HH := hid H
            have HS := hid (size_eq c)
            clear hcx hcy xs ys hxh hyh hci hdi H
            cases hal : (c.kind == d.kind && c.n == d.n) with
            | false =>
              have hE := hid (sames_false (a := a) (b := b) (fun h => by
                have h1 := (HI.out.1 h).2
                have h2 : x.take (j + 1) = y.take (j + 1) := by rw [h1]
                have h3 := (HT.out.1 h2).2
                rw [(alike_eq c d).2 (by rw [h3]; simp)] at hal; simp at hal))
              go_wp2
              go_still_tail 11, Tryd.mixed
              go_wp2_with (go_at_call 29; refine (alike_any c d ca da cc dc _).mono ?_; rintro e w3 ⟨rfl, q3⟩; rw [hal])
              go_ret
              exact ⟨by rw [hE.out]; rfl, quiet_of (low_of (low_drewN HH.out.low 1) q3 HH.out.low.size)⟩
            | true =>
              have HA := hid ((alike_eq c d).1 hal)
              go_wp2
              go_still_tail 11, Tryd.mixed
              go_wp2_with (go_at_call 29; refine (alike_any c d ca da cc dc _).mono ?_; rintro e w3 ⟨rfl, q3⟩; rw [hal])
              have q30 : Quiet wq w3 := (Kp.drew _).trans q3
              have H3 := hid (HH.out.quiet q30)
              have sAll := hid (fun (w' : World) (q : Quiet w3 w') => (show w'.cell? ⟨Wr.heap.size, 0, none⟩ = some (.slice (some ⟨xb, xo, none⟩) x.length xc) ∧ w'.cell? ⟨Wr.heap.size, 1, none⟩ = some (.slice (some ⟨yb, yo, none⟩) x.length yc) ∧ w'.cell? ⟨xb, xo + j * 3, none⟩ = some (.int .i64 c.kind) ∧ w'.cell? ⟨xb, xo + j * 3 + 1, none⟩ = some (.int .i64 c.n) ∧ w'.cell? ⟨xb, xo + j * 3 + 2, none⟩ = some (.slice ca c.l.length cc) ∧ w'.cell? ⟨yb, yo + j * 3, none⟩ = some (.int .i64 d.kind) ∧ w'.cell? ⟨yb, yo + j * 3 + 1, none⟩ = some (.int .i64 d.n) ∧ w'.cell? ⟨yb, yo + j * 3 + 2, none⟩ = some (.slice da d.l.length dc) from ⟨(q30.trans q).cell k0 (fun e => e), (q30.trans q).cell k1 (fun e => e), (q30.trans q).cell x0 (fun e => e), (q30.trans q).cell x1 (fun e => e), (q30.trans q).cell xsk (fun e => e), (q30.trans q).cell y0 (fun e => e), (q30.trans q).cell y1 (fun e => e), (q30.trans q).cell ysk (fun e => e)⟩))
              have qz : Quiet w3 w3.drew := Kp.drew _
              clear q3 q30 k0 k1 x0 x1 y0 y1 xsk ysk hal hrk
              go_region_held3 (fun w' => w'.cell? ⟨Wr.heap.size, 0, none⟩ = some (.slice (some ⟨xb, xo, none⟩) x.length xc) ∧ w'.cell? ⟨Wr.heap.size, 1, none⟩ = some (.slice (some ⟨yb, yo, none⟩) x.length yc) ∧ w'.cell? ⟨xb, xo + j * 3, none⟩ = some (.int .i64 c.kind) ∧ w'.cell? ⟨xb, xo + j * 3 + 1, none⟩ = some (.int .i64 c.n) ∧ w'.cell? ⟨xb, xo + j * 3 + 2, none⟩ = some (.slice ca c.l.length cc) ∧ w'.cell? ⟨yb, yo + j * 3, none⟩ = some (.int .i64 d.kind) ∧ w'.cell? ⟨yb, yo + j * 3 + 1, none⟩ = some (.int .i64 d.n) ∧ w'.cell? ⟨yb, yo + j * 3 + 2, none⟩ = some (.slice da d.l.length dc)) ((refine sAll.out _ ?_; first | assumption | exact Kp.drew _)) (first | (go_at_call 23; refine (inside_any c ca cc _).mono ?_; rintro e w4 ⟨rfl, q4⟩; replace qz := qz.trans q4; clear q4) | (go_at_call 23; refine (inside_any d da dc _).mono ?_; rintro e w5 ⟨rfl, q5⟩; replace qz := qz.trans q5; clear q5))
              by_cases hc0 : c.l.length = 0
              · have hc1 : ¬ (0 : Int) < (c.l.length : Int) := by omega
                have HC0 := hid (List.eq_nil_of_length_eq_zero hc0)
                clear hc0
                by_cases hd0 : d.l.length = 0
                · have hd1 : ¬ (0 : Int) < (d.l.length : Int) := by omega
                  have HD0 := hid (List.eq_nil_of_length_eq_zero hd0)
                  clear hd0
                  have HP := hid (H3.out.quiet qz)
                  go_wp2
                  exact ⟨⟨j + 1, qs, by omega, by go_num, HP.out.skip HT.out HZ.out HS.out HA.out HC0.out HD0.out⟩, by simp [intOf]; omega⟩
                · have hd1 : (0 : Int) < (d.l.length : Int) := by omega
                  clear hd0
                  have hTW := hid (show [Value.slice ca 0 cc, .slice da d.l.length dc] = tw ((c.l, ca, cc), (d.l, da, dc)) by simp [tw, slv, HC0.out])
                  have hp5 := H3.out.quiet qz
                  have hr5 := hp5.row
                  rw [← HNK.out] at hr5
                  have hs5 := hp5.low.size
                  have HP := hid hp5
                  have HR := hid hr5
                  clear hp5 hr5
                  go_wp2_with (at_builtin; refine wpList_append_lies _ rfl (.tmp 110) (.tmp 114) 55 rfl w.heap.size 54 i0 _ 2 48 Tryd.undT hi hz0 hz1 hz2 rfl (by decide) _ nk ((ps ++ qs).flatMap tw) rfl (HR.out.alloc _) ⟨w5.heap.size, 0, none⟩ 1 1 [.slice ca 0 cc, .slice da d.l.length dc] rfl rfl (news_at w5 _ 54) (by simp [Value.oneCell']) (by decide) (by unfold maxLen; omega) (by omega) (by simp; omega) _ rfl ?_; intro g2 cap2 w1 hr1 hg1 hat hlt1; rw [hTW.out] at hr1; have hD := hid (HP.out.push (p := ((c.l, ca, cc), (d.l, da, dc))) HC.out HT.out HZ.out HS.out HA.out HNK.out hr1 hg1 hat); clear hr1 hg1 hat hlt1)
                  exact ⟨⟨j + 1, qs ++ [((c.l, ca, cc), (d.l, da, dc))], by omega, by go_num, hD.out⟩, by simp [intOf]; omega⟩
              · have hc1 : (0 : Int) < (c.l.length : Int) := by omega
                have hp5 := H3.out.quiet qz
                have hr5 := hp5.row
                rw [← HNK.out] at hr5
                have hs5 := hp5.low.size
                have HP := hid hp5
                have HR := hid hr5
                clear hp5 hr5
                go_wp2_with (at_builtin; refine wpList_append_lies _ rfl (.tmp 110) (.tmp 114) 55 rfl w.heap.size 54 i0 _ 2 48 Tryd.undT hi hz0 hz1 hz2 rfl (by decide) _ nk ((ps ++ qs).flatMap tw) rfl (HR.out.alloc _) ⟨w5.heap.size, 0, none⟩ 1 1 (tw ((c.l, ca, cc), (d.l, da, dc))) rfl rfl (news_at w5 _ 54) (by simp [Value.oneCell', tw, slv]) (by decide) (by unfold maxLen; omega) (by omega) (by simp; omega) _ rfl ?_; intro g2 cap2 w1 hr1 hg1 hat hlt1; have hD := hid (HP.out.push (p := ((c.l, ca, cc), (d.l, da, dc))) HC.out HT.out HZ.out HS.out HA.out HNK.out hr1 hg1 hat); clear hr1 hg1 hat hlt1)
                exact ⟨⟨j + 1, qs ++ [((c.l, ca, cc), (d.l, da, dc))], by omega, by go_num, hD.out⟩, by simp [intOf]; omega⟩
          · have hjl : j = x.length := by omega
            subst hjl
            subst hsv
            have HH := hid H
            clear H hrk k0 k1
            go_wp2
            go_roundg (fsz (ps ++ qs))
            case measure =>
              have h2 := HH.out.num; have h3 := HX.out; have h4 := fsz_frs qs
              rw [List.take_length] at h2; rw [fsz_app]; omega
            case rel =>
              refine ⟨ps ++ qs, n + x.length, by go_num, HH.out.row, HL.out.app HH.out.lie, ?_, rfl, ?_, ?_, HH.out.low⟩
              · have h1 := HH.out.iff
                rw [List.take_length, HLL.out, List.take_length] at h1
                rw [Eq2.app, ← h1, HI.out]
              · have h2 := HH.out.num; have h3 := HX.out
                rw [List.take_length] at h2; rw [frs_app]; omega
              · have h2 := HH.out.num; have h3 := HX.out; have h4 := fsz_frs qs
                rw [List.take_length] at h2; rw [fsz_app]; omega
      · have hE := hid (sames_false (a := a) (b := b) (fun h => hll ((HI.out.1 h).2 ▸ rfl)))
        have l1 : ((x.length : Int) != (y.length : Int)) = true := by simp; omega
        have l2 : decide ((x.length : Int) = (y.length : Int)) = false := by simp; omega
        have l3 : ((x.length : Int) == (y.length : Int)) = false := by simp; omega
        go_wp2
        go_ret
        exact ⟨by rw [hE.out]; rfl, quiet_of (hB.alloc hB.size _)⟩
end Go.Proofs.YtekkecnhnaejlabDoor
