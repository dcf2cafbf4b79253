/- The contract of IsDeeper: the walk. -/
import Derived.Test.YtjcniiojcigefadDeeper
namespace Go.Proofs.Ytjcniiojcigefad
open Go.ChangeShapes Go.WideShapes Go.ChangeAt Go.RowKit
theorem row_low {b : Nat} {w w' : World} {e : TypeId} {size : Nat} {v : Value} {n : Nat} {xs : List Value} (hb : Below w.heap.size w w') (ho : w.ownsRow b e size v n xs) : w'.ownsRow b e size v n xs := (quiet_of hb).row ho fun _ _ e => e
theorem row_add {W Wr w5 : World} {bl : Value} {ks : List Pl} {es : Array MapEntry} {clock nk : Nat} {a : Option Addr} {n : Int} (hn : nk = ks.length) (H : DS W Wr bl ks es clock w5) : (addKey w5 Wr.heap.size es clock a n).ownsRow (Wr.heap.size + 1) 22 1 bl nk (ks.map slv) := by
  subst hn
  exact addKey_quiet.row H.row fun k e hk => by have := (H.row.lt k e).1; omega
set_option maxRecDepth 8000 in
set_option maxHeartbeats 4000000 in
theorem deeper_any (l : List V) (ao : Option Addr) (cap than : Nat) (w : World) (hF : Fo (cln w) l ao) (hS : sizes l ≤ 20000) (hth : than ≤ 100) :
    Calls Try.prog 27 #[.slice ao l.length cap, .int .i64 than, .func (.func 28) #[] #[]] w fun e w' => e = .returned (.bool (decide (than + 1 < deeps l))) ∧ Quiet w w' := by
  obtain ⟨i0, hi, hz0, hz1, hz2⟩ := info_parts Try.infoL
  have hmm : ∀ (w : World), (Instr.makeMap 67 none).run Try.prog w = .ok (.map (some w.heap.size)) (w.alloc (.map #[] 0)) := fun w => run_makeMap _ w
  have hroot := hid hF
  have hrow := hid (row_one w 22 (slv (l, ao, cap)))
  clear hF
  go_enter Try.func27, Try.ntmps27
  go_wp2
  go_loopw [7, 21] (fun lv i wr => ∃ (k : Nat) (ls : List Pl), i = .int .i64 k ∧ k ≤ than + 1 ∧ wr.ownsRow w.heap.size 22 1 lv ls.length (ls.map slv) ∧ LieC w ls ∧ mx ls = deeps l - k ∧ ssz ls ≤ sizes l ∧ ls.length ≤ 20001 ∧ (1 ≤ k → ∀ x ∈ ls, x.1 ≠ []) ∧ Below w.heap.size w wr) (fun _ i _ => than + 1 - (intOf i).toNat)
  case atStart =>
    refine ⟨0, [(l, ao, cap)], rfl, Nat.zero_le _, hrow.out, ?_, mx_one _, by rw [ssz_one]; exact Nat.le_refl _, by simp, by omega, (Below.refl _ _).alloc (Nat.le_refl _) _⟩
    intro x hx; simp at hx; subst hx; exact hroot.out
  case round =>
    rename World => Wr
    obtain ⟨k, ls, rfl, hk, hr, hL, hmx, hss, hll, hne, hB⟩ := hrel
    have hsB := hB.size
    obtain ⟨lv, lc, hlv⟩ := owns_shape hr
    by_cases hlt : k < than + 1
    · have hlt' : (k : Int) < (than : Int) + 1 := by omega
      have HX := hid (And.intro hmx (And.intro hss hL))
      have HR := hid hr
      subst hlv
      clear hmx hss hL hne hr
      go_wp2
      clear hmm
      go_loopw [8, 26] (fun bl i w2 => ∃ (j : Nat) (ks : List Pl) (es : Array MapEntry) (clock : Nat), j ≤ ls.length ∧ i = .int .i64 j ∧ DS w Wr bl ks es clock w2 ∧ mx ks = mx (ls.take j) - 1 ∧ ssz ks ≤ ssz (ls.take j)) (fun _ i _ => ls.length - (intOf i).toNat)
      case atStart =>
        refine ⟨0, [], #[], 0, Nat.zero_le _, rfl, ⟨World.ownsRow_nil _ _ _ _, fun x hx => by simp at hx, fun x hx => by simp at hx, heap_alloc_new Wr _, fun e he => by simp at he, (Below.refl _ _).alloc (Nat.le_refl _) _⟩, by simp [mx], by simp [ssz]⟩
      case round =>
        obtain ⟨j, ks, es, clock, hj, rfl, H, hkm, hks⟩ := hrel
        obtain ⟨bv, bc, hbv⟩ := owns_shape H.row
        by_cases hjl : j < ls.length
        · have hrw := row_low H.low HR.out
          obtain ⟨lg, hlg, hcell⟩ := owns_at hrw (by omega)
          have hc := hcell j (by omega)
          rw [List.getElem?_map, List.getElem?_eq_getElem hjl, Option.map_some, slv] at hc
          have hu := HX.out.2.2 ls[j] (List.getElem_mem hjl)
          have hmt := mx_take ls j hjl
          have hst := ssz_take ls j hjl
          have hsl := ssz_take_le ls (j + 1)
          generalize hx : ls[j] = x at *
          obtain ⟨u, ua, uc⟩ := x
          simp only at hc hu hmt hst
          have hul := sizes_len u
          have hss := HX.out.2.1
          have hul5 : u.length ≤ 20000 := by omega
          have HH := hid (And.intro H (And.intro hkm hks))
          have HT := hid (And.intro hmt (And.intro hst hsl))
          have HU := hid hu
          subst hlg
          subst hbv
          clear hx hcell hrw H hkm hks hmt hst hsl hu hss
          go_wp2
          go_loopw [8, 32] (fun bl i w2 => ∃ (m : Nat) (ks : List Pl) (es : Array MapEntry) (clock : Nat), m ≤ u.length ∧ i = .int .i64 m ∧ DS w Wr bl ks es clock w2 ∧ mx ks = max (mx (ls.take j) - 1) (deeps (u.take m) - 1) ∧ ssz ks ≤ ssz (ls.take j) + sizes (u.take m)) (fun _ i _ => u.length - (intOf i).toNat)
          case atStart => exact ⟨0, ks, es, clock, Nat.zero_le _, rfl, HH.out.1, by rw [HH.out.2.1]; simp [deeps_nil], by have := HH.out.2.2; simp [sizes_nil]; omega⟩
          case round =>
            rename World => wq
            clear HH
            obtain ⟨m, ks, es, clock, hm, rfl, H, hkm, hks⟩ := hrel
            obtain ⟨bv, bc, hbv⟩ := owns_shape H.row
            have hkl := ssz_len H.ne
            have htt := sizes_take_le u m
            have hks5 : ks.length ≤ 20000 := by have := HT.out; have := HX.out.2.1; omega
            obtain ⟨nk, hnk⟩ : ∃ nk, nk = ks.length := ⟨_, rfl⟩
            rw [← hnk] at hbv
            have hnk5 : nk ≤ 20000 := by omega
            have HNK := hid hnk
            clear hnk hks5 hkl
            by_cases hml : m < u.length
            · obtain ⟨bb, oo, hua, dh, ca, cc, ds, hci⟩ := HU.out.get m hml
              have hW : Below w.heap.size w Wr := hB
              have hBq : Below w.heap.size w wq := hB.trans (H.low.mono hB.size)
              obtain ⟨d0, d9, d1⟩ := head_kept (fun a x hc => low_kept hBq a x (cln_cell hc).1) dh
              have dsk := low_kept hBq _ _ (cln_cell ds).1
              have hdt := deeps_take u m hml
              have hszt := sizes_take u m hml
              generalize hcu : u[m] = c at *
              have HC := hid hci.fo
              have hcl5 : c.l.length ≤ 20000 := by have := sizes_len c.l; have := size_eq c; have := sizes_take_le u (m + 1); have := HT.out; have := HX.out.2.1; omega
              have HN := hid (And.intro hdt (And.intro hszt (And.intro hkm hks)))
              have HH := hid H
              have HS := hid (size_eq c)
              subst hua
              subst hbv
              clear hcu hdt hszt dh ds hci hkm hks H
              by_cases hcl : c.l.length = 0
              · have hcl' : ¬ (0 : Int) < (c.l.length : Int) := by omega
                have HCL := hid (List.eq_nil_of_length_eq_zero hcl)
                have hky : keyOf ca c.l.length = .agg #[.pointer none, .int .i64 c.l.length] := by simp [keyOf, hcl]
                have HKY := hid hky
                have hlk := hid (fun (w4 : World) (q : Quiet wq w4) => (look_met none 0 w4 Wr.heap.size clock es (fun x hx => by simp at hx) (HH.out.quiet q).map ((HH.out.quiet q).ks hB)).1)
                rw [HH.out.noNil] at hlk
                rw [show (0 : Int) = (c.l.length : Int) by omega] at hlk
                clear hcl hky
                go_wp2_with (first
                  | (go_at_call 34; refine (listOf_any ca c.l.length cc w3 (fun h => by rw [HCL.out] at h; simp at h)).mono ?_; rintro e w4 ⟨rfl, q4⟩; rw [HKY.out]; replace q4 := q3.trans q4; have hl4 := hlk.out w4 q4)
                  | (go_at_call 28; refine (inside_any c ca cc _).mono ?_; rintro e w3 ⟨rfl, q3⟩; replace q3 : Quiet wq w3 := (Kp.alloc _ _).trans q3))
                refine ⟨⟨m + 1, ks, es, clock, by omega, by go_num, HH.out.quiet (q4.trans (Kp.alloc _ _)), ?_, ?_⟩, by simp [intOf]; omega⟩
                · have h := HN.out; have h0 : deeps c.l = 0 := by rw [HCL.out]; exact deeps_nil
                  omega
                · have h := HN.out; omega
              · have hcl' : (0 : Int) < (c.l.length : Int) := by omega
                have hne : c.l ≠ [] := by intro e; rw [e] at hcl; simp at hcl
                obtain ⟨cb, co, hca⟩ : ∃ cb co, ca = some ⟨cb, co, none⟩ := by obtain ⟨b', o', e, _⟩ := HC.out 0 (by omega); exact ⟨b', o', e⟩
                have hky : keyOf ca c.l.length = .agg #[.pointer ca, .int .i64 c.l.length] := by simp [keyOf, hcl]
                have hlm := fun (w4 : World) (q : Quiet wq w4) => look_met ca c.l.length w4 Wr.heap.size clock es (cp_of (x := (c.l, ca, cc)) HC.out hne (hBq.trans (q.low.mono hBq.size)) (Nat.le_refl _)) (HH.out.quiet q).map ((HH.out.quiet q).ks hB)
                have HNE := hid hne
                have hco : 0 < c.l.length := by omega
                have hmet := fun h => HH.out.met (x := (c.l, ca, cc)) HC.out h
                simp only at hmet
                clear hne hcl
                cases hf : hasKey es.toList ca c.l.length with
                | true =>
                  have hlk := hid (fun (w4 : World) (q : Quiet wq w4) => (hlm w4 q).1)
                  rw [hf] at hlk
                  have HM := hid (hmet hf)
                  have HKY := hid hky
                  clear hlm hmet hf hky
                  subst hca
                  go_wp2_with (first
                    | (go_at_call 34; refine (listOf_any (some ⟨cb, co, none⟩) c.l.length cc w3 (fun h => ⟨cb, co, rfl⟩)).mono ?_; rintro e w4 ⟨rfl, q4⟩; rw [HKY.out]; replace q4 := q3.trans q4; have hl4 := hlk.out w4 q4)
                    | (go_at_call 28; refine (inside_any c (some ⟨cb, co, none⟩) cc _).mono ?_; rintro e w3 ⟨rfl, q3⟩; replace q3 : Quiet wq w3 := (Kp.alloc _ _).trans q3))
                  refine ⟨⟨m + 1, ks, es, clock, by omega, by go_num, HH.out.quiet (q4.trans (Kp.alloc _ _)), ?_, ?_⟩, by simp [intOf]; omega⟩
                  · have h := HN.out; have h0 := HM.out
                    omega
                  · have h := HN.out; omega
                | false =>
                  have hlk := hid (fun (w4 : World) (q : Quiet wq w4) => (hlm w4 q).1)
                  rw [hf] at hlk
                  have had := hid (fun (w5 : World) (q : Quiet wq w5) => add_met ca c.l.length w5 Wr.heap.size clock es (HH.out.quiet q).map ((hlm w5 q).2 hf))
                  have HKY := hid hky
                  have hzw := lt_of_block HH.out.map
                  clear hlm hmet hf hky
                  subst hca
                  go_wp2_with (first
                    | (at_builtin; refine wpList_append_lies _ rfl (.tmp 57) (.tmp 59) 66 rfl (Wr.heap.size + 1) 22 i0 _ 1 24 Try.undL hi hz0 hz1 hz2 rfl (by decide) _ nk (ks.map slv) rfl (hr6.alloc _) ⟨(addKey w5 Wr.heap.size es clock (some ⟨cb, co, none⟩) c.l.length).heap.size, 0, none⟩ 1 1 [slv (c.l, some ⟨cb, co, none⟩, cc)] rfl rfl (news_at _ _ 22) (by simp [Value.oneCell', slv]) (by decide) (by unfold maxLen; omega) (by omega) (by have := hz6.out; simp; omega) _ rfl ?_; intro g2 cap2 w1 hr1 hg1 hat hlt1; have hD := hid (HH.out.push (x := (c.l, some ⟨cb, co, none⟩, cc)) q5 HC.out HNE.out HNK.out hr1 hg1); clear hr1 hg1 hat hlt1)
                    | (go_at_call 34; refine (listOf_any (some ⟨cb, co, none⟩) c.l.length cc _ (fun h => ⟨cb, co, rfl⟩)).mono ?_; rintro e w5 ⟨rfl, q5⟩; rw [HKY.out]; replace q5 : Quiet wq w5 := (q4.trans (Kp.alloc _ _)).trans q5; have hl5 := had.out w5 q5; have hr6 := row_add (a := some ⟨cb, co, none⟩) (n := c.l.length) (es := es) (clock := clock) HNK.out (HH.out.quiet q5); have hz6 := hid (show (addKey w5 Wr.heap.size es clock (some ⟨cb, co, none⟩) c.l.length).heap.size = w5.heap.size by simp [addKey]); have hz5 := q5.size)
                    | (go_at_call 34; refine (listOf_any (some ⟨cb, co, none⟩) c.l.length cc w3 (fun h => ⟨cb, co, rfl⟩)).mono ?_; rintro e w4 ⟨rfl, q4⟩; rw [HKY.out]; replace q4 := q3.trans q4; have hl4 := hlk.out w4 q4)
                    | (go_at_call 28; refine (inside_any c (some ⟨cb, co, none⟩) cc _).mono ?_; rintro e w3 ⟨rfl, q3⟩; replace q3 : Quiet wq w3 := (Kp.alloc _ _).trans q3))
                  refine ⟨⟨m + 1, ks ++ [(c.l, some ⟨cb, co, none⟩, cc)], _, _, by omega, by go_num, hD.out, ?_, ?_⟩, by simp [intOf]; omega⟩
                  · have h := HN.out; rw [mx_app, mx_one]; simp only; omega
                  · have h := HN.out; have h2 := HS.out; rw [ssz_app, ssz_one]; simp only; omega
            · have hml' : m = u.length := by omega
              subst hml'
              rw [List.take_length] at hkm hks
              have HH := hid (And.intro H (And.intro hkm hks))
              subst hbv
              clear H hkm hks
              go_wp2
              refine ⟨⟨j + 1, ks, es, clock, by omega, by go_num, HH.out.1, ?_, ?_⟩, by simp [intOf]; omega⟩
              · have h := HH.out.2.1; have h2 := HT.out.1; omega
              · have h := HH.out.2.2; have h2 := HT.out.2.1; omega
        · have hjl' : j = ls.length := by omega
          subst hjl'
          rw [List.take_length] at hkm hks
          have hkl := ssz_len H.ne
          have HH := hid (And.intro H (And.intro hkm (And.intro hks hkl)))
          subst hbv
          clear H hkm hks hkl
          go_wp2
          refine ⟨⟨k + 1, ks, by go_num, by omega, owns_mono HH.out.1.row (by omega), HH.out.1.lie, ?_, ?_, ?_, fun _ => HH.out.1.ne, hB.trans (HH.out.1.low.mono hB.size)⟩, by simp [intOf]; omega⟩
          · have h := HH.out.2.1; have h2 := HX.out.1; omega
          · have h := HH.out.2.2; have h2 := HX.out.2.1; omega
          · have h := HH.out.2.2; have h2 := HX.out.2.1; omega
    · have hk' : k = than + 1 := by omega
      have hnl : ¬ (k : Int) < (than : Int) + 1 := by omega
      have hE := hid (show decide ((0 : Int) < (ls.length : Int)) = decide (than + 1 < deeps l) by
        rw [decide_eq_decide]
        constructor
        · intro h
          have h1 : 0 < ls.length := by omega
          have h2 := mx_mem (List.getElem_mem h1)
          have h3 := deeps_pos (hne (by omega) _ (List.getElem_mem h1))
          omega
        · intro h
          cases ls with
          | nil => rw [mx_nil] at hmx; omega
          | cons x ls => simp)
      have hlen : ls.length ≤ 20001 := hll
      subst hlv
      clear hmx hk' hne hL hss hr
      go_wp2
      go_ret
      exact ⟨by rw [← hE.out]; simp, quiet_of hB⟩
end Go.Proofs.Ytjcniiojcigefad
