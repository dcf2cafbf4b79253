/- What IsDeeper does in memory whose blocks may be marked: it answers, and nothing old turns. -/
import Derived.Test.YtjcniiojcigefadMetZ
import Derived.Test.YtjcniiojcigefadDeepWalk
namespace Go.Proofs.Ytjcniiojcigefad
open Go.ChangeShapes Go.WideShapes Go.ChangeAt Go.RowKit
def LieZ (w : World) (ts : List Pl) : Prop := ∀ x ∈ ts, Fo (thw w) x.1 x.2.1
theorem frozen_block {w w' : World} {a : Addr} (h : w'.heap[a.block]? = w.heap[a.block]?) : w'.frozen? a = w.frozen? a := by unfold World.frozen?; rw [h]
theorem Cz.low {W w : World} {a : Option Addr} {B : Nat} (h : Cz W a) (hB : Below B W w) (hs : W.heap.size ≤ B) : Cz w a := by
  intro x hx
  obtain ⟨h1, c, t, fz, h2⟩ := h x hx
  have h3 := hB.block x.block (by have := lt_of_block h2; omega)
  exact ⟨(frozen_block h3).trans h1, c, t, fz, h3.trans h2⟩
/-- What there is of the next level. -/
structure DZ (W Wr : World) (bl : Value) (ks : List Pl) (es : Array MapEntry) (clock : Nat) (w : World) : Prop where
  row : w.ownsRow (Wr.heap.size + 1) 22 1 bl ks.length (ks.map slv)
  lie : LieZ W ks
  ne : ∀ x ∈ ks, x.1 ≠ []
  map : w.heap[Wr.heap.size]? = some (.map es clock)
  keys : Kz W es.toList
  low : Below Wr.heap.size Wr w
theorem DZ.kz {W Wr w : World} {bl : Value} {ks : List Pl} {es : Array MapEntry} {clock : Nat} (H : DZ W Wr bl ks es clock w) (hW : Below W.heap.size W Wr) : Kz w es.toList := by
  intro e he
  obtain ⟨hv, b, m, hk, hc⟩ := H.keys e he
  exact ⟨hv, b, m, hk, hc.low (hW.trans (H.low.mono hW.size)) (Nat.le_refl _)⟩
theorem DZ.quiet {W Wr w w' : World} {bl : Value} {ks : List Pl} {es : Array MapEntry} {clock : Nat} (H : DZ W Wr bl ks es clock w) (q : Quiet w w') : DZ W Wr bl ks es clock w' :=
  ⟨q.row H.row fun _ _ e => e, H.lie, H.ne, (q.block _ (lt_of_block H.map) fun e => e).trans H.map, H.keys, H.low.trans (q.below (by have := lt_of_block H.map; omega) fun _ e => e.elim)⟩
theorem row_addz {W Wr w5 : World} {bl : Value} {ks : List Pl} {es es' : Array MapEntry} {clock clock' nk k : Nat} (hn : nk = ks.length) (H : DZ W Wr bl ks es clock w5) : (setMap (w5.drewN k) Wr.heap.size es' clock').ownsRow (Wr.heap.size + 1) 22 1 bl nk (ks.map slv) := by
  subst hn
  exact setMap_quiet.row H.row fun k e hk => by have := (H.row.lt k e).1; omega
/-- One list more. -/
theorem DZ.push {W Wr w w5 w1 : World} {bl : Value} {ks : List Pl} {es es' : Array MapEntry} {clock clock' kd : Nat} {x : Pl} {g cap n : Nat} {o : Obj} (H : DZ W Wr bl ks es clock w) (q : Quiet w w5) (hx : Fo (thw W) x.1 x.2.1) (hne : x.1 ≠ []) (hn : n = ks.length)
    (he' : ∀ e ∈ es'.toList, e.val = .agg #[] ∧ ((∃ m, e.key = .agg #[.pointer x.2.1, .int .i64 m]) ∨ ∃ e' ∈ es.toList, e.key = e'.key))
    (hr1 : w1.ownsRow (Wr.heap.size + 1) 22 1 (.slice (some ⟨g, 0, none⟩) (n + 1) cap) (n + 1) (ks.map slv ++ [slv x])) (hg : ((setMap (w5.drewN kd) Wr.heap.size es' clock').alloc o).grownBy w1 bl.ownBlock) :
    DZ W Wr (.slice (some ⟨g, 0, none⟩) (n + 1) cap) (ks ++ [x]) es' clock' w1 := by
  subst hn
  have H5 := H.quiet q
  have hz5 : (setMap (w5.drewN kd) Wr.heap.size es' clock').heap.size = w5.heap.size := by simp [setMap]
  have hlt := lt_of_block H5.map
  refine ⟨by simpa using hr1, fun y hy => ?_, fun y hy => ?_, ?_, fun e he => ?_, ?_⟩
  · rcases List.mem_append.1 hy with hy | hy
    · exact H.lie y hy
    · simp at hy; subst hy; exact hx
  · rcases List.mem_append.1 hy with hy | hy
    · exact H.ne y hy
    · simp at hy; subst hy; exact hne
  · rw [hg.block Wr.heap.size (by simp; omega) (fun e => by have := (H5.row.lt _ e.symm).1; omega), Below.heap_alloc _ _ _ (by omega)]
    exact setMap_at hlt
  · obtain ⟨h1, h2⟩ := he' e he
    refine ⟨h1, ?_⟩
    rcases h2 with ⟨m, h2⟩ | ⟨e', h2, h3⟩
    · exact ⟨_, m, h2, hx.cz hne⟩
    · obtain ⟨_, b, m, h4, h5⟩ := H.keys e' h2
      exact ⟨b, m, h3.trans h4, h5⟩
  · refine ⟨?_, ?_, ?_, ?_, fun k hk => ?_⟩
    · exact (hg.os.trans rfl).trans H5.low.os
    · exact (hg.tape.trans rfl).trans H5.low.tape
    · exact (hg.output.trans rfl).trans H5.low.output
    · have := hg.size; have := H5.low.size; simp at *; omega
    · rw [hg.block k (by simp; omega) (fun e => by have := (H5.row.lt _ e.symm).1; omega), Below.heap_alloc _ _ _ (by omega), setMap_quiet.block k (by omega) (by omega)]
      exact H5.low.block k hk
set_option maxRecDepth 8000 in
set_option maxHeartbeats 4000000 in
theorem deeper_z (l : List V) (ao : Option Addr) (cap than : Nat) (w : World) (hF : Fo (thw w) l ao) (hS : sizes l ≤ 20000) (hth : than ≤ 100) :
    Calls Try.prog 27 #[.slice ao l.length cap, .int .i64 than, .func (.func 28) #[] #[]] w fun e w' => (∃ b, e = .returned (.bool b)) ∧ Quiet w w' := by
  obtain ⟨i0, hi, hz0, hz1, hz2⟩ := info_parts Try.infoL
  have hmm : ∀ (w : World), (Instr.makeMap 67 none).run Try.prog w = .ok (.map (some w.heap.size)) (w.alloc (.map #[] 0)) := fun w => run_makeMap _ w
  have hroot := hid hF
  have hrow := hid (row_one w 22 (slv (l, ao, cap)))
  clear hF
  go_enter Try.func27, Try.ntmps27
  go_wp2
  go_loopw [7, 21] (fun lv i wr => ∃ (k : Nat) (ls : List Pl), i = .int .i64 k ∧ k ≤ than + 1 ∧ wr.ownsRow w.heap.size 22 1 lv ls.length (ls.map slv) ∧ LieZ w ls ∧ ssz ls ≤ sizes l ∧ ls.length ≤ 20001 ∧ Below w.heap.size w wr) (fun _ i _ => than + 1 - (intOf i).toNat)
  case atStart =>
    refine ⟨0, [(l, ao, cap)], rfl, Nat.zero_le _, hrow.out, ?_, by rw [ssz_one]; exact Nat.le_refl _, by simp, (Below.refl _ _).alloc (Nat.le_refl _) _⟩
    intro x hx; simp at hx; subst hx; exact hroot.out
  case round =>
    rename World => Wr
    obtain ⟨k, ls, rfl, hk, hr, hL, hss, hll, hB⟩ := hrel
    have hsB := hB.size
    obtain ⟨lv, lc, hlv⟩ := owns_shape hr
    by_cases hlt : k < than + 1
    · have hlt' : (k : Int) < (than : Int) + 1 := by omega
      have HX := hid (And.intro hss hL)
      have HR := hid hr
      subst hlv
      clear hss hL hr
      go_wp2
      clear hmm
      go_loopw [8, 26] (fun bl i w2 => ∃ (j : Nat) (ks : List Pl) (es : Array MapEntry) (clock : Nat), j ≤ ls.length ∧ i = .int .i64 j ∧ DZ w Wr bl ks es clock w2 ∧ ssz ks ≤ ssz (ls.take j)) (fun _ i _ => ls.length - (intOf i).toNat)
      case atStart =>
        refine ⟨0, [], #[], 0, Nat.zero_le _, rfl, ⟨World.ownsRow_nil _ _ _ _, fun x hx => by simp at hx, fun x hx => by simp at hx, heap_alloc_new Wr _, fun e he => by simp at he, (Below.refl _ _).alloc (Nat.le_refl _) _⟩, by simp [ssz]⟩
      case round =>
        obtain ⟨j, ks, es, clock, hj, rfl, H, hks⟩ := hrel
        obtain ⟨bv, bc, hbv⟩ := owns_shape H.row
        by_cases hjl : j < ls.length
        · have hrw := row_low H.low HR.out
          obtain ⟨lg, hlg, hcell⟩ := owns_at hrw (by omega)
          have hc := hcell j (by omega)
          rw [List.getElem?_map, List.getElem?_eq_getElem hjl, Option.map_some, slv] at hc
          have hu := HX.out.2 ls[j] (List.getElem_mem hjl)
          have hst := ssz_take ls j hjl
          have hsl := ssz_take_le ls (j + 1)
          generalize hx : ls[j] = x at *
          obtain ⟨u, ua, uc⟩ := x
          simp only at hc hu hst
          have hul := sizes_len u
          have hss := HX.out.1
          have hul5 : u.length ≤ 20000 := by omega
          have HH := hid (And.intro H hks)
          have HT := hid (And.intro hst hsl)
          have HU := hid hu
          subst hlg
          subst hbv
          clear hx hcell hrw H hks hst hsl hu hss
          go_wp2
          go_loopw [8, 32] (fun bl i w2 => ∃ (m : Nat) (ks : List Pl) (es : Array MapEntry) (clock : Nat), m ≤ u.length ∧ i = .int .i64 m ∧ DZ w Wr bl ks es clock w2 ∧ ssz ks ≤ ssz (ls.take j) + sizes (u.take m)) (fun _ i _ => u.length - (intOf i).toNat)
          case atStart => exact ⟨0, ks, es, clock, Nat.zero_le _, rfl, HH.out.1, by have := HH.out.2; simp [sizes_nil]; omega⟩
          case round =>
            rename World => wq
            clear HH
            obtain ⟨m, ks, es, clock, hm, rfl, H, hks⟩ := hrel
            obtain ⟨bv, bc, hbv⟩ := owns_shape H.row
            have hkl := ssz_len H.ne
            have htt := sizes_take_le u m
            have hks5 : ks.length ≤ 20000 := by have := HT.out; have := HX.out.1; omega
            obtain ⟨nk, hnk⟩ : ∃ nk, nk = ks.length := ⟨_, rfl⟩
            rw [← hnk] at hbv
            have hnk5 : nk ≤ 20000 := by omega
            have HNK := hid hnk
            clear hnk hks5 hkl
            by_cases hml : m < u.length
            · obtain ⟨bb, oo, hua, dh, ca, cc, ds, hci⟩ := HU.out.get m hml
              have hBq : Below w.heap.size w wq := hB.trans (H.low.mono hB.size)
              obtain ⟨d0, d1, d2⟩ := dh
              have d0 := low_kept hBq _ _ (thw_cell d0 (by simp)).1
              have d1 := low_kept hBq _ _ (thw_cell d1 (by simp)).1
              have d2 := low_kept hBq _ _ (thw_cell d2 (by simp)).1
              have dsk := low_kept hBq _ _ (thw_cell ds (by simp)).1
              have hszt := sizes_take u m hml
              generalize hcu : u[m] = c at *
              have HC := hid hci.fo
              have hcl5 : c.l.length ≤ 20000 := by have := sizes_len c.l; have := size_eq c; have := sizes_take_le u (m + 1); have := HT.out; have := HX.out.1; omega
              have HN := hid (And.intro hszt hks)
              have HH := hid H
              have HS := hid (size_eq c)
              subst hua
              subst hbv
              clear hcu hszt ds hci hks H
              by_cases hcl : c.l.length = 0
              · have hcl' : ¬ (0 : Int) < (c.l.length : Int) := by omega
                have HCL := hid (List.eq_nil_of_length_eq_zero hcl)
                have hky : keyOf ca c.l.length = .agg #[.pointer none, .int .i64 c.l.length] := by simp [keyOf, hcl]
                have HKY := hid hky
                have hlk := hid (fun (w4 : World) (q : Quiet wq w4) => look_metz none c.l.length w4 Wr.heap.size clock es (fun x hx => by simp at hx) (HH.out.quiet q).map ((HH.out.quiet q).kz hB))
                clear hcl hky
                go_wp2_with (first
                  | (go_at_call 34; refine (listOf_any ca c.l.length cc w3 (fun h => by rw [HCL.out] at h; simp at h)).mono ?_)
                  | (go_at_call 28; refine (inside_any c ca cc _).mono ?_; rintro e w3 ⟨rfl, q3⟩; replace q3 : Quiet wq w3 := (Kp.alloc _ _).trans q3))
                rintro e w4 ⟨rfl, q4⟩
                rw [HKY.out]
                replace q4 := q3.trans q4
                obtain ⟨bk, kd, hl4⟩ := hlk.out w4 q4
                cases bk with
                | true =>
                  go_wp2
                  refine ⟨⟨m + 1, ks, es, clock, by omega, by go_num, HH.out.quiet (q4.trans ((Kp.drewN _ _).trans (Kp.alloc _ _))), ?_⟩, by simp [intOf]; omega⟩
                  have h := HN.out; omega
                | false =>
                  go_wp2
                  refine ⟨⟨m + 1, ks, es, clock, by omega, by go_num, HH.out.quiet (q4.trans ((Kp.drewN _ _).trans (Kp.alloc _ _))), ?_⟩, by simp [intOf]; omega⟩
                  have h := HN.out; omega
              · have hcl' : (0 : Int) < (c.l.length : Int) := by omega
                have hne : c.l ≠ [] := by intro e; rw [e] at hcl; simp at hcl
                obtain ⟨cb, co, hca⟩ : ∃ cb co, ca = some ⟨cb, co, none⟩ := by obtain ⟨b', o', e, _⟩ := HC.out 0 (by omega); exact ⟨b', o', e⟩
                have hky : keyOf ca c.l.length = .agg #[.pointer ca, .int .i64 c.l.length] := by simp [keyOf, hcl]
                have hcz := hid (fun (w4 : World) (q : Quiet wq w4) => (HC.out.cz hne).low (hBq.trans (q.low.mono hBq.size)) (Nat.le_refl _))
                have hlk := hid (fun (w4 : World) (q : Quiet wq w4) => look_metz ca c.l.length w4 Wr.heap.size clock es (hcz.out w4 q) (HH.out.quiet q).map ((HH.out.quiet q).kz hB))
                have had := hid (fun (w5 : World) (q : Quiet wq w5) => add_metz ca c.l.length w5 Wr.heap.size clock es (hcz.out w5 q) (HH.out.quiet q).map ((HH.out.quiet q).kz hB))
                have HNE := hid hne
                have hco : 0 < c.l.length := by omega
                have HKY := hid hky
                have hzw := lt_of_block HH.out.map
                clear hne hcl hky hcz
                subst hca
                go_wp2_with (first
                  | (go_at_call 34; refine (listOf_any (some ⟨cb, co, none⟩) c.l.length cc w3 (fun h => ⟨cb, co, rfl⟩)).mono ?_)
                  | (go_at_call 28; refine (inside_any c (some ⟨cb, co, none⟩) cc _).mono ?_; rintro e w3 ⟨rfl, q3⟩; replace q3 : Quiet wq w3 := (Kp.alloc _ _).trans q3))
                rintro e w4 ⟨rfl, q4⟩
                rw [HKY.out]
                replace q4 := q3.trans q4
                obtain ⟨bk, kd, hl4⟩ := hlk.out w4 q4
                cases bk with
                | true =>
                  go_wp2
                  refine ⟨⟨m + 1, ks, es, clock, by omega, by go_num, HH.out.quiet (q4.trans ((Kp.drewN _ _).trans (Kp.alloc _ _))), ?_⟩, by simp [intOf]; omega⟩
                  have h := HN.out; omega
                | false =>
                  go_wp2_with (first
                    | (at_builtin; refine wpList_append_lies _ rfl (.tmp 57) (.tmp 59) 66 rfl (Wr.heap.size + 1) 22 i0 _ 1 24 Try.undL hi hz0 hz1 hz2 rfl (by decide) _ nk (ks.map slv) rfl (hr6.alloc _) ⟨(setMap (w5.drewN kd5) Wr.heap.size es5 cl5).heap.size, 0, none⟩ 1 1 [slv (c.l, some ⟨cb, co, none⟩, cc)] rfl rfl (news_at _ _ 22) (by simp [Value.oneCell', slv]) (by decide) (by unfold maxLen; omega) (by omega) (by have := hz6.out; simp; omega) _ rfl ?_; intro g2 cap2 w1 hr1 hg1 hat hlt1; have hD := hid (HH.out.push (x := (c.l, some ⟨cb, co, none⟩, cc)) q5 HC.out HNE.out HNK.out hk5.out hr1 hg1); clear hr1 hg1 hat hlt1)
                    | (go_at_call 34; refine (listOf_any (some ⟨cb, co, none⟩) c.l.length cc _ (fun h => ⟨cb, co, rfl⟩)).mono ?_; rintro e w5 ⟨rfl, q5⟩; rw [HKY.out]; replace q5 : Quiet wq w5 := (q4.trans ((Kp.drewN _ _).trans (Kp.alloc _ _))).trans q5; obtain ⟨es5, cl5, kd5, hl5, hk5'⟩ := had.out w5 q5; have hk5 := hid hk5'; clear hk5'; have hr6 := row_addz (es' := es5) (clock' := cl5) (k := kd5) HNK.out (HH.out.quiet q5); have hz6 := hid (show (setMap (w5.drewN kd5) Wr.heap.size es5 cl5).heap.size = w5.heap.size by simp [setMap]); have hz5 := q5.size))
                  refine ⟨⟨m + 1, ks ++ [(c.l, some ⟨cb, co, none⟩, cc)], _, _, by omega, by go_num, hD.out, ?_⟩, by simp [intOf]; omega⟩
                  have h := HN.out; have h2 := HS.out; rw [ssz_app, ssz_one]; simp only; omega
            · have hml' : m = u.length := by omega
              subst hml'
              rw [List.take_length] at hks
              have HH := hid (And.intro H hks)
              subst hbv
              clear H hks
              go_wp2
              refine ⟨⟨j + 1, ks, es, clock, by omega, by go_num, HH.out.1, ?_⟩, by simp [intOf]; omega⟩
              have h := HH.out.2; have h2 := HT.out.1; omega
        · have hjl' : j = ls.length := by omega
          subst hjl'
          rw [List.take_length] at hks
          have hkl := ssz_len H.ne
          have HH := hid (And.intro H (And.intro hks hkl))
          subst hbv
          clear H hks hkl
          go_wp2
          refine ⟨⟨k + 1, ks, by go_num, by omega, owns_mono HH.out.1.row (by omega), HH.out.1.lie, ?_, ?_, hB.trans (HH.out.1.low.mono hB.size)⟩, by simp [intOf]; omega⟩
          · have h := HH.out.2.1; have h2 := HX.out.1; omega
          · have h := HH.out.2; have h2 := HX.out.1; omega
    · have hk' : k = than + 1 := by omega
      have hnl : ¬ (k : Int) < (than : Int) + 1 := by omega
      have hlen : ls.length ≤ 20001 := hll
      subst hlv
      clear hk' hL hss hr
      go_wp2
      go_ret
      exact ⟨by by_cases h0 : 0 < ls.length <;> simp [h0], quiet_of hB⟩
end Go.Proofs.Ytjcniiojcigefad
