/- Parts. -/
import Derived.Test.YtkpckmcaeljocaaGreatUE1
namespace Go.Proofs.YtkpckmcaeljocaaGreat.Ex
open Go.ChangeShapes Go.WideShapes Go.ChangeAt Go.RowKit
theorem row_low {b : Nat} {w w' : World} {e : TypeId} {size : Nat} {v : Value} {n : Nat} {xs : List Value} (hb : Below w.heap.size w w') (ho : w.ownsRow b e size v n xs) : w'.ownsRow b e size v n xs := (quiet_of hb).row ho fun _ _ e => e
theorem row_add {W Wr w5 : World} {bl : Value} {ks : List Pl} {es : Array MapEntry} {clock nk : Nat} {a : Option Addr} {n : Int} (hn : nk = ks.length) (H : DS W Wr bl ks es clock w5) : (addKey w5 Wr.heap.size es clock a n).ownsRow (Wr.heap.size + 1) 43 1 bl nk (ks.map slv) := by
  subst hn
  exact addKey_quiet.row H.row fun k e hk => by have := (H.row.lt k e).1; omega
set_option maxRecDepth 8000 in
set_option maxHeartbeats 4000000 in
theorem deeper_any (l : List V) (ao : Option Addr) (cap than : Nat) (w : World) (hF : Fo (cln w) l ao) (hS : sizes l ≤ 20000) (hth : than ≤ 100) :
    Calls Tryz.prog 117 #[.slice ao l.length cap, .int .i64 than, .func (.func 118) #[] #[]] w fun e w' => e = .returned (.bool (decide (than + 1 < deeps l))) ∧ Quiet w w' := by
  obtain ⟨i0, hi, hz0, hz1, hz2⟩ := info_parts Tryz.infoL
  have hmm : ∀ (w : World), (Instr.makeMap 204 none).run Tryz.prog w = .ok (.map (some w.heap.size)) (w.alloc (.map #[] 0)) := fun w => run_makeMap _ w
  have hroot := hid hF
  have hrow := hid (row_one w 43 (slv (l, ao, cap)))
  clear hF
  go_enter Tryz.func117, Tryz.ntmps117
  go_wp2
  go_loopw [7, 21] (fun lv i wr => ∃ (k : Nat) (ls : List Pl), i = .int .i64 k ∧ k ≤ than + 1 ∧ wr.ownsRow w.heap.size 43 1 lv ls.length (ls.map slv) ∧ LieC w ls ∧ mx ls = deeps l - k ∧ ssz ls ≤ sizes l ∧ ls.length ≤ 20001 ∧ (1 ≤ k → ∀ x ∈ ls, x.1 ≠ []) ∧ Below w.heap.size w wr) (fun _ i _ => than + 1 - (intOf i).toNat)
  case atStart =>
    refine ⟨0, [(l, ao, cap)], rfl, Nat.zero_le _, hrow.out, ?_, mx_one _, by rw [ssz_one]; exact Nat.le_refl _, by simp, by omega, (Below.refl _ _).alloc (Nat.le_refl _) _⟩
    intro x hx; simp at hx; subst hx; exact hroot.out
  case round =>
    rename World => Wr
    obtain ⟨k, ls, rfl, hk, hr, hL, hmx, hss, hll, hne, hB⟩ := hrel
    have hsB := hB.size
    obtain ⟨lv, lc, hlv⟩ := owns_shape hr
    by_cases hlt : k < than + 1
    · have hlt' : (k : Int) < (than : Int) + 1 := by omega
      have HX := hid (And.intro hmx (And.intro hss hL))
      have HR := hid hr
      subst hlv
      clear hmx hss hL hne hr
      go_wp2
      clear hmm
      go_loopw [8, 26] (fun bl i w2 => ∃ (j : Nat) (ks : List Pl) (es : Array MapEntry) (clock : Nat), j ≤ ls.length ∧ i = .int .i64 j ∧ DS w Wr bl ks es clock w2 ∧ mx ks = mx (ls.take j) - 1 ∧ ssz ks ≤ ssz (ls.take j)) (fun _ i _ => ls.length - (intOf i).toNat)
      case atStart =>
        refine ⟨0, [], #[], 0, Nat.zero_le _, rfl, ⟨World.ownsRow_nil _ _ _ _, fun x hx => by simp at hx, fun x hx => by simp at hx, heap_alloc_new Wr _, fun e he => by simp at he, (Below.refl _ _).alloc (Nat.le_refl _) _⟩, by simp [mx], by simp [ssz]⟩
      case round =>
        obtain ⟨j, ks, es, clock, hj, rfl, H, hkm, hks⟩ := hrel
        obtain ⟨bv, bc, hbv⟩ := owns_shape H.row
        by_cases hjl : j < ls.length
        · have hrw := row_low H.low HR.out
          obtain ⟨lg, hlg, hcell⟩ := owns_at hrw (by omega)
          have hc := hcell j (by omega)
          rw [List.getElem?_map, List.getElem?_eq_getElem hjl, Option.map_some, slv] at hc
          have hu := HX.out.2.2 ls[j] (List.getElem_mem hjl)
          have hmt := mx_take ls j hjl
          have hst := ssz_take ls j hjl
          have hsl := ssz_take_le ls (j + 1)
          generalize hx : ls[j] = x at *
          obtain ⟨u, ua, uc⟩ := x
          simp only at hc hu hmt hst
          have hul := sizes_len u
          have hss := HX.out.2.1
          have hul5 : u.length ≤ 20000 := by omega
          have HH := hid (And.intro H (And.intro hkm hks))
          have HT := hid (And.intro hmt (And.intro hst hsl))
          have HU := hid hu
          subst hlg
          subst hbv
          clear hx hcell hrw H hkm hks hmt hst hsl hu hss
          go_wp2
          go_loopw [8, 32] (fun bl i w2 => ∃ (m : Nat) (ks : List Pl) (es : Array MapEntry) (clock : Nat), m ≤ u.length ∧ i = .int .i64 m ∧ DS w Wr bl ks es clock w2 ∧ mx ks = max (mx (ls.take j) - 1) (deeps (u.take m) - 1) ∧ ssz ks ≤ ssz (ls.take j) + sizes (u.take m)) (fun _ i _ => u.length - (intOf i).toNat)
          case atStart => exact ⟨0, ks, es, clock, Nat.zero_le _, rfl, HH.out.1, by rw [HH.out.2.1]; simp [deeps_nil], by have := HH.out.2.2; simp [sizes_nil]; omega⟩
          case round =>
            rename World => wq
            clear HH
            obtain ⟨m, ks, es, clock, hm, rfl, H, hkm, hks⟩ := hrel
            obtain ⟨bv, bc, hbv⟩ := owns_shape H.row
            have hkl := ssz_len H.ne
            have htt := sizes_take_le u m
            have hks5 : ks.length ≤ 20000 := by have := HT.out; have := HX.out.2.1; omega
            obtain ⟨nk, hnk⟩ : ∃ nk, nk = ks.length := ⟨_, rfl⟩
            rw [← hnk] at hbv
            have hnk5 : nk ≤ 20000 := by omega
            have HNK := hid hnk
            clear hnk hks5 hkl
            by_cases hml : m < u.length
            · obtain ⟨bb, oo, hua, dh, ca, cc, ds, hci⟩ := HU.out.get m hml
              have hW : Below w.heap.size w Wr := hB
              have hBq : Below w.heap.size w wq := hB.trans (H.low.mono hB.size)
              obtain ⟨d0, d9, d1⟩ := head_kept (fun a x hc => low_kept hBq a x (cln_cell hc).1) dh
              have dsk := low_kept hBq _ _ (cln_cell ds).1
              have hdt := deeps_take u m hml
              have hszt := sizes_take u m hml
              generalize hcu : u[m] = c at *
              have HC := hid hci.fo
              have hcl5 : c.l.length ≤ 20000 := by have := sizes_len c.l; have := size_eq c; have := sizes_take_le u (m + 1); have := HT.out; have := HX.out.2.1; omega
              have HN := hid (And.intro hdt (And.intro hszt (And.intro hkm hks)))
              have HH := hid H
              have HS := hid (size_eq c)
              subst hua
              subst hbv
              clear hcu hdt hszt dh ds hci hkm hks H
              by_cases hcl : c.l.length = 0
              · have hcl' : ¬ (0 : Int) < (c.l.length : Int) := by omega
                have HCL := hid (List.eq_nil_of_length_eq_zero hcl)
                have hky : keyOf ca c.l.length = .agg #[.pointer none, .int .i64 c.l.length] := by simp [keyOf, hcl]
                have HKY := hid hky
                have hlk := hid (fun (w4 : World) (q : Quiet wq w4) => (look_met none 0 w4 Wr.heap.size clock es (fun x hx => by simp at hx) (HH.out.quiet q).map ((HH.out.quiet q).ks hB)).1)
                rw [HH.out.noNil] at hlk
                rw [show (0 : Int) = (c.l.length : Int) by omega] at hlk
                clear hcl hky
                go_wp2_with (first
                  | (go_at_call 139; refine (listOf_any ca c.l.length cc w3 (fun h => by rw [HCL.out] at h; simp at h)).mono ?_; rintro e w4 ⟨rfl, q4⟩; rw [HKY.out]; replace q4 := q3.trans q4; have hl4 := hlk.out w4 q4)
                  | (go_at_call 118; refine (inside_any c ca cc _).mono ?_; rintro e w3 ⟨rfl, q3⟩; replace q3 : Quiet wq w3 := (Kp.alloc _ _).trans q3))
                refine ⟨⟨m + 1, ks, es, clock, by omega, by go_num, HH.out.quiet (q4.trans (Kp.alloc _ _)), ?_, ?_⟩, by simp [intOf]; omega⟩
                · have h := HN.out; have h0 : deeps c.l = 0 := by rw [HCL.out]; exact deeps_nil
                  omega
                · have h := HN.out; omega
              · have hcl' : (0 : Int) < (c.l.length : Int) := by omega
                have hne : c.l ≠ [] := by intro e; rw [e] at hcl; simp at hcl
                obtain ⟨cb, co, hca⟩ : ∃ cb co, ca = some ⟨cb, co, none⟩ := by obtain ⟨b', o', e, _⟩ := HC.out 0 (by omega); exact ⟨b', o', e⟩
                have hky : keyOf ca c.l.length = .agg #[.pointer ca, .int .i64 c.l.length] := by simp [keyOf, hcl]
                have hlm := fun (w4 : World) (q : Quiet wq w4) => look_met ca c.l.length w4 Wr.heap.size clock es (cp_of (x := (c.l, ca, cc)) HC.out hne (hBq.trans (q.low.mono hBq.size)) (Nat.le_refl _)) (HH.out.quiet q).map ((HH.out.quiet q).ks hB)
                have HNE := hid hne
                have hco : 0 < c.l.length := by omega
                have hmet := fun h => HH.out.met (x := (c.l, ca, cc)) HC.out h
                simp only at hmet
                clear hne hcl
                cases hf : hasKey es.toList ca c.l.length with
                | true =>
                  have hlk := hid (fun (w4 : World) (q : Quiet wq w4) => (hlm w4 q).1)
                  rw [hf] at hlk
                  have HM := hid (hmet hf)
                  have HKY := hid hky
                  clear hlm hmet hf hky
                  subst hca
                  go_wp2_with (first
                    | (go_at_call 139; refine (listOf_any (some ⟨cb, co, none⟩) c.l.length cc w3 (fun h => ⟨cb, co, rfl⟩)).mono ?_; rintro e w4 ⟨rfl, q4⟩; rw [HKY.out]; replace q4 := q3.trans q4; have hl4 := hlk.out w4 q4)
                    | (go_at_call 118; refine (inside_any c (some ⟨cb, co, none⟩) cc _).mono ?_; rintro e w3 ⟨rfl, q3⟩; replace q3 : Quiet wq w3 := (Kp.alloc _ _).trans q3))
                  refine ⟨⟨m + 1, ks, es, clock, by omega, by go_num, HH.out.quiet (q4.trans (Kp.alloc _ _)), ?_, ?_⟩, by simp [intOf]; omega⟩
                  · have h := HN.out; have h0 := HM.out
                    omega
                  · have h := HN.out; omega
                | false =>
                  have hlk := hid (fun (w4 : World) (q : Quiet wq w4) => (hlm w4 q).1)
                  rw [hf] at hlk
                  have had := hid (fun (w5 : World) (q : Quiet wq w5) => add_met ca c.l.length w5 Wr.heap.size clock es (HH.out.quiet q).map ((hlm w5 q).2 hf))
                  have HKY := hid hky
                  have hzw := lt_of_block HH.out.map
                  clear hlm hmet hf hky
                  subst hca
                  go_wp2_with (first
                    | (at_builtin; refine wpList_append_lies _ rfl (.tmp 57) (.tmp 59) 203 rfl (Wr.heap.size + 1) 43 i0 _ 1 24 Tryz.undL hi hz0 hz1 hz2 rfl (by decide) _ nk (ks.map slv) rfl (hr6.alloc _) ⟨(addKey w5 Wr.heap.size es clock (some ⟨cb, co, none⟩) c.l.length).heap.size, 0, none⟩ 1 1 [slv (c.l, some ⟨cb, co, none⟩, cc)] rfl rfl (news_at _ _ 43) (by simp [Value.oneCell', slv]) (by decide) (by unfold maxLen; omega) (by omega) (by have := hz6.out; simp; omega) _ rfl ?_; intro g2 cap2 w1 hr1 hg1 hat hlt1; have hD := hid (HH.out.push (x := (c.l, some ⟨cb, co, none⟩, cc)) q5 HC.out HNE.out HNK.out hr1 hg1); clear hr1 hg1 hat hlt1)
                    | (go_at_call 139; refine (listOf_any (some ⟨cb, co, none⟩) c.l.length cc _ (fun h => ⟨cb, co, rfl⟩)).mono ?_; rintro e w5 ⟨rfl, q5⟩; rw [HKY.out]; replace q5 : Quiet wq w5 := (q4.trans (Kp.alloc _ _)).trans q5; have hl5 := had.out w5 q5; have hr6 := row_add (a := some ⟨cb, co, none⟩) (n := c.l.length) (es := es) (clock := clock) HNK.out (HH.out.quiet q5); have hz6 := hid (show (addKey w5 Wr.heap.size es clock (some ⟨cb, co, none⟩) c.l.length).heap.size = w5.heap.size by simp [addKey]); have hz5 := q5.size)
                    | (go_at_call 139; refine (listOf_any (some ⟨cb, co, none⟩) c.l.length cc w3 (fun h => ⟨cb, co, rfl⟩)).mono ?_; rintro e w4 ⟨rfl, q4⟩; rw [HKY.out]; replace q4 := q3.trans q4; have hl4 := hlk.out w4 q4)
                    | (go_at_call 118; refine (inside_any c (some ⟨cb, co, none⟩) cc _).mono ?_; rintro e w3 ⟨rfl, q3⟩; replace q3 : Quiet wq w3 := (Kp.alloc _ _).trans q3))
                  refine ⟨⟨m + 1, ks ++ [(c.l, some ⟨cb, co, none⟩, cc)], _, _, by omega, by go_num, hD.out, ?_, ?_⟩, by simp [intOf]; omega⟩
                  · have h := HN.out; rw [mx_app, mx_one]; simp only; omega
                  · have h := HN.out; have h2 := HS.out; rw [ssz_app, ssz_one]; simp only; omega
            · have hml' : m = u.length := by omega
              subst hml'
              rw [List.take_length] at hkm hks
              have HH := hid (And.intro H (And.intro hkm hks))
              subst hbv
              clear H hkm hks
              go_wp2
              refine ⟨⟨j + 1, ks, es, clock, by omega, by go_num, HH.out.1, ?_, ?_⟩, by simp [intOf]; omega⟩
              · have h := HH.out.2.1; have h2 := HT.out.1; omega
              · have h := HH.out.2.2; have h2 := HT.out.2.1; omega
        · have hjl' : j = ls.length := by omega
          subst hjl'
          rw [List.take_length] at hkm hks
          have hkl := ssz_len H.ne
          have HH := hid (And.intro H (And.intro hkm (And.intro hks hkl)))
          subst hbv
          clear H hkm hks hkl
          go_wp2
          refine ⟨⟨k + 1, ks, by go_num, by omega, owns_mono HH.out.1.row (by omega), HH.out.1.lie, ?_, ?_, ?_, fun _ => HH.out.1.ne, hB.trans (HH.out.1.low.mono hB.size)⟩, by simp [intOf]; omega⟩
          · have h := HH.out.2.1; have h2 := HX.out.1; omega
          · have h := HH.out.2.2; have h2 := HX.out.2.1; omega
          · have h := HH.out.2.2; have h2 := HX.out.2.1; omega
    · have hk' : k = than + 1 := by omega
      have hnl : ¬ (k : Int) < (than : Int) + 1 := by omega
      have hE := hid (show decide ((0 : Int) < (ls.length : Int)) = decide (than + 1 < deeps l) by
        rw [decide_eq_decide]
        constructor
        · intro h
          have h1 : 0 < ls.length := by omega
          have h2 := mx_mem (List.getElem_mem h1)
          have h3 := deeps_pos (hne (by omega) _ (List.getElem_mem h1))
          omega
        · intro h
          cases ls with
          | nil => rw [mx_nil] at hmx; omega
          | cons x ls => simp)
      have hlen : ls.length ≤ 20001 := hll
      subst hlv
      clear hmx hk' hne hL hss hr
      go_wp2
      go_ret
      exact ⟨by rw [← hE.out]; simp, quiet_of hB⟩
def LieZ (w : World) (ts : List Pl) : Prop := ∀ x ∈ ts, Fo (thw w) x.1 x.2.1
theorem frozen_block {w w' : World} {a : Addr} (h : w'.heap[a.block]? = w.heap[a.block]?) : w'.frozen? a = w.frozen? a := by unfold World.frozen?; rw [h]
theorem Cz.low {W w : World} {a : Option Addr} {B : Nat} (h : Cz W a) (hB : Below B W w) (hs : W.heap.size ≤ B) : Cz w a := by
  intro x hx
  obtain ⟨h1, c, t, fz, h2⟩ := h x hx
  have h3 := hB.block x.block (by have := lt_of_block h2; omega)
  exact ⟨(frozen_block h3).trans h1, c, t, fz, h3.trans h2⟩
structure DZ (W Wr : World) (bl : Value) (ks : List Pl) (es : Array MapEntry) (clock : Nat) (w : World) : Prop where
  row : w.ownsRow (Wr.heap.size + 1) 43 1 bl ks.length (ks.map slv)
  lie : LieZ W ks
  ne : ∀ x ∈ ks, x.1 ≠ []
  map : w.heap[Wr.heap.size]? = some (.map es clock)
  keys : Kz W es.toList
  low : Below Wr.heap.size Wr w
theorem DZ.kz {W Wr w : World} {bl : Value} {ks : List Pl} {es : Array MapEntry} {clock : Nat} (H : DZ W Wr bl ks es clock w) (hW : Below W.heap.size W Wr) : Kz w es.toList := by
  intro e he
  obtain ⟨hv, b, m, hk, hc⟩ := H.keys e he
  exact ⟨hv, b, m, hk, hc.low (hW.trans (H.low.mono hW.size)) (Nat.le_refl _)⟩
theorem DZ.quiet {W Wr w w' : World} {bl : Value} {ks : List Pl} {es : Array MapEntry} {clock : Nat} (H : DZ W Wr bl ks es clock w) (q : Quiet w w') : DZ W Wr bl ks es clock w' :=
  ⟨q.row H.row fun _ _ e => e, H.lie, H.ne, (q.block _ (lt_of_block H.map) fun e => e).trans H.map, H.keys, H.low.trans (q.below (by have := lt_of_block H.map; omega) fun _ e => e.elim)⟩
theorem row_addz {W Wr w5 : World} {bl : Value} {ks : List Pl} {es es' : Array MapEntry} {clock clock' nk k : Nat} (hn : nk = ks.length) (H : DZ W Wr bl ks es clock w5) : (setMap (w5.drewN k) Wr.heap.size es' clock').ownsRow (Wr.heap.size + 1) 43 1 bl nk (ks.map slv) := by
  subst hn
  exact setMap_quiet.row H.row fun k e hk => by have := (H.row.lt k e).1; omega
theorem DZ.push {W Wr w w5 w1 : World} {bl : Value} {ks : List Pl} {es es' : Array MapEntry} {clock clock' kd : Nat} {x : Pl} {g cap n : Nat} {o : Obj} (H : DZ W Wr bl ks es clock w) (q : Quiet w w5) (hx : Fo (thw W) x.1 x.2.1) (hne : x.1 ≠ []) (hn : n = ks.length)
    (he' : ∀ e ∈ es'.toList, e.val = .agg #[] ∧ ((∃ m, e.key = .agg #[.pointer x.2.1, .int .i64 m]) ∨ ∃ e' ∈ es.toList, e.key = e'.key))
    (hr1 : w1.ownsRow (Wr.heap.size + 1) 43 1 (.slice (some ⟨g, 0, none⟩) (n + 1) cap) (n + 1) (ks.map slv ++ [slv x])) (hg : ((setMap (w5.drewN kd) Wr.heap.size es' clock').alloc o).grownBy w1 bl.ownBlock) :
    DZ W Wr (.slice (some ⟨g, 0, none⟩) (n + 1) cap) (ks ++ [x]) es' clock' w1 := by
  subst hn
  have H5 := H.quiet q
  have hz5 : (setMap (w5.drewN kd) Wr.heap.size es' clock').heap.size = w5.heap.size := by simp [setMap]
  have hlt := lt_of_block H5.map
  refine ⟨by simpa using hr1, fun y hy => ?_, fun y hy => ?_, ?_, fun e he => ?_, ?_⟩
  · rcases List.mem_append.1 hy with hy | hy
    · exact H.lie y hy
    · simp at hy; subst hy; exact hx
  · rcases List.mem_append.1 hy with hy | hy
    · exact H.ne y hy
    · simp at hy; subst hy; exact hne
  · rw [hg.block Wr.heap.size (by simp; omega) (fun e => by have := (H5.row.lt _ e.symm).1; omega), Below.heap_alloc _ _ _ (by omega)]
    exact setMap_at hlt
  · obtain ⟨h1, h2⟩ := he' e he
    refine ⟨h1, ?_⟩
    rcases h2 with ⟨m, h2⟩ | ⟨e', h2, h3⟩
    · exact ⟨_, m, h2, hx.cz hne⟩
    · obtain ⟨_, b, m, h4, h5⟩ := H.keys e' h2
      exact ⟨b, m, h3.trans h4, h5⟩
  · refine ⟨?_, ?_, ?_, ?_, fun k hk => ?_⟩
    · exact (hg.os.trans rfl).trans H5.low.os
    · exact (hg.tape.trans rfl).trans H5.low.tape
    · exact (hg.output.trans rfl).trans H5.low.output
    · have := hg.size; have := H5.low.size; simp at *; omega
    · rw [hg.block k (by simp; omega) (fun e => by have := (H5.row.lt _ e.symm).1; omega), Below.heap_alloc _ _ _ (by omega), setMap_quiet.block k (by omega) (by omega)]
      exact H5.low.block k hk
set_option maxRecDepth 8000 in
set_option maxHeartbeats 4000000 in
theorem deeper_z (l : List V) (ao : Option Addr) (cap than : Nat) (w : World) (hF : Fo (thw w) l ao) (hS : sizes l ≤ 20000) (hth : than ≤ 100) :
    Calls Tryz.prog 117 #[.slice ao l.length cap, .int .i64 than, .func (.func 118) #[] #[]] w fun e w' => (∃ b, e = .returned (.bool b)) ∧ Quiet w w' := by
  obtain ⟨i0, hi, hz0, hz1, hz2⟩ := info_parts Tryz.infoL
  have hmm : ∀ (w : World), (Instr.makeMap 204 none).run Tryz.prog w = .ok (.map (some w.heap.size)) (w.alloc (.map #[] 0)) := fun w => run_makeMap _ w
  have hroot := hid hF
  have hrow := hid (row_one w 43 (slv (l, ao, cap)))
  clear hF
  go_enter Tryz.func117, Tryz.ntmps117
  go_wp2
  go_loopw [7, 21] (fun lv i wr => ∃ (k : Nat) (ls : List Pl), i = .int .i64 k ∧ k ≤ than + 1 ∧ wr.ownsRow w.heap.size 43 1 lv ls.length (ls.map slv) ∧ LieZ w ls ∧ ssz ls ≤ sizes l ∧ ls.length ≤ 20001 ∧ Below w.heap.size w wr) (fun _ i _ => than + 1 - (intOf i).toNat)
  case atStart =>
    refine ⟨0, [(l, ao, cap)], rfl, Nat.zero_le _, hrow.out, ?_, by rw [ssz_one]; exact Nat.le_refl _, by simp, (Below.refl _ _).alloc (Nat.le_refl _) _⟩
    intro x hx; simp at hx; subst hx; exact hroot.out
  case round =>
    rename World => Wr
    obtain ⟨k, ls, rfl, hk, hr, hL, hss, hll, hB⟩ := hrel
    have hsB := hB.size
    obtain ⟨lv, lc, hlv⟩ := owns_shape hr
    by_cases hlt : k < than + 1
    · have hlt' : (k : Int) < (than : Int) + 1 := by omega
      have HX := hid (And.intro hss hL)
      have HR := hid hr
      subst hlv
      clear hss hL hr
      go_wp2
      clear hmm
      go_loopw [8, 26] (fun bl i w2 => ∃ (j : Nat) (ks : List Pl) (es : Array MapEntry) (clock : Nat), j ≤ ls.length ∧ i = .int .i64 j ∧ DZ w Wr bl ks es clock w2 ∧ ssz ks ≤ ssz (ls.take j)) (fun _ i _ => ls.length - (intOf i).toNat)
      case atStart =>
        refine ⟨0, [], #[], 0, Nat.zero_le _, rfl, ⟨World.ownsRow_nil _ _ _ _, fun x hx => by simp at hx, fun x hx => by simp at hx, heap_alloc_new Wr _, fun e he => by simp at he, (Below.refl _ _).alloc (Nat.le_refl _) _⟩, by simp [ssz]⟩
      case round =>
        obtain ⟨j, ks, es, clock, hj, rfl, H, hks⟩ := hrel
        obtain ⟨bv, bc, hbv⟩ := owns_shape H.row
        by_cases hjl : j < ls.length
        · have hrw := row_low H.low HR.out
          obtain ⟨lg, hlg, hcell⟩ := owns_at hrw (by omega)
          have hc := hcell j (by omega)
          rw [List.getElem?_map, List.getElem?_eq_getElem hjl, Option.map_some, slv] at hc
          have hu := HX.out.2 ls[j] (List.getElem_mem hjl)
          have hst := ssz_take ls j hjl
          have hsl := ssz_take_le ls (j + 1)
          generalize hx : ls[j] = x at *
          obtain ⟨u, ua, uc⟩ := x
          simp only at hc hu hst
          have hul := sizes_len u
          have hss := HX.out.1
          have hul5 : u.length ≤ 20000 := by omega
          have HH := hid (And.intro H hks)
          have HT := hid (And.intro hst hsl)
          have HU := hid hu
          subst hlg
          subst hbv
          clear hx hcell hrw H hks hst hsl hu hss
          go_wp2
          go_loopw [8, 32] (fun bl i w2 => ∃ (m : Nat) (ks : List Pl) (es : Array MapEntry) (clock : Nat), m ≤ u.length ∧ i = .int .i64 m ∧ DZ w Wr bl ks es clock w2 ∧ ssz ks ≤ ssz (ls.take j) + sizes (u.take m)) (fun _ i _ => u.length - (intOf i).toNat)
          case atStart => exact ⟨0, ks, es, clock, Nat.zero_le _, rfl, HH.out.1, by have := HH.out.2; simp [sizes_nil]; omega⟩
          case round =>
            rename World => wq
            clear HH
            obtain ⟨m, ks, es, clock, hm, rfl, H, hks⟩ := hrel
            obtain ⟨bv, bc, hbv⟩ := owns_shape H.row
            have hkl := ssz_len H.ne
            have htt := sizes_take_le u m
            have hks5 : ks.length ≤ 20000 := by have := HT.out; have := HX.out.1; omega
            obtain ⟨nk, hnk⟩ : ∃ nk, nk = ks.length := ⟨_, rfl⟩
            rw [← hnk] at hbv
            have hnk5 : nk ≤ 20000 := by omega
            have HNK := hid hnk
            clear hnk hks5 hkl
            by_cases hml : m < u.length
            · obtain ⟨bb, oo, hua, dh, ca, cc, ds, hci⟩ := HU.out.get m hml
              have hBq : Below w.heap.size w wq := hB.trans (H.low.mono hB.size)
              obtain ⟨d0, d1, d2⟩ := dh
              have d0 := low_kept hBq _ _ (thw_cell d0 (by simp)).1
              have d1 := low_kept hBq _ _ (thw_cell d1 (by simp)).1
              have d2 := low_kept hBq _ _ (thw_cell d2 (by simp)).1
              have dsk := low_kept hBq _ _ (thw_cell ds (by simp)).1
              have hszt := sizes_take u m hml
              generalize hcu : u[m] = c at *
              have HC := hid hci.fo
              have hcl5 : c.l.length ≤ 20000 := by have := sizes_len c.l; have := size_eq c; have := sizes_take_le u (m + 1); have := HT.out; have := HX.out.1; omega
              have HN := hid (And.intro hszt hks)
              have HH := hid H
              have HS := hid (size_eq c)
              subst hua
              subst hbv
              clear hcu hszt ds hci hks H
              by_cases hcl : c.l.length = 0
              · have hcl' : ¬ (0 : Int) < (c.l.length : Int) := by omega
                have HCL := hid (List.eq_nil_of_length_eq_zero hcl)
                have hky : keyOf ca c.l.length = .agg #[.pointer none, .int .i64 c.l.length] := by simp [keyOf, hcl]
                have HKY := hid hky
                have hlk := hid (fun (w4 : World) (q : Quiet wq w4) => look_metz none c.l.length w4 Wr.heap.size clock es (fun x hx => by simp at hx) (HH.out.quiet q).map ((HH.out.quiet q).kz hB))
                clear hcl hky
                go_wp2_with (first
                  | (go_at_call 139; refine (listOf_any ca c.l.length cc w3 (fun h => by rw [HCL.out] at h; simp at h)).mono ?_)
                  | (go_at_call 118; refine (inside_any c ca cc _).mono ?_; rintro e w3 ⟨rfl, q3⟩; replace q3 : Quiet wq w3 := (Kp.alloc _ _).trans q3))
                rintro e w4 ⟨rfl, q4⟩
                rw [HKY.out]
                replace q4 := q3.trans q4
                obtain ⟨bk, kd, hl4⟩ := hlk.out w4 q4
                cases bk with
                | true =>
                  go_wp2
                  refine ⟨⟨m + 1, ks, es, clock, by omega, by go_num, HH.out.quiet (q4.trans ((Kp.drewN _ _).trans (Kp.alloc _ _))), ?_⟩, by simp [intOf]; omega⟩
                  have h := HN.out; omega
                | false =>
                  go_wp2
                  refine ⟨⟨m + 1, ks, es, clock, by omega, by go_num, HH.out.quiet (q4.trans ((Kp.drewN _ _).trans (Kp.alloc _ _))), ?_⟩, by simp [intOf]; omega⟩
                  have h := HN.out; omega
              · have hcl' : (0 : Int) < (c.l.length : Int) := by omega
                have hne : c.l ≠ [] := by intro e; rw [e] at hcl; simp at hcl
                obtain ⟨cb, co, hca⟩ : ∃ cb co, ca = some ⟨cb, co, none⟩ := by obtain ⟨b', o', e, _⟩ := HC.out 0 (by omega); exact ⟨b', o', e⟩
                have hky : keyOf ca c.l.length = .agg #[.pointer ca, .int .i64 c.l.length] := by simp [keyOf, hcl]
                have hcz := hid (fun (w4 : World) (q : Quiet wq w4) => (HC.out.cz hne).low (hBq.trans (q.low.mono hBq.size)) (Nat.le_refl _))
                have hlk := hid (fun (w4 : World) (q : Quiet wq w4) => look_metz ca c.l.length w4 Wr.heap.size clock es (hcz.out w4 q) (HH.out.quiet q).map ((HH.out.quiet q).kz hB))
                have had := hid (fun (w5 : World) (q : Quiet wq w5) => add_metz ca c.l.length w5 Wr.heap.size clock es (hcz.out w5 q) (HH.out.quiet q).map ((HH.out.quiet q).kz hB))
                have HNE := hid hne
                have hco : 0 < c.l.length := by omega
                have HKY := hid hky
                have hzw := lt_of_block HH.out.map
                clear hne hcl hky hcz
                subst hca
                go_wp2_with (first
                  | (go_at_call 139; refine (listOf_any (some ⟨cb, co, none⟩) c.l.length cc w3 (fun h => ⟨cb, co, rfl⟩)).mono ?_)
                  | (go_at_call 118; refine (inside_any c (some ⟨cb, co, none⟩) cc _).mono ?_; rintro e w3 ⟨rfl, q3⟩; replace q3 : Quiet wq w3 := (Kp.alloc _ _).trans q3))
                rintro e w4 ⟨rfl, q4⟩
                rw [HKY.out]
                replace q4 := q3.trans q4
                obtain ⟨bk, kd, hl4⟩ := hlk.out w4 q4
                cases bk with
                | true =>
                  go_wp2
                  refine ⟨⟨m + 1, ks, es, clock, by omega, by go_num, HH.out.quiet (q4.trans ((Kp.drewN _ _).trans (Kp.alloc _ _))), ?_⟩, by simp [intOf]; omega⟩
                  have h := HN.out; omega
                | false =>
                  go_wp2_with (first
                    | (at_builtin; refine wpList_append_lies _ rfl (.tmp 57) (.tmp 59) 203 rfl (Wr.heap.size + 1) 43 i0 _ 1 24 Tryz.undL hi hz0 hz1 hz2 rfl (by decide) _ nk (ks.map slv) rfl (hr6.alloc _) ⟨(setMap (w5.drewN kd5) Wr.heap.size es5 cl5).heap.size, 0, none⟩ 1 1 [slv (c.l, some ⟨cb, co, none⟩, cc)] rfl rfl (news_at _ _ 43) (by simp [Value.oneCell', slv]) (by decide) (by unfold maxLen; omega) (by omega) (by have := hz6.out; simp; omega) _ rfl ?_; intro g2 cap2 w1 hr1 hg1 hat hlt1; have hD := hid (HH.out.push (x := (c.l, some ⟨cb, co, none⟩, cc)) q5 HC.out HNE.out HNK.out hk5.out hr1 hg1); clear hr1 hg1 hat hlt1)
                    | (go_at_call 139; refine (listOf_any (some ⟨cb, co, none⟩) c.l.length cc _ (fun h => ⟨cb, co, rfl⟩)).mono ?_; rintro e w5 ⟨rfl, q5⟩; rw [HKY.out]; replace q5 : Quiet wq w5 := (q4.trans ((Kp.drewN _ _).trans (Kp.alloc _ _))).trans q5; obtain ⟨es5, cl5, kd5, hl5, hk5'⟩ := had.out w5 q5; have hk5 := hid hk5'; clear hk5'; have hr6 := row_addz (es' := es5) (clock' := cl5) (k := kd5) HNK.out (HH.out.quiet q5); have hz6 := hid (show (setMap (w5.drewN kd5) Wr.heap.size es5 cl5).heap.size = w5.heap.size by simp [setMap]); have hz5 := q5.size))
                  refine ⟨⟨m + 1, ks ++ [(c.l, some ⟨cb, co, none⟩, cc)], _, _, by omega, by go_num, hD.out, ?_⟩, by simp [intOf]; omega⟩
                  have h := HN.out; have h2 := HS.out; rw [ssz_app, ssz_one]; simp only; omega
            · have hml' : m = u.length := by omega
              subst hml'
              rw [List.take_length] at hks
              have HH := hid (And.intro H hks)
              subst hbv
              clear H hks
              go_wp2
              refine ⟨⟨j + 1, ks, es, clock, by omega, by go_num, HH.out.1, ?_⟩, by simp [intOf]; omega⟩
              have h := HH.out.2; have h2 := HT.out.1; omega
        · have hjl' : j = ls.length := by omega
          subst hjl'
          rw [List.take_length] at hks
          have hkl := ssz_len H.ne
          have HH := hid (And.intro H (And.intro hks hkl))
          subst hbv
          clear H hks hkl
          go_wp2
          refine ⟨⟨k + 1, ks, by go_num, by omega, owns_mono HH.out.1.row (by omega), HH.out.1.lie, ?_, ?_, hB.trans (HH.out.1.low.mono hB.size)⟩, by simp [intOf]; omega⟩
          · have h := HH.out.2.1; have h2 := HX.out.1; omega
          · have h := HH.out.2; have h2 := HX.out.1; omega
    · have hk' : k = than + 1 := by omega
      have hnl : ¬ (k : Int) < (than : Int) + 1 := by omega
      have hlen : ls.length ≤ 20001 := hll
      subst hlv
      clear hk' hL hss hr
      go_wp2
      go_ret
      exact ⟨by by_cases h0 : 0 < ls.length <;> simp [h0], quiet_of hB⟩
abbrev Pc := V × Int × Option Addr × Nat
def six (F : Int) (p : Pc) : List Value := [.int .i64 p.1.kind, .int .i64 p.1.k, .int .i64 p.1.n, .slice p.2.2.1 p.1.l.length p.2.2.2, .int .i64 p.2.1, .int .i64 F]
def sixs (F : Int) (ps : List Pc) : List Value := ps.flatMap (six F)
theorem sixs_len (F : Int) (ps : List Pc) : (sixs F ps).length = ps.length * 6 := by
  induction ps with
  | nil => rfl
  | cons p ps ih => simp only [sixs, List.flatMap_cons, List.length_append] at ih ⊢; rw [ih]; simp [six]; omega
theorem sixs_app (F : Int) (a b : List Pc) : sixs F (a ++ b) = sixs F a ++ sixs F b := by simp [sixs]
theorem sixs_one (F : Int) (p : Pc) : sixs F [p] = six F p := by simp [sixs]
theorem sixs_at (F : Int) (ps : List Pc) (k j : Nat) (hk : k < ps.length) (hj : j < 6) : (sixs F ps)[k * 6 + j]? = (six F ps[k])[j]? := by
  induction ps generalizing k with
  | nil => simp at hk
  | cons e es ih =>
    cases k with
    | zero => simp only [sixs, List.flatMap_cons]; rw [List.getElem?_append_left (by simp [six]; omega)]; simp
    | succ k =>
      simp only [sixs, List.flatMap_cons]
      rw [List.getElem?_append_right (by simp [six]; omega)]
      have := ih k (by simpa using hk)
      simp only [sixs] at this
      rw [show (k + 1) * 6 + j - (six F e).length = k * 6 + j by simp [six]; omega, this]
      simp
theorem six_one (F : Int) (p : Pc) : ∀ u ∈ six F p, u.oneCell' = true := by
  intro u hu
  simp only [six, List.mem_cons, List.not_mem_nil, or_false] at hu
  rcases hu with rfl | rfl | rfl | rfl | rfl | rfl <;> rfl
theorem Tryz.infoPl : (Tryz.prog.info? 189).map (fun i => (i.zero, i.size, i.bytes)) = some (some (.agg #[.int .i64 0, .int .i64 0, .int .i64 0, .slice none 0 0, .int .i64 0, .int .i64 0]), 6, 64) := by kernel_rfl
theorem Tryz.undPl : Tryz.prog.underlying 211 = some (.slice 189) := by kernel_rfl
def kids (v : V) (o : Int) : List (V × Int) := v.l.mapIdx fun i x => (x, opens v.kind o i)
theorem kids_len (v : V) (o : Int) : (kids v o).length = v.l.length := by simp [kids]
def firsts (F : Int) : List (V × Int) → Int
  | [] => 0
  | (v, o) :: l => if v.bad F o = 0 then firsts F l else v.bad F o
theorem firsts_app (F : Int) (a b : List (V × Int)) : firsts F (a ++ b) = if firsts F a = 0 then firsts F b else firsts F a := by
  induction a with
  | nil => simp [firsts]
  | cons x a ih =>
    obtain ⟨v, o⟩ := x
    by_cases h : v.bad F o = 0
    · simp only [List.cons_append, firsts, h, if_true]; exact ih
    · simp only [List.cons_append, firsts, h, if_false]
theorem bads_kids (F kind : Int) (l : List V) (o : Int) : ∀ i, bads F kind l i o = firsts F (l.mapIdx fun j x => (x, opens kind o (i + j))) := by
  induction l with
  | nil => intro i; simp [bads_nil, firsts]
  | cons v l ih =>
    intro i
    rw [bads_cons, ih, List.mapIdx_cons]
    simp only [firsts, Nat.add_zero]
    have e : (fun j x => (x, opens kind o (i + 1 + j))) = fun (j : Nat) (x : V) => (x, opens kind o (i + (j + 1))) := by
      funext j x; rw [show i + 1 + j = i + (j + 1) by omega]
    rw [e]
theorem bad_kids (F : Int) (v : V) (o : Int) : v.bad F o = if fault1 F v o = 0 then firsts F (kids v o) else fault1 F v o := by
  rw [bad_eq, bads_kids]; simp [kids]
theorem firsts_pop (F : Int) (v : V) (o : Int) (l : List (V × Int)) (h : fault1 F v o = 0) : firsts F ((v, o) :: l) = firsts F (kids v o ++ l) := by
  rw [firsts_app, firsts, bad_kids, if_pos h]
theorem firsts_stop (F : Int) (v : V) (o : Int) (l : List (V × Int)) (h : fault1 F v o ≠ 0) : firsts F ((v, o) :: l) = fault1 F v o := by
  rw [firsts, bad_kids, if_neg h, if_neg h]
theorem fault1_open {F : Int} {v : V} {o : Int} (h : fault1 F v o = 0) (ho : 0 ≤ o ∧ o ≤ 12) : ∀ i, 0 ≤ opens v.kind o i ∧ opens v.kind o i ≤ 12 := by
  intro i
  unfold opens
  by_cases hk : v.kind = 5 ∧ i = 1
  · rw [if_pos hk]
    have h2 : ¬ 12 ≤ o := by
      intro h3
      unfold fault1 at h
      by_cases h1 : partsI v.kind < 0
      · rw [if_pos h1] at h; simp at h
      rw [if_neg h1] at h
      by_cases h4 : (v.l.length : Int) ≠ partsI v.kind
      · rw [if_pos h4] at h; simp at h
      rw [if_neg h4] at h
      by_cases h5 : v.n ≠ 0 ∧ v.kind ≠ 2
      · rw [if_pos h5] at h; simp at h
      rw [if_neg h5] at h
      by_cases h6 : faultK F v.kind v.k o ≠ 0
      · rw [if_pos h6] at h; exact h6 h
      rw [if_neg h6, if_pos ⟨hk.1, h3⟩] at h
      simp at h
    omega
  · rw [if_neg hk]; exact ho
def vo (p : Pc) : V × Int := (p.1, p.2.1)
def psz (ps : List Pc) : Nat := (ps.map fun p => p.1.size).sum
theorem psz_app (a b : List Pc) : psz (a ++ b) = psz a + psz b := by simp [psz]
theorem psz_one (p : Pc) : psz [p] = p.1.size := by simp [psz]
theorem psz_len (ps : List Pc) : ps.length ≤ psz ps := by
  induction ps with
  | nil => simp [psz]
  | cons x ts ih => have := size_pos x.1; simp [psz] at ih ⊢; omega
theorem psz_rev (ps : List Pc) : psz ps.reverse = psz ps := by
  induction ps with
  | nil => rfl
  | cons x ps ih => rw [List.reverse_cons, psz_app, ih, psz_one]; simp [psz]; omega
theorem psz_vo {ps : List Pc} {v : V} {o : Int} (h : ps.map vo = kids v o) : psz ps = sizes v.l := by
  have h1 : ps.map (·.1) = v.l := by
    have h2 := congrArg (List.map Prod.fst) h
    rw [List.map_map] at h2
    have h3 : (kids v o).map Prod.fst = v.l := by
      unfold kids
      apply List.ext_getElem <;> simp
    rw [h3] at h2
    exact h2
  have h2 : psz ps = (List.map V.size (ps.map (·.1))).sum := by simp [psz]; rfl
  rw [h2, h1]
  clear h h1 h2
  induction v.l with
  | nil => simp [sizes_nil]
  | cons x l ih => rw [sizes_cons, List.map_cons, List.sum_cons, ih]
theorem push_row6 {W wr w1 : World} {B n : Nat} {F : Int} {x : Pc} {ts : List Pc} {sv : Value} {g cap : Nat} {o : Obj} (hB : Below B W wr) (hBB : B ≤ wr.heap.size) (hr : wr.ownsRow B 189 6 sv n (sixs F ts)) (hn : n = ts.length)
    (hr1 : w1.ownsRow B 189 6 (.slice (some ⟨g, 0, none⟩) (n + 1) cap) (n + 1) (sixs F ts ++ six F x)) (hg : (wr.alloc o).grownBy w1 sv.ownBlock) :
    w1.ownsRow B 189 6 (.slice (some ⟨g, 0, none⟩) (n + 1) cap) (ts ++ [x]).length (sixs F (ts ++ [x])) ∧ Below B W w1 := by
  subst hn
  refine ⟨by rw [sixs_app, sixs_one]; simpa using hr1, hB.trans ?_⟩
  refine ((Below.refl _ _).alloc hBB o).trans ?_
  refine (Kp.grown (F := fun k => B ≤ k) hg fun k _ e => (hr.lt k e.symm).1).below (by simp; omega) fun k hk => hk
end Go.Proofs.YtkpckmcaeljocaaGreat.Ex
