/- Parts. -/
import Derived.Test.YtkpckmcaeljocaaGreatUG1
import Derived.Laws.ResultCell
import Derived.Deep.RegionHeld3
namespace Go.Proofs.YtkpckmcaeljocaaGreat.Gr
open Go.ChangeShapes Go.WideShapes Go.ChangeAt Go.RowKit
section
variable {B : Nat} {w : World} {b : Nat} {vn vo : Value} {ns : List Nd} {os : List Bool}
theorem target_no {n : Int} (h : thereB ns.length n = false) : targetOf ns n = nd0 := by simp [targetOf, way_no h]
theorem target_at {n : Int} (h : (wayOf ns n).length - 1 < (wayOf ns n).length) : targetOf ns n = (wayOf ns n)[(wayOf ns n).length - 1] := by
  unfold targetOf
  rw [List.getLastD_eq_getLast?, List.getLast?_eq_getElem?, List.getElem?_eq_getElem h]; rfl
theorem six {w : World} {g : Nat} {a0 a1 a2 a3 a4 a5 : Value} {t : TypeId} (h : w.heap[g]? = some (.cells #[a0, a1, a2, a3, a4, a5] t (0, 0))) :
    w.cell? ⟨g, 0, none⟩ = some a0 ∧ w.cell? ⟨g, 1, none⟩ = some a1 ∧ w.cell? ⟨g, 2, none⟩ = some a2 ∧ w.cell? ⟨g, 3, none⟩ = some a3 ∧ w.cell? ⟨g, 4, none⟩ = some a4 ∧ w.cell? ⟨g, 5, none⟩ = some a5 := by
  simp [World.cell?, h]
theorem sixf {w : World} {g : Nat} {a0 a1 a2 a3 a4 a5 : Value} {t : TypeId} (h : w.heap[g]? = some (.cells #[a0, a1, a2, a3, a4, a5] t (0, 0))) :
    w.frozen? ⟨g, 0, none⟩ = false ∧ w.frozen? ⟨g, 1, none⟩ = false ∧ w.frozen? ⟨g, 2, none⟩ = false ∧ w.frozen? ⟨g, 3, none⟩ = false ∧ w.frozen? ⟨g, 4, none⟩ = false ∧ w.frozen? ⟨g, 5, none⟩ = false :=
  ⟨frozen_of_row w g 0 _ t h, frozen_of_row w g 1 _ t h, frozen_of_row w g 2 _ t h, frozen_of_row w g 3 _ t h, frozen_of_row w g 4 _ t h, frozen_of_row w g 5 _ t h⟩
theorem set_q {w w2 : World} (hq : Quiet w w2) (j : Nat) (u : Value) : Quiet w (w2.setCell ⟨w.heap.size, j, none⟩ u) := hq.fresh (Kp.setCell _ _ _ (Nat.le_refl w.heap.size))
theorem six_q {w w2 : World} (hq : Quiet w w2) (x0 x1 x2 x3 x4 x5 : Value) : Quiet w ((((((w2.setCell ⟨w.heap.size, 0, none⟩ x0).setCell ⟨w.heap.size, 1, none⟩ x1).setCell ⟨w.heap.size, 2, none⟩ x2).setCell ⟨w.heap.size, 3, none⟩ x3).setCell ⟨w.heap.size, 4, none⟩ x4).setCell ⟨w.heap.size, 5, none⟩ x5) :=
  set_q (set_q (set_q (set_q (set_q (set_q hq 0 x0) 1 x1) 2 x2) 3 x3) 4 x4) 5 x5
theorem heap_two (w : World) (o1 o2 : Obj) : ((w.alloc o1).alloc o2).heap[w.heap.size + 1]? = some o2 := by
  have := heap_alloc_new (w.alloc o1) o2
  rw [show (w.alloc o1).heap.size = w.heap.size + 1 by simp] at this
  exact this
theorem news_from {w : World} {x : Nat} {l : List Value} {t : TypeId} (h : w.heap[x]? = some (.cells l.toArray t (0, 0))) : ∀ j u, l[j]? = some u → w.cell? ((⟨x, 0, none⟩ : Addr).add j) = some u := by
  intro j u hu
  rw [Addr.add_lit, cell_of_row _ _ _ _ t (0, 0) h]
  simpa using hu
set_option maxRecDepth 8000 in
set_option maxHeartbeats 2000000 in
theorem target_any (h : GS 101 B w b vn vo ns os) (hw : Wf ns os.length) (n : Int) :
    Calls Tryz.prog 18 #[.pointer (some ⟨b, 0, none⟩), .int .i64 n] w fun e w' => e = .returned (.tuple #[(targetOf ns n).agg, .bool (thereB ns.length n)]) ∧ Quiet w w' := by
  have q1 : Quiet w (w.alloc (.cells nd0.cells.toArray 72)) := Kp.alloc w _
  have h1 := h.quiet q1
  have b1 := heap_alloc_new w (.cells nd0.cells.toArray 72)
  have HL := way_len hw n
  have HN := h.ln
  have hs1 := hid (show (w.alloc (.cells nd0.cells.toArray 72)).heap.size = w.heap.size + 1 by simp)
  simp only [Nd.cells, nd0] at q1 h1 b1 hs1
  cases ht : thereB ns.length n with
  | false =>
    have hE := hid (target_no ht)
    have hlen := hid (way_no ht)
    clear h
    go_enter Tryz.func18, Tryz.ntmps18
    go_wp2_with (go_at_call 32; refine (way_any h1 hw _).mono ?_; rintro e w2 ⟨v2, rfl, hr2, hq2⟩; rw [hlen.out] at hr2; obtain ⟨a2, cap2, rfl⟩ := owns_shape hr2; have bb := (hq2.block _ (lt_of_block b1) id).trans b1; obtain ⟨d0, d1, d2, d3, d4, d5⟩ := six bb; obtain ⟨f0, f1, f2, f3, f4, f5⟩ := sixf bb; clear b1 bb)
    refine bodyPost_ret (v := .tuple #[.agg #[.int .i64 0, .int .i64 0, .int .i64 0, .int .i64 0, .int .i64 0, .int .i64 0], .bool false]) (by rw [results_cell_tmp rfl]; simp [go_sem, d0, d1, d2, d3, d4, d5]) rfl ⟨?_, ?_⟩
    · rw [hE.out]; rfl
    · exact six_q (q1.trans hq2) _ _ _ _ _ _
  | true =>
    obtain ⟨m, hm⟩ : ∃ m, (wayOf ns n).length = m + 1 := by
      obtain ⟨j, rfl, hj⟩ := there_yes ht
      exact ⟨_, by rw [way_yes hw hj]; simp; rfl⟩
    have hmw : m < (wayOf ns n).length := by omega
    have hE := hid (show targetOf ns n = (wayOf ns n)[m] by rw [target_at (by omega)]; congr 1; omega)
    have hlen := hid hm
    clear h
    go_enter Tryz.func18, Tryz.ntmps18
    go_wp2_with (go_at_call 32; refine (way_any h1 hw _).mono ?_; rintro e w2 ⟨v2, rfl, hr2, hq2⟩; obtain ⟨g2, cap2, rfl⟩ := lies_shape hr2 (by omega); obtain ⟨y0, y1, y2, y3, y4, y5⟩ := nd_cells' hr2 m hmw; rw [hlen.out]; have bb := (hq2.block _ (lt_of_block b1) id).trans b1; obtain ⟨d0, d1, d2, d3, d4, d5⟩ := six bb; obtain ⟨f0, f1, f2, f3, f4, f5⟩ := sixf bb; have Hq2 := hid hq2; generalize (wayOf ns n)[m] = x at *; clear b1 bb hr2 hq2)
    refine bodyPost_ret (v := .tuple #[x.agg, .bool true]) (by rw [results_cell_tmp rfl]; simp [go_sem, Nd.agg, d0, d1, d2, d3, d4, d5]) rfl ⟨?_, ?_⟩
    · rw [hE.out]
    · exact six_q (q1.trans Hq2.out) _ _ _ _ _ _
def gatesTo (ws : List Nd) (k : Nat) : List Int := gatesW (ws.take k)
theorem gates_snoc_no (ws : List Nd) (x : Nd) (h : x.gate = -1) : gatesW (ws ++ [x]) = gatesW ws := by simp [gatesW, h]
theorem gates_snoc_yes (ws : List Nd) (x : Nd) (h : x.gate ≠ -1) : gatesW (ws ++ [x]) = gatesW ws ++ [x.gate] := by simp [gatesW, h]
theorem gates_len (ws : List Nd) : (gatesW ws).length ≤ ws.length := by
  unfold gatesW
  exact Nat.le_trans (List.length_filter_le _ _) (by simp)
theorem gates_step {w wr w1 : World} {o : Obj} {acc : List Int} {x : Int} {v : Value} {g cap : Nat} (hq : Quiet w wr) (hr : wr.ownsRow w.heap.size 3 1 v acc.length (ints acc)) (hg : (wr.alloc o).grownBy w1 v.ownBlock) (h1 : w1.ownsRow w.heap.size 3 1 (.slice (some ⟨g, 0, none⟩) (acc.length + 1) cap) (acc.length + 1) (ints acc ++ [.int .i64 x])) :
    w1.ownsRow w.heap.size 3 1 (.slice (some ⟨g, 0, none⟩) (acc.length + 1) cap) (acc ++ [x]).length (ints (acc ++ [x])) ∧ Quiet w w1 := by
  refine ⟨?_, grown_quiet hq hr hg⟩
  simpa [ints] using h1
set_option maxRecDepth 8000 in
set_option maxHeartbeats 2000000 in
theorem gates_any (h : GS 101 B w b vn vo ns os) (hw : Wf ns os.length) (n : Int) :
    Calls Tryz.prog 176 #[.pointer (some ⟨b, 0, none⟩), .int .i64 n] w fun e w' => ∃ v', e = .returned v' ∧ w'.ownsRow w.heap.size 3 1 v' (gatesOf ns n).length (ints (gatesOf ns n)) ∧ Quiet w w' := by
  obtain ⟨i0, hi, hz0, hz1, hz2⟩ := info_parts Tryz.infoI
  have HL := way_len hw n
  have HN := h.ln
  have hE := hid (show gatesOf ns n = gatesW (wayOf ns n) from rfl)
  go_enter Tryz.func176, Tryz.ntmps176
  go_wp2_with (go_at_call 32; refine (way_any h hw _).mono ?_; rintro e w2 ⟨v2, rfl, hr2, hq2⟩; obtain ⟨a2, cap2, rfl⟩ := owns_shape hr2)
  have HR := hid hr2
  have HQ := hid hq2
  clear hr2 hq2 h hw
  generalize wayOf ns n = ws at *
  go_loopw [5, 12] (fun v i wr => ∃ k : Nat, k ≤ ws.length ∧ i = .int .i64 k ∧ wr.ownsRow w2.heap.size 3 1 v (gatesTo ws k).length (ints (gatesTo ws k)) ∧ Quiet w2 wr) (fun _ i _ => ws.length - (intOf i).toNat)
  case atStart => exact ⟨0, Nat.zero_le _, rfl, World.ownsRow_nil _ _ _ _, Kp.refl _ _⟩
  case round =>
    obtain ⟨k, hk, rfl, hrow, hq⟩ := hrel
    by_cases hlt : k < ws.length
    · have hr := hq.row HR.out (fun _ _ e => e)
      obtain ⟨g, cap, hv⟩ := lies_shape hr (by omega)
      simp only [Value.slice.injEq, true_and] at hv
      obtain ⟨rfl, rfl⟩ := hv
      obtain ⟨d0, d1, d2, d3, d4, d5⟩ := nd_cells' hr k hlt
      obtain ⟨av, cv, rfl⟩ := owns_shape hrow
      have hal : (gatesTo ws k).length ≤ 80 := by have := gates_len (ws.take k); simp [gatesTo] at this ⊢; omega
      have ha := hid (show gatesTo ws (k + 1) = gatesW (ws.take k ++ [ws[k]]) by unfold gatesTo; rw [take_snoc ws k hlt])
      have hq1 : Quiet w2 (wr.alloc (.cells ws[k].cells.toArray 72)) := hq.trans (Kp.alloc _ _)
      have hrow1 := hrow.alloc (.cells ws[k].cells.toArray 72)
      clear hr hrow hq
      generalize ws[k] = x at *
      obtain ⟨xp, xg, xr, xc, xl, xf⟩ := x
      simp only [Nd.cells] at *
      by_cases hgate : xg = -1
      · subst hgate
        have HS := hid (And.intro hrow1 hq1)
        have hb := hid (ha.out.trans (gates_snoc_no (ws.take k) ⟨xp, -1, xr, xc, xl, xf⟩ rfl))
        clear hrow1 hq1 ha
        go_wp2
        exact ⟨⟨k + 1, by omega, by go_num, by rw [hb.out]; exact HS.out.1, HS.out.2⟩, by simp [intOf]; omega⟩
      · have hgd : decide (xg = -1) = false := by simpa using hgate
        have hb := hid (ha.out.trans (gates_snoc_yes (ws.take k) ⟨xp, xg, xr, xc, xl, xf⟩ hgate))
        clear ha
        go_wp2_with (at_builtin; refine wpList_append_lies _ rfl (.tmp 19) (.tmp 22) 130 rfl w2.heap.size 3 i0 _ 1 8 Tryz.undI hi hz0 hz1 hz2 rfl (by decide) _ (gatesTo ws k).length (ints (gatesTo ws k)) rfl (hrow1.alloc _) ⟨wr.heap.size + 1, 0, none⟩ 1 1 [.int .i64 xg] rfl rfl (news_from (t := 3) (heap_two wr _ _)) (by simp [Value.oneCell']) (by decide) (by unfold maxLen; omega) (by omega) (by have := hq1.size; simp at this ⊢; omega) (wr.heap.size + 2) (by simp) ?_; intro g2 cap2 w1 hr1 hg1 hat hlt1; have hS := hid (gates_step (x := xg) hq1 hrow1 hg1 hr1); clear hr1 hg1 hat hlt1)
        exact ⟨⟨k + 1, by omega, by go_num, by rw [hb.out]; exact hS.out.1, hS.out.2⟩, by simp [intOf]; omega⟩
    · have hke : k = ws.length := by omega
      subst hke
      have hg := hid (show gatesTo ws ws.length = gatesOf ns n by rw [hE.out]; simp [gatesTo])
      obtain ⟨av, cv, rfl⟩ := owns_shape hrow
      go_wp2
      go_ret
      rw [← hg.out]
      exact ⟨_, rfl, owns_mono hrow HQ.out.size, HQ.out.trans hq⟩
end
theorem equalInN (d : Nat) (a : Option Addr) (n c : Nat) (w : World) : (Op.equalIn (d + 1) 75 (.slice a n c) (.slice none 0 0)).run Tryz.prog w = .ok a.isNone w := by
  cases a <;> simp [Op.equalIn, run_underlying Tryz.undN]
theorem eqlN (a : Option Addr) (n c : Nat) (w : World) : (binOp .eql 75 (.slice a n c) (.slice none 0 0)).run Tryz.prog w = .ok (.bool a.isNone) w := by
  simp only [binOp]
  simp [Op.equal, Op.maxDepth, equalInN 9999 a n c w]
theorem clone_done {w w1 : World} {o : Obj} {v' : Value} {n : Nat} {xs : List Value} (hr : w1.ownsRow w.heap.size 72 6 v' (0 + n) ([] ++ xs)) (hg : (w.alloc o).grownBy w1 (Value.slice (some ⟨w.heap.size, 0, none⟩) 0 0).ownBlock) :
    w1.ownsRow w.heap.size 72 6 v' n xs ∧ Quiet w w1 := by
  refine ⟨by simpa using hr, hg.os, hg.tape, hg.output, Nat.le_trans (Kp.alloc (F := fun _ => False) w o).size hg.size, fun k hk _ => ?_⟩
  rw [hg.block k (by simp; omega) (by simp [Value.ownBlock]; omega)]
  exact Below.heap_alloc w o k hk
theorem src_cells {B : Nat} {w : World} {g n cap : Nat} {xs : List Value} (h : w.ownsRow B 72 6 (.slice (some ⟨g, 0, none⟩) n cap) n xs) (o : Obj) :
    ∀ j u, xs[j]? = some u → (w.alloc o).cell? ((⟨g, 0, none⟩ : Addr).add j) = some u := (h.alloc o).cells rfl
set_option maxRecDepth 8000 in
set_option maxHeartbeats 1000000 in
theorem clone_any (B : Nat) (w : World) (v : Value) (ns : List Nd) (h : w.ownsRow B 72 6 v ns.length (ndCells ns)) (hn : ns.length ≤ 80) :
    Calls Tryz.prog 33 #[v] w fun e w' => ∃ v', e = .returned v' ∧ w'.ownsRow w.heap.size 72 6 v' ns.length (ndCells ns) ∧ Quiet w w' := by
  obtain ⟨i0, hi, hz0, hz1, hz2⟩ := info_parts Tryz.infoN
  have q := eqlN
  rcases h.2 with ⟨rfl, h0⟩ | ⟨g, cap, cur, rfl, _⟩
  · have hN := hid (show w.ownsRow w.heap.size 72 6 (.slice none 0 0) ns.length (ndCells ns) from ⟨h.1, .inl ⟨rfl, h0⟩⟩)
    clear h h0
    go_enter Tryz.func33, Tryz.ntmps33
    go_wp2
    go_ret
    exact ⟨_, rfl, hN.out, Kp.refl _ _⟩
  · have hlen := ndCells_len ns
    have hmade := hid (World.ownsRow_made (base := w.heap.size) (e := 72) (size := 6) w #[] 0 (Nat.le_refl _) (by decide) (by simp))
    have hsrc := hid (src_cells h (.cells #[] 72))
    clear h
    go_enter Tryz.func33, Tryz.ntmps33
    go_wp2_with (at_builtin; refine wpList_append_own _ rfl (.tmp 5) (.tmp 6) 75 rfl w.heap.size 72 i0 _ 6 48 Tryz.undN hi hz0 hz1 hz2 rfl (by decide) (.slice (some ⟨w.heap.size, 0, none⟩) 0 0) 0 [] rfl hmade.out ⟨g, 0, none⟩ ns.length cap (ndCells ns) rfl hlen hsrc.out (ndCells_one ns) (by unfold maxLen; omega) (by omega) (by simp) ?_; intro v' w1 hr hg _; have hD0 := clone_done hr hg; clear hr hg; obtain ⟨ao, cap', rfl⟩ := owns_shape hD0.1; have hD := hid hD0; clear hD0)
    go_ret
    exact ⟨_, rfl, hD.out.1, hD.out.2⟩
section
variable {B : Nat} {w : World} {b : Nat} {vn vo : Value} {ns : List Nd} {os : List Bool}
set_option maxRecDepth 8000 in
set_option maxHeartbeats 1000000 in
theorem nodes_any (h : GS 101 B w b vn vo ns os) :
    Calls Tryz.prog 19 #[.pointer (some ⟨b, 0, none⟩)] w fun e w' => ∃ v', e = .returned v' ∧ w'.ownsRow w.heap.size 72 6 v' ns.length (ndCells ns) ∧ Quiet w w' := by
  have hl := h.cell0
  go_enter Tryz.func19, Tryz.ntmps19
  go_wp2_with (go_at_call 33; refine (clone_any B _ vn ns h.rn h.ln).mono ?_; rintro e w1 ⟨v', rfl, hr, hk⟩; obtain ⟨ao, cap, rfl⟩ := owns_shape hr)
  go_ret
  exact ⟨_, rfl, hr, hk⟩
end
def IntsAt (w : World) (ao : Option Addr) (l : List Int) : Prop := ∀ j (h : j < l.length), ∃ g o, ao = some ⟨g, o, none⟩ ∧ w.cell? ⟨g, o + j, none⟩ = some (.int .i64 l[j])
theorem IntsAt.quiet {w w' : World} {ao : Option Addr} {l : List Int} (h : IntsAt w ao l) (hq : Quiet w w') : IntsAt w' ao l := by
  intro j hj
  obtain ⟨g, o, e, c⟩ := h j hj
  exact ⟨g, o, e, hq.cell c (fun e => e)⟩
theorem meet_bit (k : Nat) : ∀ (ws : List Nd) (r : Nat), (meetW r ws).testBit k = (r.testBit k && ws.all fun x => x.rights.toNat.testBit k)
  | [], r => by simp [meetW]
  | x :: ws, r => by
    show (meetW (r &&& x.rights.toNat) ws).testBit k = _
    rw [meet_bit k ws, Nat.testBit_and, List.all_cons, Bool.and_assoc]
section
variable {B : Nat} {w : World} {b : Nat} {vn vo : Value} {ns : List Nd} {os : List Bool}
end
section
variable {B : Nat} {w : World} {b : Nat} {vn vo : Value} {ns : List Nd} {os : List Bool}
end
end Go.Proofs.YtkpckmcaeljocaaGreat.Gr
