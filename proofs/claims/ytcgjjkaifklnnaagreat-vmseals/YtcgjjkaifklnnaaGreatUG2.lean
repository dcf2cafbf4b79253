/- The contracts of Target, Gates, Nodes, and of the document's SameInts, SameNodes. The contracts of Nodes, and of the document's SameInts and SameNodes. Plain mathematics of the document's net: the numbers of those on a way, and rights bit by bit. The contracts of the document's net that only look: Bit, IsOpen, Way. A row of numbers. The contract of the document's Rights. -/
import Derived.Test.YtcgjjkaifklnnaaGreatUG1
import Derived.Laws.ResultCell
import Derived.Test.YtcgjjkaifklnnaaGreatUG0
import Derived.BigQuiet
import Derived.Deep.RegionHeld3
namespace Go.Proofs.YtcgjjkaifklnnaaGreat.Gr
open Go.ChangeShapes Go.WideShapes Go.ChangeAt Go.RowKit
section
variable {B : Nat} {w : World} {b : Nat} {vn vo : Value} {ns : List Nd} {os : List Bool}
theorem target_no {n : Int} (h : thereB ns.length n = false) : targetOf ns n = nd0 := by simp [targetOf, way_no h]
theorem target_at {n : Int} (h : (wayOf ns n).length - 1 < (wayOf ns n).length) : targetOf ns n = (wayOf ns n)[(wayOf ns n).length - 1] := by
  unfold targetOf
  rw [List.getLastD_eq_getLast?, List.getLast?_eq_getElem?, List.getElem?_eq_getElem h]; rfl
theorem six {w : World} {g : Nat} {a0 a1 a2 a3 a4 a5 : Value} {t : TypeId} (h : w.heap[g]? = some (.cells #[a0, a1, a2, a3, a4, a5] t (0, 0))) :
    w.cell? ⟨g, 0, none⟩ = some a0 ∧ w.cell? ⟨g, 1, none⟩ = some a1 ∧ w.cell? ⟨g, 2, none⟩ = some a2 ∧ w.cell? ⟨g, 3, none⟩ = some a3 ∧ w.cell? ⟨g, 4, none⟩ = some a4 ∧ w.cell? ⟨g, 5, none⟩ = some a5 := by
  simp [World.cell?, h]
theorem sixf {w : World} {g : Nat} {a0 a1 a2 a3 a4 a5 : Value} {t : TypeId} (h : w.heap[g]? = some (.cells #[a0, a1, a2, a3, a4, a5] t (0, 0))) :
    w.frozen? ⟨g, 0, none⟩ = false ∧ w.frozen? ⟨g, 1, none⟩ = false ∧ w.frozen? ⟨g, 2, none⟩ = false ∧ w.frozen? ⟨g, 3, none⟩ = false ∧ w.frozen? ⟨g, 4, none⟩ = false ∧ w.frozen? ⟨g, 5, none⟩ = false :=
  ⟨frozen_of_row w g 0 _ t h, frozen_of_row w g 1 _ t h, frozen_of_row w g 2 _ t h, frozen_of_row w g 3 _ t h, frozen_of_row w g 4 _ t h, frozen_of_row w g 5 _ t h⟩
theorem set_q {w w2 : World} (hq : Quiet w w2) (j : Nat) (u : Value) : Quiet w (w2.setCell ⟨w.heap.size, j, none⟩ u) := hq.fresh (Kp.setCell _ _ _ (Nat.le_refl w.heap.size))
theorem six_q {w w2 : World} (hq : Quiet w w2) (x0 x1 x2 x3 x4 x5 : Value) : Quiet w ((((((w2.setCell ⟨w.heap.size, 0, none⟩ x0).setCell ⟨w.heap.size, 1, none⟩ x1).setCell ⟨w.heap.size, 2, none⟩ x2).setCell ⟨w.heap.size, 3, none⟩ x3).setCell ⟨w.heap.size, 4, none⟩ x4).setCell ⟨w.heap.size, 5, none⟩ x5) :=
  set_q (set_q (set_q (set_q (set_q (set_q hq 0 x0) 1 x1) 2 x2) 3 x3) 4 x4) 5 x5
theorem heap_two (w : World) (o1 o2 : Obj) : ((w.alloc o1).alloc o2).heap[w.heap.size + 1]? = some o2 := by
  have := heap_alloc_new (w.alloc o1) o2
  rw [show (w.alloc o1).heap.size = w.heap.size + 1 by simp] at this
  exact this
theorem news_from {w : World} {x : Nat} {l : List Value} {t : TypeId} (h : w.heap[x]? = some (.cells l.toArray t (0, 0))) : ∀ j u, l[j]? = some u → w.cell? ((⟨x, 0, none⟩ : Addr).add j) = some u := by
  intro j u hu
  rw [Addr.add_lit, cell_of_row _ _ _ _ t (0, 0) h]
  simpa using hu
set_option maxRecDepth 8000 in
set_option maxHeartbeats 2000000 in
theorem target_any (h : GS 114 B w b vn vo ns os) (hw : Wf ns os.length) (n : Int) :
    Calls Tryz.prog 146 #[.pointer (some ⟨b, 0, none⟩), .int .i64 n] w fun e w' => e = .returned (.tuple #[(targetOf ns n).agg, .bool (thereB ns.length n)]) ∧ Quiet w w' := by
  have q1 : Quiet w (w.alloc (.cells nd0.cells.toArray 111)) := Kp.alloc w _
  have h1 := h.quiet q1
  have b1 := heap_alloc_new w (.cells nd0.cells.toArray 111)
  have HL := way_len hw n
  have HN := h.ln
  have hs1 := hid (show (w.alloc (.cells nd0.cells.toArray 111)).heap.size = w.heap.size + 1 by simp)
  simp only [Nd.cells, nd0] at q1 h1 b1 hs1
  cases ht : thereB ns.length n with
  | false =>
    have hE := hid (target_no ht)
    have hlen := hid (way_no ht)
    clear h
    go_enter Tryz.func146, Tryz.ntmps146
    go_wp2_with (go_at_call 147; refine (way_any h1 hw _).mono ?_; rintro e w2 ⟨v2, rfl, hr2, hq2⟩; rw [hlen.out] at hr2; obtain ⟨a2, cap2, rfl⟩ := owns_shape hr2; have bb := (hq2.block _ (lt_of_block b1) id).trans b1; obtain ⟨d0, d1, d2, d3, d4, d5⟩ := six bb; obtain ⟨f0, f1, f2, f3, f4, f5⟩ := sixf bb; clear b1 bb)
    refine bodyPost_ret (v := .tuple #[.agg #[.int .i64 0, .int .i64 0, .int .i64 0, .int .i64 0, .int .i64 0, .int .i64 0], .bool false]) (by rw [results_cell_tmp rfl]; simp [go_sem, d0, d1, d2, d3, d4, d5]) rfl ⟨?_, ?_⟩
    · rw [hE.out]; rfl
    · exact six_q (q1.trans hq2) _ _ _ _ _ _
  | true =>
    obtain ⟨m, hm⟩ : ∃ m, (wayOf ns n).length = m + 1 := by
      obtain ⟨j, rfl, hj⟩ := there_yes ht
      exact ⟨_, by rw [way_yes hw hj]; simp; rfl⟩
    have hmw : m < (wayOf ns n).length := by omega
    have hE := hid (show targetOf ns n = (wayOf ns n)[m] by rw [target_at (by omega)]; congr 1; omega)
    have hlen := hid hm
    clear h
    go_enter Tryz.func146, Tryz.ntmps146
    go_wp2_with (go_at_call 147; refine (way_any h1 hw _).mono ?_; rintro e w2 ⟨v2, rfl, hr2, hq2⟩; obtain ⟨g2, cap2, rfl⟩ := lies_shape hr2 (by omega); obtain ⟨y0, y1, y2, y3, y4, y5⟩ := nd_cells' hr2 m hmw; rw [hlen.out]; have bb := (hq2.block _ (lt_of_block b1) id).trans b1; obtain ⟨d0, d1, d2, d3, d4, d5⟩ := six bb; obtain ⟨f0, f1, f2, f3, f4, f5⟩ := sixf bb; have Hq2 := hid hq2; generalize (wayOf ns n)[m] = x at *; clear b1 bb hr2 hq2)
    refine bodyPost_ret (v := .tuple #[x.agg, .bool true]) (by rw [results_cell_tmp rfl]; simp [go_sem, Nd.agg, d0, d1, d2, d3, d4, d5]) rfl ⟨?_, ?_⟩
    · rw [hE.out]
    · exact six_q (q1.trans Hq2.out) _ _ _ _ _ _
def gatesTo (ws : List Nd) (k : Nat) : List Int := gatesW (ws.take k)
theorem gates_snoc_no (ws : List Nd) (x : Nd) (h : x.gate = -1) : gatesW (ws ++ [x]) = gatesW ws := by simp [gatesW, h]
theorem gates_snoc_yes (ws : List Nd) (x : Nd) (h : x.gate ≠ -1) : gatesW (ws ++ [x]) = gatesW ws ++ [x.gate] := by simp [gatesW, h]
theorem gates_len (ws : List Nd) : (gatesW ws).length ≤ ws.length := by
  unfold gatesW
  exact Nat.le_trans (List.length_filter_le _ _) (by simp)
theorem gates_step {w wr w1 : World} {o : Obj} {acc : List Int} {x : Int} {v : Value} {g cap : Nat} (hq : Quiet w wr) (hr : wr.ownsRow w.heap.size 3 1 v acc.length (ints acc)) (hg : (wr.alloc o).grownBy w1 v.ownBlock) (h1 : w1.ownsRow w.heap.size 3 1 (.slice (some ⟨g, 0, none⟩) (acc.length + 1) cap) (acc.length + 1) (ints acc ++ [.int .i64 x])) :
    w1.ownsRow w.heap.size 3 1 (.slice (some ⟨g, 0, none⟩) (acc.length + 1) cap) (acc ++ [x]).length (ints (acc ++ [x])) ∧ Quiet w w1 := by
  refine ⟨?_, grown_quiet hq hr hg⟩
  simpa [ints] using h1
set_option maxRecDepth 8000 in
set_option maxHeartbeats 2000000 in
theorem gates_any (h : GS 114 B w b vn vo ns os) (hw : Wf ns os.length) (n : Int) :
    Calls Tryz.prog 138 #[.pointer (some ⟨b, 0, none⟩), .int .i64 n] w fun e w' => ∃ v', e = .returned v' ∧ w'.ownsRow w.heap.size 3 1 v' (gatesOf ns n).length (ints (gatesOf ns n)) ∧ Quiet w w' := by
  obtain ⟨i0, hi, hz0, hz1, hz2⟩ := info_parts Tryz.infoI
  have HL := way_len hw n
  have HN := h.ln
  have hE := hid (show gatesOf ns n = gatesW (wayOf ns n) from rfl)
  go_enter Tryz.func138, Tryz.ntmps138
  go_wp2_with (go_at_call 147; refine (way_any h hw _).mono ?_; rintro e w2 ⟨v2, rfl, hr2, hq2⟩; obtain ⟨a2, cap2, rfl⟩ := owns_shape hr2)
  have HR := hid hr2
  have HQ := hid hq2
  clear hr2 hq2 h hw
  generalize wayOf ns n = ws at *
  go_loopw [5, 12] (fun v i wr => ∃ k : Nat, k ≤ ws.length ∧ i = .int .i64 k ∧ wr.ownsRow w2.heap.size 3 1 v (gatesTo ws k).length (ints (gatesTo ws k)) ∧ Quiet w2 wr) (fun _ i _ => ws.length - (intOf i).toNat)
  case atStart => exact ⟨0, Nat.zero_le _, rfl, World.ownsRow_nil _ _ _ _, Kp.refl _ _⟩
  case round =>
    obtain ⟨k, hk, rfl, hrow, hq⟩ := hrel
    by_cases hlt : k < ws.length
    · have hr := hq.row HR.out (fun _ _ e => e)
      obtain ⟨g, cap, hv⟩ := lies_shape hr (by omega)
      simp only [Value.slice.injEq, true_and] at hv
      obtain ⟨rfl, rfl⟩ := hv
      obtain ⟨d0, d1, d2, d3, d4, d5⟩ := nd_cells' hr k hlt
      obtain ⟨av, cv, rfl⟩ := owns_shape hrow
      have hal : (gatesTo ws k).length ≤ 80 := by have := gates_len (ws.take k); simp [gatesTo] at this ⊢; omega
      have ha := hid (show gatesTo ws (k + 1) = gatesW (ws.take k ++ [ws[k]]) by unfold gatesTo; rw [take_snoc ws k hlt])
      have hq1 : Quiet w2 (wr.alloc (.cells ws[k].cells.toArray 111)) := hq.trans (Kp.alloc _ _)
      have hrow1 := hrow.alloc (.cells ws[k].cells.toArray 111)
      clear hr hrow hq
      generalize ws[k] = x at *
      obtain ⟨xp, xg, xr, xc, xl, xf⟩ := x
      simp only [Nd.cells] at *
      by_cases hgate : xg = -1
      · subst hgate
        have HS := hid (And.intro hrow1 hq1)
        have hb := hid (ha.out.trans (gates_snoc_no (ws.take k) ⟨xp, -1, xr, xc, xl, xf⟩ rfl))
        clear hrow1 hq1 ha
        go_wp2
        exact ⟨⟨k + 1, by omega, by go_num, by rw [hb.out]; exact HS.out.1, HS.out.2⟩, by simp [intOf]; omega⟩
      · have hgd : decide (xg = -1) = false := by simpa using hgate
        have hb := hid (ha.out.trans (gates_snoc_yes (ws.take k) ⟨xp, xg, xr, xc, xl, xf⟩ hgate))
        clear ha
        go_wp2_with (at_builtin; refine wpList_append_lies _ rfl (.tmp 19) (.tmp 22) 184 rfl w2.heap.size 3 i0 _ 1 8 Tryz.undI hi hz0 hz1 hz2 rfl (by decide) _ (gatesTo ws k).length (ints (gatesTo ws k)) rfl (hrow1.alloc _) ⟨wr.heap.size + 1, 0, none⟩ 1 1 [.int .i64 xg] rfl rfl (news_from (t := 3) (heap_two wr _ _)) (by simp [Value.oneCell']) (by decide) (by unfold maxLen; omega) (by omega) (by have := hq1.size; simp at this ⊢; omega) (wr.heap.size + 2) (by simp) ?_; intro g2 cap2 w1 hr1 hg1 hat hlt1; have hS := hid (gates_step (x := xg) hq1 hrow1 hg1 hr1); clear hr1 hg1 hat hlt1)
        exact ⟨⟨k + 1, by omega, by go_num, by rw [hb.out]; exact hS.out.1, hS.out.2⟩, by simp [intOf]; omega⟩
    · have hke : k = ws.length := by omega
      subst hke
      have hg := hid (show gatesTo ws ws.length = gatesOf ns n by rw [hE.out]; simp [gatesTo])
      obtain ⟨av, cv, rfl⟩ := owns_shape hrow
      go_wp2
      go_ret
      rw [← hg.out]
      exact ⟨_, rfl, owns_mono hrow HQ.out.size, HQ.out.trans hq⟩
end
end Go.Proofs.YtcgjjkaifklnnaaGreat.Gr
namespace Go.Proofs.YtcgjjkaifklnnaaGreat.Gr
open Go.ChangeShapes Go.WideShapes Go.ChangeAt Go.RowKit
theorem equalInN (d : Nat) (a : Option Addr) (n c : Nat) (w : World) : (Op.equalIn (d + 1) 62 (.slice a n c) (.slice none 0 0)).run Tryz.prog w = .ok a.isNone w := by
  cases a <;> simp [Op.equalIn, run_underlying Tryz.undN]
theorem eqlN (a : Option Addr) (n c : Nat) (w : World) : (binOp .eql 62 (.slice a n c) (.slice none 0 0)).run Tryz.prog w = .ok (.bool a.isNone) w := by
  simp only [binOp]
  simp [Op.equal, Op.maxDepth, equalInN 9999 a n c w]
theorem clone_done {w w1 : World} {o : Obj} {v' : Value} {n : Nat} {xs : List Value} (hr : w1.ownsRow w.heap.size 111 6 v' (0 + n) ([] ++ xs)) (hg : (w.alloc o).grownBy w1 (Value.slice (some ⟨w.heap.size, 0, none⟩) 0 0).ownBlock) :
    w1.ownsRow w.heap.size 111 6 v' n xs ∧ Quiet w w1 := by
  refine ⟨by simpa using hr, hg.os, hg.tape, hg.output, Nat.le_trans (Kp.alloc (F := fun _ => False) w o).size hg.size, fun k hk _ => ?_⟩
  rw [hg.block k (by simp; omega) (by simp [Value.ownBlock]; omega)]
  exact Below.heap_alloc w o k hk
theorem src_cells {B : Nat} {w : World} {g n cap : Nat} {xs : List Value} (h : w.ownsRow B 111 6 (.slice (some ⟨g, 0, none⟩) n cap) n xs) (o : Obj) :
    ∀ j u, xs[j]? = some u → (w.alloc o).cell? ((⟨g, 0, none⟩ : Addr).add j) = some u := (h.alloc o).cells rfl
set_option maxRecDepth 8000 in
set_option maxHeartbeats 1000000 in
theorem clone_any (B : Nat) (w : World) (v : Value) (ns : List Nd) (h : w.ownsRow B 111 6 v ns.length (ndCells ns)) (hn : ns.length ≤ 80) :
    Calls Tryz.prog 37 #[v] w fun e w' => ∃ v', e = .returned v' ∧ w'.ownsRow w.heap.size 111 6 v' ns.length (ndCells ns) ∧ Quiet w w' := by
  obtain ⟨i0, hi, hz0, hz1, hz2⟩ := info_parts Tryz.infoN
  have q := eqlN
  rcases h.2 with ⟨rfl, h0⟩ | ⟨g, cap, cur, rfl, _⟩
  · have hN := hid (show w.ownsRow w.heap.size 111 6 (.slice none 0 0) ns.length (ndCells ns) from ⟨h.1, .inl ⟨rfl, h0⟩⟩)
    clear h h0
    go_enter Tryz.func37, Tryz.ntmps37
    go_wp2
    go_ret
    exact ⟨_, rfl, hN.out, Kp.refl _ _⟩
  · have hlen := ndCells_len ns
    have hmade := hid (World.ownsRow_made (base := w.heap.size) (e := 111) (size := 6) w #[] 0 (Nat.le_refl _) (by decide) (by simp))
    have hsrc := hid (src_cells h (.cells #[] 111))
    clear h
    go_enter Tryz.func37, Tryz.ntmps37
    go_wp2_with (at_builtin; refine wpList_append_own _ rfl (.tmp 5) (.tmp 6) 62 rfl w.heap.size 111 i0 _ 6 48 Tryz.undN hi hz0 hz1 hz2 rfl (by decide) (.slice (some ⟨w.heap.size, 0, none⟩) 0 0) 0 [] rfl hmade.out ⟨g, 0, none⟩ ns.length cap (ndCells ns) rfl hlen hsrc.out (ndCells_one ns) (by unfold maxLen; omega) (by omega) (by simp) ?_; intro v' w1 hr hg _; have hD0 := clone_done hr hg; clear hr hg; obtain ⟨ao, cap', rfl⟩ := owns_shape hD0.1; have hD := hid hD0; clear hD0)
    go_ret
    exact ⟨_, rfl, hD.out.1, hD.out.2⟩
section
variable {B : Nat} {w : World} {b : Nat} {vn vo : Value} {ns : List Nd} {os : List Bool}
set_option maxRecDepth 8000 in
set_option maxHeartbeats 1000000 in
theorem nodes_any (h : GS 114 B w b vn vo ns os) :
    Calls Tryz.prog 19 #[.pointer (some ⟨b, 0, none⟩)] w fun e w' => ∃ v', e = .returned v' ∧ w'.ownsRow w.heap.size 111 6 v' ns.length (ndCells ns) ∧ Quiet w w' := by
  have hl := h.cell0
  go_enter Tryz.func19, Tryz.ntmps19
  go_wp2_with (go_at_call 37; refine (clone_any B _ vn ns h.rn h.ln).mono ?_; rintro e w1 ⟨v', rfl, hr, hk⟩; obtain ⟨ao, cap, rfl⟩ := owns_shape hr)
  go_ret
  exact ⟨_, rfl, hr, hk⟩
end
/-- Numbers in memory, wherever they begin. -/
def IntsAt (w : World) (ao : Option Addr) (l : List Int) : Prop := ∀ j (h : j < l.length), ∃ g o, ao = some ⟨g, o, none⟩ ∧ w.cell? ⟨g, o + j, none⟩ = some (.int .i64 l[j])
theorem IntsAt.quiet {w w' : World} {ao : Option Addr} {l : List Int} (h : IntsAt w ao l) (hq : Quiet w w') : IntsAt w' ao l := by
  intro j hj
  obtain ⟨g, o, e, c⟩ := h j hj
  exact ⟨g, o, e, hq.cell c (fun e => e)⟩
theorem ints_lie {w : World} {base : Nat} {ao : Option Addr} {l : List Int} {cap : Nat} (h : w.ownsRow base 3 1 (.slice ao l.length cap) l.length (ints l)) : IntsAt w ao l := by
  intro j hj
  obtain ⟨g, rfl, d⟩ := owns_at h (by omega)
  refine ⟨g, 0, rfl, ?_⟩
  rw [Nat.zero_add, d j (by omega)]
  simp [ints, hj]
theorem eqNode (a b c d e f a' b' c' d' e' f' : Int) (w : World) : (Op.equalIn 10000 111 (.agg #[.int .i64 a, .int .i64 b, .int .i64 c, .int .i64 d, .int .i64 e, .int .i64 f]) (.agg #[.int .i64 a', .int .i64 b', .int .i64 c', .int .i64 d', .int .i64 e', .int .i64 f'])).run Tryz.prog w = .ok (a == a' && b == b' && c == c' && d == d' && e == e' && f == f') w := by
  have hS : Tryz.prog.underlying 111 = some (.struct (Tryz.prog.fieldsOf 111)) := by kernel_rfl
  have hp : Tryz.prog.stoodInHeld 111 = false := by kernel_rfl
  rw [show (10000 : Nat) = 9999 + 1 from rfl, run_equalIn_agg w 9999 111 _ _ hS hp]
  simp only [Program.fieldsOf, Tryz.underlying111]
  go_simp
  by_cases h1 : a = a' <;> by_cases h2 : b = b' <;> by_cases h3 : c = c' <;> by_cases h4 : d = d' <;> by_cases h5 : e = e' <;> by_cases h6 : f = f' <;> simp [h1, h2, h3, h4, h5, h6]
set_option maxRecDepth 8000 in
set_option maxHeartbeats 2000000 in
theorem sameNodes_any (B1 B2 m1 m2 : Nat) (w : World) (ns l1 l2 : List Nd) (a1 a2 : Option Addr) (n1 n2 : Nat) (hl : ns.length ≤ 100000) (h1 : w.ownsRow B1 111 6 (.slice a1 l1.length m1) l1.length (ndCells l1)) (h2 : w.ownsRow B2 111 6 (.slice a2 l2.length m2) l2.length (ndCells l2)) (p1 : ns <+: l1) (p2 : ns <+: l2) :
    Calls Tryz.prog 18 #[.slice a1 ns.length n1, .slice a2 ns.length n2] w fun e w' => e = .returned (.bool true) ∧ Quiet w w' := by
  have H1 := hid h1
  have H2 := hid h2
  have P1 := hid p1
  have P2 := hid p2
  have L1 := p1.length_le
  have L2 := p2.length_le
  have q := eqNode
  clear h1 h2 p1 p2
  go_enter Tryz.func18, Tryz.ntmps18
  go_wp2
  go_loopw [5] (fun i w' => Quiet w w' ∧ ∃ k : Nat, k ≤ ns.length ∧ i = .int .i64 k) (fun i _ => ns.length - (intOf i).toNat)
  case atStart => exact ⟨Kp.refl _ _, 0, Nat.zero_le _, rfl⟩
  case round =>
    obtain ⟨hk, k, hkl, rfl⟩ := hrel
    by_cases hlt : k < ns.length
    · obtain ⟨g1, rfl, _⟩ := owns_at H1.out (by omega)
      obtain ⟨g2, rfl, _⟩ := owns_at H2.out (by omega)
      obtain ⟨c1, c2, c3, c4, c5, c6⟩ := nd_cells' (hk.row H1.out fun _ _ e => e) k (by omega)
      obtain ⟨d1, d2, d3, d4, d5, d6⟩ := nd_cells' (hk.row H2.out fun _ _ e => e) k (by omega)
      have e1 : l1[k] = ns[k] := (P1.out.getElem hlt).symm
      have e2 : l2[k] = ns[k] := (P2.out.getElem hlt).symm
      rw [e1] at c1 c2 c3 c4 c5 c6
      rw [e2] at d1 d2 d3 d4 d5 d6
      have K := hid hk
      clear hk e1 e2
      generalize ns[k].parent = xp at *
      generalize ns[k].gate = xg at *
      generalize ns[k].rights = xr at *
      generalize ns[k].cell = xc at *
      generalize ns[k].plugin = xl at *
      generalize ns[k].func = xf at *
      go_wp2
      go_quiet (fail)
      go_wp2
      exact ⟨⟨K.out.trans (Kp.drewN _ _), k + 1, by omega, by go_num⟩, by simp [intOf]; omega⟩
    · go_wp2
      go_ret
      exact ⟨rfl, hk⟩
end Go.Proofs.YtcgjjkaifklnnaaGreat.Gr
namespace Go.Proofs.YtcgjjkaifklnnaaGreat.Gr
open Go.ChangeShapes Go.WideShapes Go.ChangeAt Go.RowKit
def idxF (ns : List Nd) : Nat → Int → List Int
  | 0, _ => []
  | f + 1, n => if thereB ns.length n then n :: idxF ns f (ns.getD n.toNat nd0).parent else []
def idxOf (ns : List Nd) (n : Int) : List Int := idxF ns (n.toNat + 1) n
def ndAt (ns : List Nd) (i : Int) : Nd := ns.getD i.toNat nd0
theorem idxF_map (ns : List Nd) : ∀ (f : Nat) (n : Int), (idxF ns f n).map (ndAt ns) = wayF ns f n
  | 0, _ => rfl
  | f + 1, n => by
    simp only [idxF, wayF]
    split
    · rw [List.map_cons, idxF_map ns f]; rfl
    · rfl
theorem idx_map (ns : List Nd) (n : Int) : (idxOf ns n).map (ndAt ns) = wayOf ns n := idxF_map ns _ n
theorem idxF_mem (ns : List Nd) : ∀ (f : Nat) (n i : Int), i ∈ idxF ns f n → thereB ns.length i = true
  | 0, _, _, h => by simp [idxF] at h
  | f + 1, n, i, h => by
    simp only [idxF] at h
    split at h
    · rename_i ht
      rcases List.mem_cons.1 h with rfl | h
      · exact ht
      · exact idxF_mem ns f _ i h
    · simp at h
theorem idxF_no {ns : List Nd} {n : Int} (h : thereB ns.length n = false) (f : Nat) : idxF ns f n = [] := by
  cases f <;> simp [idxF, h]
theorem idx_no {ns : List Nd} {n : Int} (h : thereB ns.length n = false) : idxOf ns n = [] := idxF_no h _
theorem idxF_same {ns : List Nd} {g : Nat} (hw : Wf ns g) : ∀ f f' (n : Int), n.toNat < f → n.toNat < f' → idxF ns f n = idxF ns f' n := by
  intro f
  induction f with
  | zero => intro f' n h _; omega
  | succ f ih =>
    intro f' n h1 h2
    cases f' with
    | zero => omega
    | succ f' =>
      simp only [idxF]
      cases ht : thereB ns.length n with
      | false => simp
      | true =>
        obtain ⟨j, rfl, hj⟩ := there_yes ht
        simp only [Int.toNat_natCast, if_true] at h1 h2 ⊢
        have hk := hw j hj
        rw [getD_of hj]
        congr 1
        have p0 := hk.p0
        have p1 := hk.p1
        by_cases hp : ns[j].parent < 0
        · have e : thereB ns.length ns[j].parent = false := by simp [thereB]; omega
          rw [idxF_no e, idxF_no e]
        · exact ih f' _ (by omega) (by omega)
theorem idx_yes {ns : List Nd} {g : Nat} (hw : Wf ns g) {j : Nat} (hj : j < ns.length) : idxOf ns j = (j : Int) :: idxOf ns ns[j].parent := by
  have hk := hw j hj
  have p0 := hk.p0
  have p1 := hk.p1
  have e : idxOf ns j = (j : Int) :: idxF ns j ns[j].parent := by
    simp only [idxOf, idxF, there_nat hj, if_true, Int.toNat_natCast, getD_of hj]
  rw [e]
  congr 1
  by_cases hp : ns[j].parent < 0
  · have e : thereB ns.length ns[j].parent = false := by simp [thereB]; omega
    rw [idxF_no e, idx_no e]
  · exact idxF_same hw _ _ _ (by omega) (by omega)
theorem idx_len (ns : List Nd) (n : Int) : (idxOf ns n).length = (wayOf ns n).length := by rw [← idx_map]; simp
/-- The k-th on a way. -/
theorem idx_at {ns : List Nd} {n : Int} {k : Nat} (hk : k < (idxOf ns n).length) (hk' : k < (wayOf ns n).length) : ∃ i : Nat, (idxOf ns n)[k] = (i : Int) ∧ ∃ hi : i < ns.length, ns[i] = (wayOf ns n)[k] := by
  have hm := idxF_mem ns _ n _ (List.getElem_mem hk)
  obtain ⟨i, e, hi⟩ := there_yes hm
  refine ⟨i, e, hi, ?_⟩
  have : (wayOf ns n)[k] = ndAt ns (idxOf ns n)[k] := by
    have h1 : ((idxOf ns n).map (ndAt ns))[k]? = (wayOf ns n)[k]? := by rw [idx_map]
    rw [List.getElem?_map, List.getElem?_eq_getElem hk, List.getElem?_eq_getElem hk', Option.map_some] at h1
    exact (Option.some.inj h1).symm
  rw [this, e]
  simp [ndAt, hi]
/-- Bit by bit. -/
def bitOk (os : List Bool) (k : Nat) (x : Nd) : Bool := x.rights.toNat.testBit k && passB os x
def sumTo (os : List Bool) (ws : List Nd) : Nat → Nat
  | 0 => 0
  | k + 1 => sumTo os ws k + if ws.all (bitOk os k) then 2 ^ k else 0
theorem meet_bit (k : Nat) : ∀ (ws : List Nd) (r : Nat), (meetW r ws).testBit k = (r.testBit k && ws.all fun x => x.rights.toNat.testBit k)
  | [], r => by simp [meetW]
  | x :: ws, r => by
    show (meetW (r &&& x.rights.toNat) ws).testBit k = _
    rw [meet_bit k ws, Nat.testBit_and, List.all_cons, Bool.and_assoc]
theorem sum_small (M : Nat) (h : M ≤ 15) : (((0 + if M.testBit 0 then 2 ^ 0 else 0) + if M.testBit 1 then 2 ^ 1 else 0) + if M.testBit 2 then 2 ^ 2 else 0) + (if M.testBit 3 then 2 ^ 3 else 0) = M := by
  have H : ∀ r : Fin 16, (((0 + if r.val.testBit 0 then 2 ^ 0 else 0) + if r.val.testBit 1 then 2 ^ 1 else 0) + if r.val.testBit 2 then 2 ^ 2 else 0) + (if r.val.testBit 3 then 2 ^ 3 else 0) = r.val := by decide +kernel
  exact H ⟨M, by omega⟩
theorem all_bit (os : List Bool) (ws : List Nd) (k : Nat) (hk : k < 4) : ws.all (bitOk os k) = (if ws.all (passB os) then meetW 15 ws else 0).testBit k := by
  have h1 : ws.all (bitOk os k) = ((ws.all fun x => x.rights.toNat.testBit k) && ws.all (passB os)) := by
    induction ws with
    | nil => rfl
    | cons x ws ih => simp only [List.all_cons, ih, bitOk]; cases x.rights.toNat.testBit k <;> cases passB os x <;> simp
  have h15 : (15 : Nat).testBit k = true := by
    have : ∀ k : Fin 4, (15 : Nat).testBit k.val = true := by decide
    exact this ⟨k, hk⟩
  rw [h1]
  split
  · rename_i h; rw [h, meet_bit, h15]; simp
  · rename_i h
    have : ws.all (passB os) = false := by simpa using h
    rw [this]; simp
theorem sum_rights {ns : List Nd} {os : List Bool} {n : Int} (ht : thereB ns.length n = true) : sumTo os (wayOf ns n) 4 = rightsN ns os n := by
  have e : rightsN ns os n = if (wayOf ns n).all (passB os) then meetW 15 (wayOf ns n) else 0 := by simp [rightsN, ht]
  have hle : (if (wayOf ns n).all (passB os) then meetW 15 (wayOf ns n) else 0) ≤ 15 := by rw [← e]; exact rights_le _ _ _
  rw [e]
  show (((0 + if (wayOf ns n).all (bitOk os 0) then 2 ^ 0 else 0) + if (wayOf ns n).all (bitOk os 1) then 2 ^ 1 else 0) + if (wayOf ns n).all (bitOk os 2) then 2 ^ 2 else 0) + (if (wayOf ns n).all (bitOk os 3) then 2 ^ 3 else 0) = _
  rw [all_bit os _ 0 (by decide), all_bit os _ 1 (by decide), all_bit os _ 2 (by decide), all_bit os _ 3 (by decide)]
  exact sum_small _ hle
theorem sum_le (os : List Bool) (ws : List Nd) : ∀ k, k ≤ 4 → sumTo os ws k ≤ 15
  | 0, _ => by simp [sumTo]
  | 1, _ => by simp only [sumTo]; split <;> simp
  | 2, _ => by simp only [sumTo]; split <;> split <;> simp
  | 3, _ => by simp only [sumTo]; split <;> split <;> split <;> simp
  | 4, _ => by simp only [sumTo]; split <;> split <;> split <;> split <;> simp
end Go.Proofs.YtcgjjkaifklnnaaGreat.Gr
namespace Go.Proofs.YtcgjjkaifklnnaaGreat.Gr
open Go.ChangeShapes Go.WideShapes Go.ChangeAt Go.RowKit
theorem bit_small (q k : Nat) (hq : q ≤ 15) (hk : k < 4) : (bits .and .i64 ((q : Int) / 2 ^ k) 1 == 1) = q.testBit k := by
  have H : ∀ q : Fin 16, ∀ k : Fin 4, (bits .and .i64 ((q.val : Int) / 2 ^ k.val) 1 == 1) = q.val.testBit k.val := by decide +kernel
  exact H ⟨q, by omega⟩ ⟨k, hk⟩
theorem bit_any (q k : Nat) (hq : q ≤ 15) (hk : k < 4) (w : World) :
    Calls Tryz.prog 127 #[.int .i64 q, .int .i64 k] w fun e w' => e = .returned (.bool (q.testBit k)) ∧ w' = w := by
  have hE := hid (bit_small q k hq hk)
  go_enter Tryz.func127, Tryz.ntmps127
  go_wp2
  go_ret
  exact ⟨by rw [← hE.out]; simp, rfl⟩
section
variable {B : Nat} {w : World} {b : Nat} {vn vo : Value} {ns : List Nd} {os : List Bool}
theorem nopen_any (h : GS 66 B w b vn vo ns (os.map (! ·))) (k : Int) :
    Calls Tryz.prog 140 #[.pointer (some ⟨b, 0, none⟩), .int .i64 k] w fun e w' => e = .returned (.bool (openB os k)) ∧ w' = w := by
  have c1 := h.cell1
  have hlen : (os.map (! ·)).length = os.length := List.length_map _
  cases ht : thereB os.length k with
  | false =>
    have hE := hid (show openB os k = false by simp [openB, ht])
    go_enter Tryz.func140, Tryz.ntmps140
    go_wp2_with (go_at_call 78; refine (nhas_any h _).mono ?_; rintro e w' ⟨rfl, rfl⟩; rw [hlen, ht])
    go_ret
    exact ⟨by rw [hE.out]; rfl, rfl⟩
  | true =>
    have hE := hid (show openB os k = os.getD k.toNat false by simp [openB, ht])
    obtain ⟨j, rfl, hj⟩ := there_yes ht
    have hro := h.ro
    obtain ⟨g, cap, hv⟩ := lies_shape hro (by rw [hlen]; omega)
    subst hv
    obtain ⟨g', e, d⟩ := owns_at hro (by rw [hlen]; omega)
    cases e
    have cj := bool_at d j (by rw [hlen]; exact hj)
    have cj' : (os.map (! ·)).getD j false = ! os.getD j false := by simp [List.getD_eq_getElem?_getD, hj]
    rw [cj'] at cj
    rw [hlen] at c1
    have HC := hid hlen
    clear hro d cj'
    generalize hob : os.getD j false = ob at *
    go_enter Tryz.func140, Tryz.ntmps140
    go_wp2_with (go_at_call 78; refine (nhas_any h _).mono ?_; rintro e w' ⟨rfl, rfl⟩; rw [HC.out, ht])
    go_ret
    exact ⟨by rw [hE.out, Int.toNat_natCast, hob]; simp, rfl⟩
theorem one_row (w : World) (x : Int) : (w.alloc (.cells #[.int .i64 x] 3)).ownsRow w.heap.size 3 1 (.slice (some ⟨w.heap.size, 0, none⟩) 1 1) 1 [.int .i64 x] :=
  ⟨by simp, .inr ⟨w.heap.size, 1, #[.int .i64 x], rfl, Nat.le_refl _, heap_alloc_new w _, Nat.le_refl _, by decide, by simp, by simp⟩⟩
theorem way_done {w w2 w1 : World} {o : Obj} {x : Int} {l : List Int} {g cap : Nat} (q2 : Quiet (w.alloc o) w2) (hr : w1.ownsRow w.heap.size 3 1 (.slice (some ⟨g, 0, none⟩) (1 + l.length) cap) (1 + l.length) ([.int .i64 x] ++ ints l)) (hg : w2.grownBy w1 (Value.slice (some ⟨w.heap.size, 0, none⟩) 1 1).ownBlock) :
    w1.ownsRow w.heap.size 3 1 (.slice (some ⟨g, 0, none⟩) (1 + l.length) cap) (x :: l).length (ints (x :: l)) ∧ Quiet w w1 := by
  refine ⟨?_, ((Kp.alloc w o).trans q2).fresh (Kp.grown hg fun k _ e => ?_)⟩
  · simpa [ints, Nat.add_comm] using hr
  · simp [Value.ownBlock] at e; omega
set_option maxRecDepth 8000 in
set_option maxHeartbeats 2000000 in
theorem nway_any (hw : Wf ns os.length) : ∀ (f : Nat) (n : Int) (w : World), (n + 1).toNat < f → GS 66 B w b vn vo ns os →
    Calls Tryz.prog 130 #[.pointer (some ⟨b, 0, none⟩), .int .i64 n] w fun e w' => ∃ v', e = .returned v' ∧ w'.ownsRow w.heap.size 3 1 v' (idxOf ns n).length (ints (idxOf ns n)) ∧ Quiet w w' ∧ (idxOf ns n = [] → v' = .slice none 0 0) := by
  obtain ⟨i0, hi, hz0, hz1, hz2⟩ := info_parts Tryz.infoI
  intro f
  induction f with
  | zero => intro n w h _; omega
  | succ f ih =>
    intro n w hf h
    have c0 := h.cell0
    have hN := h.ln
    cases ht : thereB ns.length n with
    | false =>
      have hE := hid (idx_no ht)
      obtain ⟨ao, cap, hv⟩ := owns_shape h.rn
      subst hv
      by_cases h0 : n < 0
      · have hd : decide (n < 0) = true := by simpa using h0
        clear h
        go_enter Tryz.func130, Tryz.ntmps130
        go_wp2
        go_ret
        rw [hE.out]
        exact ⟨_, rfl, World.ownsRow_nil _ _ _ _, Kp.refl _ _, fun _ => rfl⟩
      · have hd : decide (n < 0) = false := by simpa using h0
        have hd2 : (ns.length : Int) ≤ n := by have := there_no ht; omega
        clear h
        go_enter Tryz.func130, Tryz.ntmps130
        go_wp2
        go_ret
        rw [hE.out]
        exact ⟨_, rfl, World.ownsRow_nil _ _ _ _, Kp.refl _ _, fun _ => rfl⟩
    | true =>
      obtain ⟨k, rfl, hk⟩ := there_yes ht
      have q1 : Quiet w (w.alloc (.cells #[.int .i64 k] 3)) := Kp.alloc _ _
      have h1 := h.quiet q1
      have c1 := h1.cell0
      have hrn := h1.rn
      obtain ⟨g, cap, hv⟩ := lies_shape hrn (by omega)
      subst hv
      obtain ⟨d0, d1, d2, d3, d4, d5⟩ := nd_cells' hrn k hk
      have hE := hid (idx_yes hw hk)
      have hP := hw k hk
      have hb0 : decide ((k : Int) < 0) = false := by simp
      have hb1 : decide ((ns.length : Int) ≤ (k : Int)) = false := by simp; omega
      have one := one_row w k
      have hlw : (idxOf ns ns[k].parent).length ≤ 80 := by rw [idx_len]; have := way_len hw ns[k].parent; omega
      have p0 := hP.p0
      have p1 := hP.p1
      have HIH := hid (ih ns[k].parent (w.alloc (.cells #[.int .i64 k] 3)) (by simp at hf; omega) h1)
      clear hrn h ih hP
      by_cases hl0 : idxOf ns ns[k].parent = []
      · go_enter Tryz.func130, Tryz.ntmps130
        go_wp2_with (go_at_call 130; refine HIH.out.mono ?_; rintro e w2 ⟨v2, rfl, r2, q2, e2⟩; obtain rfl := e2 hl0)
        go_ret
        rw [hE.out, hl0]
        exact ⟨_, rfl, q2.row one (fun _ _ e => e), q1.trans q2, fun e => by simp at e⟩
      · have hpos : 0 < (idxOf ns ns[k].parent).length := by
          rcases Nat.eq_zero_or_pos (idxOf ns ns[k].parent).length with e | e
          · exact absurd (List.eq_nil_of_length_eq_zero e) hl0
          · exact e
        generalize idxOf ns ns[k].parent = l at *
        go_enter Tryz.func130, Tryz.ntmps130
        go_wp2_with (first
          | (go_at_call 130; refine HIH.out.mono ?_; rintro e w2 ⟨v2, rfl, r2, q2, e2⟩; obtain ⟨g2, cap2, rfl⟩ := lies_shape r2 hpos; clear e2)
          | (at_builtin; refine wpList_append_lies _ rfl (.tmp 17) (.tmp 27) 184 rfl w.heap.size 3 i0 _ 1 8 Tryz.undI hi hz0 hz1 hz2 rfl (by decide) (.slice (some ⟨w.heap.size, 0, none⟩) 1 1) 1 [.int .i64 k] rfl (q2.row one (fun _ _ e => e)) ⟨g2, 0, none⟩ l.length cap2 (ints l) rfl (by simp [ints]) (r2.cells rfl) (ints_one l) hpos (by unfold maxLen; omega) (by omega) (by have := q2.size; simp at this; omega) _ rfl ?_; intro g3 cap3 w1 hr1 hg1 hat hlt; have hD := hid (way_done q2 hr1 hg1); clear hr1 hg1 hat hlt))
        go_ret
        rw [hE.out]
        exact ⟨_, rfl, hD.out.1, hD.out.2, fun e => by simp at e⟩
end
end Go.Proofs.YtcgjjkaifklnnaaGreat.Gr
namespace Go.Proofs.YtcgjjkaifklnnaaGreat.Gr
open Go.ChangeShapes Go.WideShapes Go.ChangeAt Go.RowKit
theorem ints_cell {w : World} {base g cap : Nat} {l : List Int} (h : w.ownsRow base 3 1 (.slice (some ⟨g, 0, none⟩) l.length cap) l.length (ints l)) (k : Nat) (hk : k < l.length) : w.cell? ⟨g, k, none⟩ = some (.int .i64 l[k]) := by
  obtain ⟨g', e, d⟩ := owns_at h (by omega)
  cases e
  rw [d k (by omega)]
  simp [ints, hk]
end Go.Proofs.YtcgjjkaifklnnaaGreat.Gr
namespace Go.Proofs.YtcgjjkaifklnnaaGreat.Gr
open Go.ChangeShapes Go.WideShapes Go.ChangeAt Go.RowKit
theorem all_snoc (os : List Bool) (k : Nat) (ws : List Nd) (j : Nat) (hj : j < ws.length) : (ws.take (j + 1)).all (bitOk os k) = ((ws.take j).all (bitOk os k) && (ws[j].rights.toNat.testBit k && passB os ws[j])) := by
  rw [take_snoc ws j hj, List.all_append]; simp [bitOk]
theorem var_q {w2 wr : World} (hq : Quiet w2 wr) (o : Obj) : Quiet w2 (wr.alloc o).drew := (hq.trans (Kp.alloc _ o)).trans (Kp.drew _)
section
variable {B : Nat} {w : World} {b : Nat} {vn vo : Value} {ns : List Nd} {os : List Bool}
set_option maxRecDepth 8000 in
set_option maxRecDepth 8000 in
set_option maxHeartbeats 8000000 in
theorem nrights_any (h : GS 66 B w b vn vo ns (os.map (! ·))) (hw0 : Wf ns os.length) (n : Int) :
    Calls Tryz.prog 128 #[.pointer (some ⟨b, 0, none⟩), .int .i64 n] w fun e w' => e = .returned (.int .i64 (rightsN ns os n : Nat)) ∧ Quiet w w' := by
  have hw : Wf ns (os.map (! ·)).length := by rw [List.length_map]; exact hw0
  cases ht : thereB ns.length n with
  | false =>
    have hE := hid (rights_no (os := os) ht)
    have hlen := hid (idx_no ht)
    go_enter Tryz.func128, Tryz.ntmps128
    go_wp2_with (go_at_call 130; refine (nway_any hw _ _ _ (Nat.lt_succ_self _) h).mono ?_; rintro e w2 ⟨v2, rfl, hr2, hq2, hnil⟩; obtain rfl := hnil hlen.out; clear hr2 hnil)
    go_loopw [6, 7] (fun r i wr => r = .int .i64 0 ∧ i = .int .i64 0 ∧ wr = w2) (fun _ _ _ => 0)
    case atStart => exact ⟨rfl, rfl, rfl⟩
    case round =>
      obtain ⟨rfl, rfl, rfl⟩ := hrel
      go_wp2
      go_ret
      exact ⟨by rw [hE.out]; rfl, hq2⟩
  | true =>
    have hS := hid (sum_rights (os := os) ht)
    obtain ⟨m, hm⟩ : ∃ m, (wayOf ns n).length = m + 1 := by
      obtain ⟨j, rfl, hj⟩ := there_yes ht
      exact ⟨_, by rw [way_yes hw hj]; simp; rfl⟩
    have HL := way_len hw n
    have HN := h.ln
    have HG := hid h
    have HIA := hid (fun k (a : k < (idxOf ns n).length) (b : k < (wayOf ns n).length) => idx_at a b)
    have HM := hid (way_mem hw0 n)
    have hlen := hid (show (idxOf ns n).length = m + 1 by rw [idx_len]; exact hm)
    have hlw := hid hm
    have hm80 : m + 1 ≤ 80 := by omega
    go_enter Tryz.func128, Tryz.ntmps128
    go_wp2_with (go_at_call 130; refine (nway_any hw _ _ _ (Nat.lt_succ_self _) h).mono ?_; rintro e w2 ⟨v2, rfl, hr2, hq2, _⟩; obtain ⟨g2, cap2, rfl⟩ := lies_shape hr2 (by have := hlen.out; omega); rw [hlen.out])
    have HR := hid hr2
    have HQ := hid hq2
    clear hr2 hq2 h hw hw0 hm HL
    generalize wayOf ns n = ws at *
    generalize idxOf ns n = is at *
    go_loopw [6, 7] (fun r i wr => ∃ k : Nat, k ≤ 4 ∧ i = .int .i64 k ∧ r = .int .i64 (sumTo os ws k : Nat) ∧ Quiet w2 wr) (fun _ i _ => 4 - (intOf i).toNat)
    case atStart => exact ⟨0, Nat.zero_le _, rfl, rfl, Kp.refl _ _⟩
    case round =>
      obtain ⟨k, hk, rfl, rfl, hq⟩ := hrel
      by_cases hk4 : k < 4
      · have hd4 : decide ((k : Int) < 4) = true := by simp; omega
        have hs15 := sum_le os ws k hk
        have Hq := hid hq
        clear hq
        go_wp2
        go_loopw [8, 9] (fun a i wz => ∃ j : Nat, j ≤ m + 1 ∧ i = .int .i64 j ∧ a = .bool ((ws.take j).all (bitOk os k)) ∧ Quiet w2 wz) (fun _ i _ => m + 1 - (intOf i).toNat)
        case atStart => exact ⟨0, Nat.zero_le _, rfl, rfl, Hq.out⟩
        case round =>
          obtain ⟨j, hj, rfl, rfl, hq⟩ := hrel
          by_cases hjm : j < m + 1
          · have hjw : j < ws.length := by rw [hlw.out]; exact hjm
            have hr := hq.row HR.out (fun _ _ e => e)
            have cj := ints_cell hr j (by rw [hlen.out]; exact hjm)
            obtain ⟨i, ei, hi', en⟩ := HIA.out j (by rw [hlen.out]; exact hjm) hjw
            rw [ei] at cj
            have hg := HG.out.quiet (HQ.out.trans hq)
            have c0 := hg.cell0
            have hrn := hg.rn
            obtain ⟨gn, capn, hvn⟩ := lies_shape hrn (by omega)
            subst hvn
            obtain ⟨d0, d1, d2, d3, d4, d5⟩ := nd_cells' hrn i hi'
            rw [en] at d0 d1 d2 d3 d4 d5
            obtain ⟨kk, hok⟩ := HM.out ws[j] (List.getElem_mem hjw)
            have hsn := hid (all_snoc os k ws j hjw)
            have hjj : (j : Int) < (m : Int) + 1 := by omega
            have hii : (i : Int) < (ns.length : Int) := by omega
            obtain ⟨q, hq0⟩ : ∃ q : Nat, ws[j].rights = q := ⟨ws[j].rights.toNat, by have := hok.r0; omega⟩
            have hq15 : q ≤ 15 := by have := hok.r1; omega
            have hg0 := hok.g0
            have hq1 := var_q hq (.cells ws[j].cells.toArray 111)
            have hgv := HG.out.quiet (HQ.out.trans hq1)
            clear hr hrn hg hok ei en
            generalize ws[j] = x at *
            obtain ⟨xp, xg, xr, xc, xl, xf⟩ := x
            simp only [Nd.cells] at *
            subst hq0
            have Hq1 := hid hq1
            have qz : Quiet wr (wr.alloc (.cells #[.int .i64 0, .int .i64 0, .int .i64 0, .int .i64 0, .int .i64 0, .int .i64 0] 111)) := Kp.alloc _ _
            have cj' := qz.cell cj (fun e => e)
            have c0' := qz.cell c0 (fun e => e)
            have d0' := qz.cell d0 (fun e => e)
            have d1' := qz.cell d1 (fun e => e)
            have d2' := qz.cell d2 (fun e => e)
            have d3' := qz.cell d3 (fun e => e)
            have d4' := qz.cell d4 (fun e => e)
            have d5' := qz.cell d5 (fun e => e)
            clear hq hq1 qz
            cases hA : (ws.take j).all (bitOk os k) with
            | false =>
              rw [hA] at hsn
              go_wp2
              go_region
              go_wp2
              exact ⟨⟨j + 1, by omega, by go_num, by rw [hsn.out]; rfl, Hq1.out⟩, by simp [intOf]; omega⟩
            | true =>
              rw [hA] at hsn
              cases hT : q.testBit k with
              | false =>
                go_wp2
                go_region
                go_wp2_with (go_at_call 127; refine (bit_any q k hq15 hk4 _).mono ?_; rintro e w' ⟨rfl, rfl⟩; rw [hT])
                exact ⟨⟨j + 1, by omega, by go_num, by rw [hsn.out]; simp [hT], Hq1.out⟩, by simp [intOf]; omega⟩
              | true =>
                by_cases hgate : xg = -1
                · subst hgate
                  go_wp2
                  go_region
                  go_wp2_with (go_at_call 127; refine (bit_any q k hq15 hk4 _).mono ?_; rintro e w' ⟨rfl, rfl⟩; rw [hT])
                  exact ⟨⟨j + 1, by omega, by go_num, by rw [hsn.out]; simp [passB, hT], Hq1.out⟩, by simp [intOf]; omega⟩
                · have hge : 0 ≤ xg := by
                    rcases hg0 with e | e
                    · exact absurd e hgate
                    · simp [thereB] at e; omega
                  have hgd : decide (xg < 0) = false := by simp; omega
                  cases ho : openB os xg with
                  | false =>
                    go_wp2
                    go_region
                    go_wp2_with (first | (go_at_call 127; refine (bit_any q k hq15 hk4 _).mono ?_; rintro e w' ⟨rfl, rfl⟩; rw [hT]) | (go_at_call 140; refine (nopen_any hgv _).mono ?_; rintro e w' ⟨rfl, rfl⟩; rw [ho]))
                    exact ⟨⟨j + 1, by omega, by go_num, by rw [hsn.out]; simp [passB, hT, ho, hgate], Hq1.out⟩, by simp [intOf]; omega⟩
                  | true =>
                    go_wp2
                    go_region
                    go_wp2_with (first | (go_at_call 127; refine (bit_any q k hq15 hk4 _).mono ?_; rintro e w' ⟨rfl, rfl⟩; rw [hT]) | (go_at_call 140; refine (nopen_any hgv _).mono ?_; rintro e w' ⟨rfl, rfl⟩; rw [ho]))
                    exact ⟨⟨j + 1, by omega, by go_num, by rw [hsn.out]; simp [passB, hT, ho], Hq1.out⟩, by simp [intOf]; omega⟩
          · have hje : j = ws.length := by rw [hlw.out]; omega
            have htk : (ws.take j) = ws := by rw [hje]; exact List.take_length
            rw [htk]
            have hsu := hid (show sumTo os ws (k + 1) = sumTo os ws k + if ws.all (bitOk os k) then 2 ^ k else 0 from rfl)
            clear htk hje
            have Hq2 := hid hq
            clear hq
            cases hA : ws.all (bitOk os k) with
            | false =>
              rw [hA] at hsu
              go_wp2
              exact ⟨⟨k + 1, by omega, by go_num, by rw [hsu.out]; simp, Hq2.out⟩, by simp [intOf]; omega⟩
            | true =>
              rw [hA] at hsu
              have hsv := hid (show sumTo os ws (k + 1) = sumTo os ws k + 2 ^ k by rw [hsu.out, if_pos rfl])
              clear hsu
              generalize hs1 : sumTo os ws k = s1 at *
              clear hs1
              obtain rfl | rfl | rfl | rfl : k = 0 ∨ k = 1 ∨ k = 2 ∨ k = 3 := by omega
              · go_wp2
                exact ⟨⟨1, by decide, by go_num, by rw [show sumTo os ws 1 = s1 + 1 from hsv.out]; simp, Hq2.out⟩, by simp [intOf]⟩
              · go_wp2
                exact ⟨⟨2, by decide, by go_num, by rw [show sumTo os ws 2 = s1 + 2 from hsv.out]; simp, Hq2.out⟩, by simp [intOf]⟩
              · go_wp2
                exact ⟨⟨3, by decide, by go_num, by rw [show sumTo os ws 3 = s1 + 4 from hsv.out]; simp, Hq2.out⟩, by simp [intOf]⟩
              · go_wp2
                exact ⟨⟨4, by decide, by go_num, by rw [show sumTo os ws 4 = s1 + 8 from hsv.out]; simp, Hq2.out⟩, by simp [intOf]⟩
      · have hke : k = 4 := by omega
        subst hke
        rw [hS.out]
        have Hq := hid hq
        clear hq
        go_wp2
        go_ret
        exact ⟨rfl, HQ.out.trans Hq.out⟩
end
end Go.Proofs.YtcgjjkaifklnnaaGreat.Gr
