/- The contracts of Target, Gates, Nodes, and of the document's SameInts, SameNodes. The contracts of Nodes, and of the document's SameInts and SameNodes. Plain mathematics of the document's net: the numbers of those on a way, and rights bit by bit. The contracts of the document's net that only look: Bit, IsOpen, Way. A row of numbers. The contract of the document's Rights. -/
import Derived.Test.YtcgjjkaifklnnaaUG1
import Derived.Laws.ResultCell
import Derived.Test.YtcgjjkaifklnnaaUG0
import Derived.BigQuiet
import Derived.Deep.RegionHeld3
namespace Go.Proofs.Ytcgjjkaifklnnaa.Gr
open Go.ChangeShapes Go.WideShapes Go.ChangeAt Go.RowKit
section
variable {B : Nat} {w : World} {b : Nat} {vn vo : Value} {ns : List Nd} {os : List Bool}
theorem target_no {n : Int} (h : thereB ns.length n = false) : targetOf ns n = nd0 := by simp [targetOf, way_no h]
theorem target_at {n : Int} (h : (wayOf ns n).length - 1 < (wayOf ns n).length) : targetOf ns n = (wayOf ns n)[(wayOf ns n).length - 1] := by
  unfold targetOf
  rw [List.getLastD_eq_getLast?, List.getLast?_eq_getElem?, List.getElem?_eq_getElem h]; rfl
theorem six {w : World} {g : Nat} {a0 a1 a2 a3 a4 a5 : Value} {t : TypeId} (h : w.heap[g]? = some (.cells #[a0, a1, a2, a3, a4, a5] t (0, 0))) :
    w.cell? ⟨g, 0, none⟩ = some a0 ∧ w.cell? ⟨g, 1, none⟩ = some a1 ∧ w.cell? ⟨g, 2, none⟩ = some a2 ∧ w.cell? ⟨g, 3, none⟩ = some a3 ∧ w.cell? ⟨g, 4, none⟩ = some a4 ∧ w.cell? ⟨g, 5, none⟩ = some a5 := by
  simp [World.cell?, h]
theorem sixf {w : World} {g : Nat} {a0 a1 a2 a3 a4 a5 : Value} {t : TypeId} (h : w.heap[g]? = some (.cells #[a0, a1, a2, a3, a4, a5] t (0, 0))) :
    w.frozen? ⟨g, 0, none⟩ = false ∧ w.frozen? ⟨g, 1, none⟩ = false ∧ w.frozen? ⟨g, 2, none⟩ = false ∧ w.frozen? ⟨g, 3, none⟩ = false ∧ w.frozen? ⟨g, 4, none⟩ = false ∧ w.frozen? ⟨g, 5, none⟩ = false :=
  ⟨frozen_of_row w g 0 _ t h, frozen_of_row w g 1 _ t h, frozen_of_row w g 2 _ t h, frozen_of_row w g 3 _ t h, frozen_of_row w g 4 _ t h, frozen_of_row w g 5 _ t h⟩
theorem set_q {w w2 : World} (hq : Quiet w w2) (j : Nat) (u : Value) : Quiet w (w2.setCell ⟨w.heap.size, j, none⟩ u) := hq.fresh (Kp.setCell _ _ _ (Nat.le_refl w.heap.size))
theorem six_q {w w2 : World} (hq : Quiet w w2) (x0 x1 x2 x3 x4 x5 : Value) : Quiet w ((((((w2.setCell ⟨w.heap.size, 0, none⟩ x0).setCell ⟨w.heap.size, 1, none⟩ x1).setCell ⟨w.heap.size, 2, none⟩ x2).setCell ⟨w.heap.size, 3, none⟩ x3).setCell ⟨w.heap.size, 4, none⟩ x4).setCell ⟨w.heap.size, 5, none⟩ x5) :=
  set_q (set_q (set_q (set_q (set_q (set_q hq 0 x0) 1 x1) 2 x2) 3 x3) 4 x4) 5 x5
theorem heap_two (w : World) (o1 o2 : Obj) : ((w.alloc o1).alloc o2).heap[w.heap.size + 1]? = some o2 := by
  have := heap_alloc_new (w.alloc o1) o2
  rw [show (w.alloc o1).heap.size = w.heap.size + 1 by simp] at this
  exact this
theorem news_from {w : World} {x : Nat} {l : List Value} {t : TypeId} (h : w.heap[x]? = some (.cells l.toArray t (0, 0))) : ∀ j u, l[j]? = some u → w.cell? ((⟨x, 0, none⟩ : Addr).add j) = some u := by
  intro j u hu
  rw [Addr.add_lit, cell_of_row _ _ _ _ t (0, 0) h]
  simpa using hu
set_option maxRecDepth 8000 in
set_option maxHeartbeats 2000000 in
theorem target_any (h : GS 69 B w b vn vo ns os) (hw : Wf ns os.length) (n : Int) :
    Calls Try.prog 87 #[.pointer (some ⟨b, 0, none⟩), .int .i64 n] w fun e w' => e = .returned (.tuple #[(targetOf ns n).agg, .bool (thereB ns.length n)]) ∧ Quiet w w' := by
  have q1 : Quiet w (w.alloc (.cells nd0.cells.toArray 145)) := Kp.alloc w _
  have h1 := h.quiet q1
  have b1 := heap_alloc_new w (.cells nd0.cells.toArray 145)
  have HL := way_len hw n
  have HN := h.ln
  have hs1 := hid (show (w.alloc (.cells nd0.cells.toArray 145)).heap.size = w.heap.size + 1 by simp)
  simp only [Nd.cells, nd0] at q1 h1 b1 hs1
  cases ht : thereB ns.length n with
  | false =>
    have hE := hid (target_no ht)
    have hlen := hid (way_no ht)
    clear h
    go_enter Try.func87, Try.ntmps87
    go_wp2_with (go_at_call 88; refine (way_any h1 hw _).mono ?_; rintro e w2 ⟨v2, rfl, hr2, hq2⟩; rw [hlen.out] at hr2; obtain ⟨a2, cap2, rfl⟩ := owns_shape hr2; have bb := (hq2.block _ (lt_of_block b1) id).trans b1; obtain ⟨d0, d1, d2, d3, d4, d5⟩ := six bb; obtain ⟨f0, f1, f2, f3, f4, f5⟩ := sixf bb; clear b1 bb)
    refine bodyPost_ret (v := .tuple #[.agg #[.int .i64 0, .int .i64 0, .int .i64 0, .int .i64 0, .int .i64 0, .int .i64 0], .bool false]) (by rw [results_cell_tmp rfl]; simp [go_sem, d0, d1, d2, d3, d4, d5]) rfl ⟨?_, ?_⟩
    · rw [hE.out]; rfl
    · exact six_q (q1.trans hq2) _ _ _ _ _ _
  | true =>
    obtain ⟨m, hm⟩ : ∃ m, (wayOf ns n).length = m + 1 := by
      obtain ⟨j, rfl, hj⟩ := there_yes ht
      exact ⟨_, by rw [way_yes hw hj]; simp; rfl⟩
    have hmw : m < (wayOf ns n).length := by omega
    have hE := hid (show targetOf ns n = (wayOf ns n)[m] by rw [target_at (by omega)]; congr 1; omega)
    have hlen := hid hm
    clear h
    go_enter Try.func87, Try.ntmps87
    go_wp2_with (go_at_call 88; refine (way_any h1 hw _).mono ?_; rintro e w2 ⟨v2, rfl, hr2, hq2⟩; obtain ⟨g2, cap2, rfl⟩ := lies_shape hr2 (by omega); obtain ⟨y0, y1, y2, y3, y4, y5⟩ := nd_cells' hr2 m hmw; rw [hlen.out]; have bb := (hq2.block _ (lt_of_block b1) id).trans b1; obtain ⟨d0, d1, d2, d3, d4, d5⟩ := six bb; obtain ⟨f0, f1, f2, f3, f4, f5⟩ := sixf bb; have Hq2 := hid hq2; generalize (wayOf ns n)[m] = x at *; clear b1 bb hr2 hq2)
    refine bodyPost_ret (v := .tuple #[x.agg, .bool true]) (by rw [results_cell_tmp rfl]; simp [go_sem, Nd.agg, d0, d1, d2, d3, d4, d5]) rfl ⟨?_, ?_⟩
    · rw [hE.out]
    · exact six_q (q1.trans Hq2.out) _ _ _ _ _ _
def gatesTo (ws : List Nd) (k : Nat) : List Int := gatesW (ws.take k)
theorem gates_snoc_no (ws : List Nd) (x : Nd) (h : x.gate = -1) : gatesW (ws ++ [x]) = gatesW ws := by simp [gatesW, h]
theorem gates_snoc_yes (ws : List Nd) (x : Nd) (h : x.gate ≠ -1) : gatesW (ws ++ [x]) = gatesW ws ++ [x.gate] := by simp [gatesW, h]
theorem gates_len (ws : List Nd) : (gatesW ws).length ≤ ws.length := by
  unfold gatesW
  exact Nat.le_trans (List.length_filter_le _ _) (by simp)
theorem gates_step {w wr w1 : World} {o : Obj} {acc : List Int} {x : Int} {v : Value} {g cap : Nat} (hq : Quiet w wr) (hr : wr.ownsRow w.heap.size 3 1 v acc.length (ints acc)) (hg : (wr.alloc o).grownBy w1 v.ownBlock) (h1 : w1.ownsRow w.heap.size 3 1 (.slice (some ⟨g, 0, none⟩) (acc.length + 1) cap) (acc.length + 1) (ints acc ++ [.int .i64 x])) :
    w1.ownsRow w.heap.size 3 1 (.slice (some ⟨g, 0, none⟩) (acc.length + 1) cap) (acc ++ [x]).length (ints (acc ++ [x])) ∧ Quiet w w1 := by
  refine ⟨?_, grown_quiet hq hr hg⟩
  simpa [ints] using h1
set_option maxRecDepth 8000 in
set_option maxHeartbeats 2000000 in
theorem gates_any (h : GS 69 B w b vn vo ns os) (hw : Wf ns os.length) (n : Int) :
    Calls Try.prog 79 #[.pointer (some ⟨b, 0, none⟩), .int .i64 n] w fun e w' => ∃ v', e = .returned v' ∧ w'.ownsRow w.heap.size 3 1 v' (gatesOf ns n).length (ints (gatesOf ns n)) ∧ Quiet w w' := by
  obtain ⟨i0, hi, hz0, hz1, hz2⟩ := info_parts Try.infoI
  have HL := way_len hw n
  have HN := h.ln
  have hE := hid (show gatesOf ns n = gatesW (wayOf ns n) from rfl)
  go_enter Try.func79, Try.ntmps79
  go_wp2_with (go_at_call 88; refine (way_any h hw _).mono ?_; rintro e w2 ⟨v2, rfl, hr2, hq2⟩; obtain ⟨a2, cap2, rfl⟩ := owns_shape hr2)
  have HR := hid hr2
  have HQ := hid hq2
  clear hr2 hq2 h hw
  generalize wayOf ns n = ws at *
  go_loopw [5, 12] (fun v i wr => ∃ k : Nat, k ≤ ws.length ∧ i = .int .i64 k ∧ wr.ownsRow w2.heap.size 3 1 v (gatesTo ws k).length (ints (gatesTo ws k)) ∧ Quiet w2 wr) (fun _ i _ => ws.length - (intOf i).toNat)
  case atStart => exact ⟨0, Nat.zero_le _, rfl, World.ownsRow_nil _ _ _ _, Kp.refl _ _⟩
  case round =>
    obtain ⟨k, hk, rfl, hrow, hq⟩ := hrel
    by_cases hlt : k < ws.length
    · have hr := hq.row HR.out (fun _ _ e => e)
      obtain ⟨g, cap, hv⟩ := lies_shape hr (by omega)
      simp only [Value.slice.injEq, true_and] at hv
      obtain ⟨rfl, rfl⟩ := hv
      obtain ⟨d0, d1, d2, d3, d4, d5⟩ := nd_cells' hr k hlt
      obtain ⟨av, cv, rfl⟩ := owns_shape hrow
      have hal : (gatesTo ws k).length ≤ 80 := by have := gates_len (ws.take k); simp [gatesTo] at this ⊢; omega
      have ha := hid (show gatesTo ws (k + 1) = gatesW (ws.take k ++ [ws[k]]) by unfold gatesTo; rw [take_snoc ws k hlt])
      have hq1 : Quiet w2 (wr.alloc (.cells ws[k].cells.toArray 145)) := hq.trans (Kp.alloc _ _)
      have hrow1 := hrow.alloc (.cells ws[k].cells.toArray 145)
      clear hr hrow hq
      generalize ws[k] = x at *
      obtain ⟨xp, xg, xr, xc, xl, xf⟩ := x
      simp only [Nd.cells] at *
      by_cases hgate : xg = -1
      · subst hgate
        have HS := hid (And.intro hrow1 hq1)
        have hb := hid (ha.out.trans (gates_snoc_no (ws.take k) ⟨xp, -1, xr, xc, xl, xf⟩ rfl))
        clear hrow1 hq1 ha
        go_wp2
        exact ⟨⟨k + 1, by omega, by go_num, by rw [hb.out]; exact HS.out.1, HS.out.2⟩, by simp [intOf]; omega⟩
      · have hgd : decide (xg = -1) = false := by simpa using hgate
        have hb := hid (ha.out.trans (gates_snoc_yes (ws.take k) ⟨xp, xg, xr, xc, xl, xf⟩ hgate))
        clear ha
        go_wp2_with (at_builtin; refine wpList_append_lies _ rfl (.tmp 19) (.tmp 22) 148 rfl w2.heap.size 3 i0 _ 1 8 Try.undI hi hz0 hz1 hz2 rfl (by decide) _ (gatesTo ws k).length (ints (gatesTo ws k)) rfl (hrow1.alloc _) ⟨wr.heap.size + 1, 0, none⟩ 1 1 [.int .i64 xg] rfl rfl (news_from (t := 3) (heap_two wr _ _)) (by simp [Value.oneCell']) (by decide) (by unfold maxLen; omega) (by omega) (by have := hq1.size; simp at this ⊢; omega) (wr.heap.size + 2) (by simp) ?_; intro g2 cap2 w1 hr1 hg1 hat hlt1; have hS := hid (gates_step (x := xg) hq1 hrow1 hg1 hr1); clear hr1 hg1 hat hlt1)
        exact ⟨⟨k + 1, by omega, by go_num, by rw [hb.out]; exact hS.out.1, hS.out.2⟩, by simp [intOf]; omega⟩
    · have hke : k = ws.length := by omega
      subst hke
      have hg := hid (show gatesTo ws ws.length = gatesOf ns n by rw [hE.out]; simp [gatesTo])
      obtain ⟨av, cv, rfl⟩ := owns_shape hrow
      go_wp2
      go_ret
      rw [← hg.out]
      exact ⟨_, rfl, owns_mono hrow HQ.out.size, HQ.out.trans hq⟩
end
end Go.Proofs.Ytcgjjkaifklnnaa.Gr
namespace Go.Proofs.Ytcgjjkaifklnnaa.Gr
open Go.ChangeShapes Go.WideShapes Go.ChangeAt Go.RowKit
theorem equalInN (d : Nat) (a : Option Addr) (n c : Nat) (w : World) : (Op.equalIn (d + 1) 66 (.slice a n c) (.slice none 0 0)).run Try.prog w = .ok a.isNone w := by
  cases a <;> simp [Op.equalIn, run_underlying Try.undN]
theorem eqlN (a : Option Addr) (n c : Nat) (w : World) : (binOp .eql 66 (.slice a n c) (.slice none 0 0)).run Try.prog w = .ok (.bool a.isNone) w := by
  simp only [binOp]
  simp [Op.equal, Op.maxDepth, equalInN 9999 a n c w]
theorem clone_done {w w1 : World} {o : Obj} {v' : Value} {n : Nat} {xs : List Value} (hr : w1.ownsRow w.heap.size 145 6 v' (0 + n) ([] ++ xs)) (hg : (w.alloc o).grownBy w1 (Value.slice (some ⟨w.heap.size, 0, none⟩) 0 0).ownBlock) :
    w1.ownsRow w.heap.size 145 6 v' n xs ∧ Quiet w w1 := by
  refine ⟨by simpa using hr, hg.os, hg.tape, hg.output, Nat.le_trans (Kp.alloc (F := fun _ => False) w o).size hg.size, fun k hk _ => ?_⟩
  rw [hg.block k (by simp; omega) (by simp [Value.ownBlock]; omega)]
  exact Below.heap_alloc w o k hk
theorem src_cells {B : Nat} {w : World} {g n cap : Nat} {xs : List Value} (h : w.ownsRow B 145 6 (.slice (some ⟨g, 0, none⟩) n cap) n xs) (o : Obj) :
    ∀ j u, xs[j]? = some u → (w.alloc o).cell? ((⟨g, 0, none⟩ : Addr).add j) = some u := (h.alloc o).cells rfl
section
variable {B : Nat} {w : World} {b : Nat} {vn vo : Value} {ns : List Nd} {os : List Bool}
end
/-- Numbers in memory, wherever they begin. -/
def IntsAt (w : World) (ao : Option Addr) (l : List Int) : Prop := ∀ j (h : j < l.length), ∃ g o, ao = some ⟨g, o, none⟩ ∧ w.cell? ⟨g, o + j, none⟩ = some (.int .i64 l[j])
theorem IntsAt.quiet {w w' : World} {ao : Option Addr} {l : List Int} (h : IntsAt w ao l) (hq : Quiet w w') : IntsAt w' ao l := by
  intro j hj
  obtain ⟨g, o, e, c⟩ := h j hj
  exact ⟨g, o, e, hq.cell c (fun e => e)⟩
theorem ints_lie {w : World} {base : Nat} {ao : Option Addr} {l : List Int} {cap : Nat} (h : w.ownsRow base 3 1 (.slice ao l.length cap) l.length (ints l)) : IntsAt w ao l := by
  intro j hj
  obtain ⟨g, rfl, d⟩ := owns_at h (by omega)
  refine ⟨g, 0, rfl, ?_⟩
  rw [Nat.zero_add, d j (by omega)]
  simp [ints, hj]
theorem eqNode (a b c d e f a' b' c' d' e' f' : Int) (w : World) : (Op.equalIn 10000 145 (.agg #[.int .i64 a, .int .i64 b, .int .i64 c, .int .i64 d, .int .i64 e, .int .i64 f]) (.agg #[.int .i64 a', .int .i64 b', .int .i64 c', .int .i64 d', .int .i64 e', .int .i64 f'])).run Try.prog w = .ok (a == a' && b == b' && c == c' && d == d' && e == e' && f == f') w := by
  have hS : Try.prog.underlying 145 = some (.struct (Try.prog.fieldsOf 145)) := by kernel_rfl
  have hp : Try.prog.stoodInHeld 145 = false := by kernel_rfl
  rw [show (10000 : Nat) = 9999 + 1 from rfl, run_equalIn_agg w 9999 145 _ _ hS hp]
  simp only [Program.fieldsOf, Try.underlying145]
  go_simp
  by_cases h1 : a = a' <;> by_cases h2 : b = b' <;> by_cases h3 : c = c' <;> by_cases h4 : d = d' <;> by_cases h5 : e = e' <;> by_cases h6 : f = f' <;> simp [h1, h2, h3, h4, h5, h6]
end Go.Proofs.Ytcgjjkaifklnnaa.Gr
namespace Go.Proofs.Ytcgjjkaifklnnaa.Gr
open Go.ChangeShapes Go.WideShapes Go.ChangeAt Go.RowKit
def idxF (ns : List Nd) : Nat → Int → List Int
  | 0, _ => []
  | f + 1, n => if thereB ns.length n then n :: idxF ns f (ns.getD n.toNat nd0).parent else []
def idxOf (ns : List Nd) (n : Int) : List Int := idxF ns (n.toNat + 1) n
def ndAt (ns : List Nd) (i : Int) : Nd := ns.getD i.toNat nd0
theorem idxF_map (ns : List Nd) : ∀ (f : Nat) (n : Int), (idxF ns f n).map (ndAt ns) = wayF ns f n
  | 0, _ => rfl
  | f + 1, n => by
    simp only [idxF, wayF]
    split
    · rw [List.map_cons, idxF_map ns f]; rfl
    · rfl
theorem idx_map (ns : List Nd) (n : Int) : (idxOf ns n).map (ndAt ns) = wayOf ns n := idxF_map ns _ n
theorem idxF_mem (ns : List Nd) : ∀ (f : Nat) (n i : Int), i ∈ idxF ns f n → thereB ns.length i = true
  | 0, _, _, h => by simp [idxF] at h
  | f + 1, n, i, h => by
    simp only [idxF] at h
    split at h
    · rename_i ht
      rcases List.mem_cons.1 h with rfl | h
      · exact ht
      · exact idxF_mem ns f _ i h
    · simp at h
theorem idxF_no {ns : List Nd} {n : Int} (h : thereB ns.length n = false) (f : Nat) : idxF ns f n = [] := by
  cases f <;> simp [idxF, h]
theorem idx_no {ns : List Nd} {n : Int} (h : thereB ns.length n = false) : idxOf ns n = [] := idxF_no h _
theorem idxF_same {ns : List Nd} {g : Nat} (hw : Wf ns g) : ∀ f f' (n : Int), n.toNat < f → n.toNat < f' → idxF ns f n = idxF ns f' n := by
  intro f
  induction f with
  | zero => intro f' n h _; omega
  | succ f ih =>
    intro f' n h1 h2
    cases f' with
    | zero => omega
    | succ f' =>
      simp only [idxF]
      cases ht : thereB ns.length n with
      | false => simp
      | true =>
        obtain ⟨j, rfl, hj⟩ := there_yes ht
        simp only [Int.toNat_natCast, if_true] at h1 h2 ⊢
        have hk := hw j hj
        rw [getD_of hj]
        congr 1
        have p0 := hk.p0
        have p1 := hk.p1
        by_cases hp : ns[j].parent < 0
        · have e : thereB ns.length ns[j].parent = false := by simp [thereB]; omega
          rw [idxF_no e, idxF_no e]
        · exact ih f' _ (by omega) (by omega)
theorem idx_yes {ns : List Nd} {g : Nat} (hw : Wf ns g) {j : Nat} (hj : j < ns.length) : idxOf ns j = (j : Int) :: idxOf ns ns[j].parent := by
  have hk := hw j hj
  have p0 := hk.p0
  have p1 := hk.p1
  have e : idxOf ns j = (j : Int) :: idxF ns j ns[j].parent := by
    simp only [idxOf, idxF, there_nat hj, if_true, Int.toNat_natCast, getD_of hj]
  rw [e]
  congr 1
  by_cases hp : ns[j].parent < 0
  · have e : thereB ns.length ns[j].parent = false := by simp [thereB]; omega
    rw [idxF_no e, idx_no e]
  · exact idxF_same hw _ _ _ (by omega) (by omega)
theorem idx_len (ns : List Nd) (n : Int) : (idxOf ns n).length = (wayOf ns n).length := by rw [← idx_map]; simp
/-- The k-th on a way. -/
theorem idx_at {ns : List Nd} {n : Int} {k : Nat} (hk : k < (idxOf ns n).length) (hk' : k < (wayOf ns n).length) : ∃ i : Nat, (idxOf ns n)[k] = (i : Int) ∧ ∃ hi : i < ns.length, ns[i] = (wayOf ns n)[k] := by
  have hm := idxF_mem ns _ n _ (List.getElem_mem hk)
  obtain ⟨i, e, hi⟩ := there_yes hm
  refine ⟨i, e, hi, ?_⟩
  have : (wayOf ns n)[k] = ndAt ns (idxOf ns n)[k] := by
    have h1 : ((idxOf ns n).map (ndAt ns))[k]? = (wayOf ns n)[k]? := by rw [idx_map]
    rw [List.getElem?_map, List.getElem?_eq_getElem hk, List.getElem?_eq_getElem hk', Option.map_some] at h1
    exact (Option.some.inj h1).symm
  rw [this, e]
  simp [ndAt, hi]
/-- Bit by bit. -/
def bitOk (os : List Bool) (k : Nat) (x : Nd) : Bool := x.rights.toNat.testBit k && passB os x
def sumTo (os : List Bool) (ws : List Nd) : Nat → Nat
  | 0 => 0
  | k + 1 => sumTo os ws k + if ws.all (bitOk os k) then 2 ^ k else 0
theorem meet_bit (k : Nat) : ∀ (ws : List Nd) (r : Nat), (meetW r ws).testBit k = (r.testBit k && ws.all fun x => x.rights.toNat.testBit k)
  | [], r => by simp [meetW]
  | x :: ws, r => by
    show (meetW (r &&& x.rights.toNat) ws).testBit k = _
    rw [meet_bit k ws, Nat.testBit_and, List.all_cons, Bool.and_assoc]
theorem sum_small (M : Nat) (h : M ≤ 15) : (((0 + if M.testBit 0 then 2 ^ 0 else 0) + if M.testBit 1 then 2 ^ 1 else 0) + if M.testBit 2 then 2 ^ 2 else 0) + (if M.testBit 3 then 2 ^ 3 else 0) = M := by
  have H : ∀ r : Fin 16, (((0 + if r.val.testBit 0 then 2 ^ 0 else 0) + if r.val.testBit 1 then 2 ^ 1 else 0) + if r.val.testBit 2 then 2 ^ 2 else 0) + (if r.val.testBit 3 then 2 ^ 3 else 0) = r.val := by decide +kernel
  exact H ⟨M, by omega⟩
theorem all_bit (os : List Bool) (ws : List Nd) (k : Nat) (hk : k < 4) : ws.all (bitOk os k) = (if ws.all (passB os) then meetW 15 ws else 0).testBit k := by
  have h1 : ws.all (bitOk os k) = ((ws.all fun x => x.rights.toNat.testBit k) && ws.all (passB os)) := by
    induction ws with
    | nil => rfl
    | cons x ws ih => simp only [List.all_cons, ih, bitOk]; cases x.rights.toNat.testBit k <;> cases passB os x <;> simp
  have h15 : (15 : Nat).testBit k = true := by
    have : ∀ k : Fin 4, (15 : Nat).testBit k.val = true := by decide
    exact this ⟨k, hk⟩
  rw [h1]
  split
  · rename_i h; rw [h, meet_bit, h15]; simp
  · rename_i h
    have : ws.all (passB os) = false := by simpa using h
    rw [this]; simp
theorem sum_rights {ns : List Nd} {os : List Bool} {n : Int} (ht : thereB ns.length n = true) : sumTo os (wayOf ns n) 4 = rightsN ns os n := by
  have e : rightsN ns os n = if (wayOf ns n).all (passB os) then meetW 15 (wayOf ns n) else 0 := by simp [rightsN, ht]
  have hle : (if (wayOf ns n).all (passB os) then meetW 15 (wayOf ns n) else 0) ≤ 15 := by rw [← e]; exact rights_le _ _ _
  rw [e]
  show (((0 + if (wayOf ns n).all (bitOk os 0) then 2 ^ 0 else 0) + if (wayOf ns n).all (bitOk os 1) then 2 ^ 1 else 0) + if (wayOf ns n).all (bitOk os 2) then 2 ^ 2 else 0) + (if (wayOf ns n).all (bitOk os 3) then 2 ^ 3 else 0) = _
  rw [all_bit os _ 0 (by decide), all_bit os _ 1 (by decide), all_bit os _ 2 (by decide), all_bit os _ 3 (by decide)]
  exact sum_small _ hle
theorem sum_le (os : List Bool) (ws : List Nd) : ∀ k, k ≤ 4 → sumTo os ws k ≤ 15
  | 0, _ => by simp [sumTo]
  | 1, _ => by simp only [sumTo]; split <;> simp
  | 2, _ => by simp only [sumTo]; split <;> split <;> simp
  | 3, _ => by simp only [sumTo]; split <;> split <;> split <;> simp
  | 4, _ => by simp only [sumTo]; split <;> split <;> split <;> split <;> simp
end Go.Proofs.Ytcgjjkaifklnnaa.Gr
namespace Go.Proofs.Ytcgjjkaifklnnaa.Gr
open Go.ChangeShapes Go.WideShapes Go.ChangeAt Go.RowKit
theorem bit_small (q k : Nat) (hq : q ≤ 15) (hk : k < 4) : (bits .and .i64 ((q : Int) / 2 ^ k) 1 == 1) = q.testBit k := by
  have H : ∀ q : Fin 16, ∀ k : Fin 4, (bits .and .i64 ((q.val : Int) / 2 ^ k.val) 1 == 1) = q.val.testBit k.val := by decide +kernel
  exact H ⟨q, by omega⟩ ⟨k, hk⟩
section
variable {B : Nat} {w : World} {b : Nat} {vn vo : Value} {ns : List Nd} {os : List Bool}
theorem one_row (w : World) (x : Int) : (w.alloc (.cells #[.int .i64 x] 3)).ownsRow w.heap.size 3 1 (.slice (some ⟨w.heap.size, 0, none⟩) 1 1) 1 [.int .i64 x] :=
  ⟨by simp, .inr ⟨w.heap.size, 1, #[.int .i64 x], rfl, Nat.le_refl _, heap_alloc_new w _, Nat.le_refl _, by decide, by simp, by simp⟩⟩
theorem way_done {w w2 w1 : World} {o : Obj} {x : Int} {l : List Int} {g cap : Nat} (q2 : Quiet (w.alloc o) w2) (hr : w1.ownsRow w.heap.size 3 1 (.slice (some ⟨g, 0, none⟩) (1 + l.length) cap) (1 + l.length) ([.int .i64 x] ++ ints l)) (hg : w2.grownBy w1 (Value.slice (some ⟨w.heap.size, 0, none⟩) 1 1).ownBlock) :
    w1.ownsRow w.heap.size 3 1 (.slice (some ⟨g, 0, none⟩) (1 + l.length) cap) (x :: l).length (ints (x :: l)) ∧ Quiet w w1 := by
  refine ⟨?_, ((Kp.alloc w o).trans q2).fresh (Kp.grown hg fun k _ e => ?_)⟩
  · simpa [ints, Nat.add_comm] using hr
  · simp [Value.ownBlock] at e; omega
end
end Go.Proofs.Ytcgjjkaifklnnaa.Gr
namespace Go.Proofs.Ytcgjjkaifklnnaa.Gr
open Go.ChangeShapes Go.WideShapes Go.ChangeAt Go.RowKit
theorem ints_cell {w : World} {base g cap : Nat} {l : List Int} (h : w.ownsRow base 3 1 (.slice (some ⟨g, 0, none⟩) l.length cap) l.length (ints l)) (k : Nat) (hk : k < l.length) : w.cell? ⟨g, k, none⟩ = some (.int .i64 l[k]) := by
  obtain ⟨g', e, d⟩ := owns_at h (by omega)
  cases e
  rw [d k (by omega)]
  simp [ints, hk]
end Go.Proofs.Ytcgjjkaifklnnaa.Gr
namespace Go.Proofs.Ytcgjjkaifklnnaa.Gr
open Go.ChangeShapes Go.WideShapes Go.ChangeAt Go.RowKit
theorem all_snoc (os : List Bool) (k : Nat) (ws : List Nd) (j : Nat) (hj : j < ws.length) : (ws.take (j + 1)).all (bitOk os k) = ((ws.take j).all (bitOk os k) && (ws[j].rights.toNat.testBit k && passB os ws[j])) := by
  rw [take_snoc ws j hj, List.all_append]; simp [bitOk]
theorem var_q {w2 wr : World} (hq : Quiet w2 wr) (o : Obj) : Quiet w2 (wr.alloc o).drew := (hq.trans (Kp.alloc _ o)).trans (Kp.drew _)
section
variable {B : Nat} {w : World} {b : Nat} {vn vo : Value} {ns : List Nd} {os : List Bool}
end
end Go.Proofs.Ytcgjjkaifklnnaa.Gr
