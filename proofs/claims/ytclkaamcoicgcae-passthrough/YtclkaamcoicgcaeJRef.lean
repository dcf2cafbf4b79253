/- The contracts of the document's net that only look: Bit, IsOpen, Way. A row of numbers. -/
import Derived.Test.YtclkaamcoicgcaeGAddB
import Derived.Test.YtclkaamcoicgcaeJLook
import Derived.Test.YtclkaamcoicgcaeJPlain
import Derived.BigQuiet
import Derived.Deep.RegionHeld3
namespace Go.Proofs.Ytclkaamcoicgcae.Gr
open Go.ChangeShapes Go.WideShapes Go.ChangeAt Go.RowKit
theorem bit_small (q k : Nat) (hq : q ≤ 15) (hk : k < 4) : (bits .and .i64 ((q : Int) / 2 ^ k) 1 == 1) = q.testBit k := by
  have H : ∀ q : Fin 16, ∀ k : Fin 4, (bits .and .i64 ((q.val : Int) / 2 ^ k.val) 1 == 1) = q.val.testBit k.val := by decide +kernel
  exact H ⟨q, by omega⟩ ⟨k, hk⟩
theorem bit_any (q k : Nat) (hq : q ≤ 15) (hk : k < 4) (w : World) :
    Calls Try.prog 34 #[.int .i64 q, .int .i64 k] w fun e w' => e = .returned (.bool (q.testBit k)) ∧ w' = w := by
  have hE := hid (bit_small q k hq hk)
  go_enter Try.func34, Try.ntmps34
  go_wp2
  go_ret
  exact ⟨by rw [← hE.out]; simp, rfl⟩
section
variable {B : Nat} {w : World} {b : Nat} {vn vo : Value} {ns : List Nd} {os : List Bool}
theorem nopen_any (h : GS 45 B w b vn vo ns (os.map (! ·))) (k : Int) :
    Calls Try.prog 63 #[.pointer (some ⟨b, 0, none⟩), .int .i64 k] w fun e w' => e = .returned (.bool (openB os k)) ∧ w' = w := by
  have c1 := h.cell1
  have hlen : (os.map (! ·)).length = os.length := List.length_map _
  cases ht : thereB os.length k with
  | false =>
    have hE := hid (show openB os k = false by simp [openB, ht])
    go_enter Try.func63, Try.ntmps63
    go_wp2_with (go_at_call 68; refine (nhas_any h _).mono ?_; rintro e w' ⟨rfl, rfl⟩; rw [hlen, ht])
    go_ret
    exact ⟨by rw [hE.out]; rfl, rfl⟩
  | true =>
    have hE := hid (show openB os k = os.getD k.toNat false by simp [openB, ht])
    obtain ⟨j, rfl, hj⟩ := there_yes ht
    have hro := h.ro
    obtain ⟨g, cap, hv⟩ := lies_shape hro (by rw [hlen]; omega)
    subst hv
    obtain ⟨g', e, d⟩ := owns_at hro (by rw [hlen]; omega)
    cases e
    have cj := bool_at d j (by rw [hlen]; exact hj)
    have cj' : (os.map (! ·)).getD j false = ! os.getD j false := by simp [List.getD_eq_getElem?_getD, hj]
    rw [cj'] at cj
    rw [hlen] at c1
    have HC := hid hlen
    clear hro d cj'
    generalize hob : os.getD j false = ob at *
    go_enter Try.func63, Try.ntmps63
    go_wp2_with (go_at_call 68; refine (nhas_any h _).mono ?_; rintro e w' ⟨rfl, rfl⟩; rw [HC.out, ht])
    go_ret
    exact ⟨by rw [hE.out, Int.toNat_natCast, hob]; simp, rfl⟩
theorem one_row (w : World) (x : Int) : (w.alloc (.cells #[.int .i64 x] 3)).ownsRow w.heap.size 3 1 (.slice (some ⟨w.heap.size, 0, none⟩) 1 1) 1 [.int .i64 x] :=
  ⟨by simp, .inr ⟨w.heap.size, 1, #[.int .i64 x], rfl, Nat.le_refl _, heap_alloc_new w _, Nat.le_refl _, by decide, by simp, by simp⟩⟩
theorem way_done {w w2 w1 : World} {o : Obj} {x : Int} {l : List Int} {g cap : Nat} (q2 : Quiet (w.alloc o) w2) (hr : w1.ownsRow w.heap.size 3 1 (.slice (some ⟨g, 0, none⟩) (1 + l.length) cap) (1 + l.length) ([.int .i64 x] ++ ints l)) (hg : w2.grownBy w1 (Value.slice (some ⟨w.heap.size, 0, none⟩) 1 1).ownBlock) :
    w1.ownsRow w.heap.size 3 1 (.slice (some ⟨g, 0, none⟩) (1 + l.length) cap) (x :: l).length (ints (x :: l)) ∧ Quiet w w1 := by
  refine ⟨?_, ((Kp.alloc w o).trans q2).fresh (Kp.grown hg fun k _ e => ?_)⟩
  · simpa [ints, Nat.add_comm] using hr
  · simp [Value.ownBlock] at e; omega
set_option maxRecDepth 8000 in
set_option maxHeartbeats 2000000 in
theorem nway_any (hw : Wf ns os.length) : ∀ (f : Nat) (n : Int) (w : World), (n + 1).toNat < f → GS 45 B w b vn vo ns os →
    Calls Try.prog 62 #[.pointer (some ⟨b, 0, none⟩), .int .i64 n] w fun e w' => ∃ v', e = .returned v' ∧ w'.ownsRow w.heap.size 3 1 v' (idxOf ns n).length (ints (idxOf ns n)) ∧ Quiet w w' ∧ (idxOf ns n = [] → v' = .slice none 0 0) := by
  obtain ⟨i0, hi, hz0, hz1, hz2⟩ := info_parts Try.infoI
  intro f
  induction f with
  | zero => intro n w h _; omega
  | succ f ih =>
    intro n w hf h
    have c0 := h.cell0
    have hN := h.ln
    cases ht : thereB ns.length n with
    | false =>
      have hE := hid (idx_no ht)
      obtain ⟨ao, cap, hv⟩ := owns_shape h.rn
      subst hv
      by_cases h0 : n < 0
      · have hd : decide (n < 0) = true := by simpa using h0
        clear h
        go_enter Try.func62, Try.ntmps62
        go_wp2
        go_ret
        rw [hE.out]
        exact ⟨_, rfl, World.ownsRow_nil _ _ _ _, Kp.refl _ _, fun _ => rfl⟩
      · have hd : decide (n < 0) = false := by simpa using h0
        have hd2 : (ns.length : Int) ≤ n := by have := there_no ht; omega
        clear h
        go_enter Try.func62, Try.ntmps62
        go_wp2
        go_ret
        rw [hE.out]
        exact ⟨_, rfl, World.ownsRow_nil _ _ _ _, Kp.refl _ _, fun _ => rfl⟩
    | true =>
      obtain ⟨k, rfl, hk⟩ := there_yes ht
      have q1 : Quiet w (w.alloc (.cells #[.int .i64 k] 3)) := Kp.alloc _ _
      have h1 := h.quiet q1
      have c1 := h1.cell0
      have hrn := h1.rn
      obtain ⟨g, cap, hv⟩ := lies_shape hrn (by omega)
      subst hv
      obtain ⟨d0, d1, d2, d3, d4, d5⟩ := nd_cells' hrn k hk
      have hE := hid (idx_yes hw hk)
      have hP := hw k hk
      have hb0 : decide ((k : Int) < 0) = false := by simp
      have hb1 : decide ((ns.length : Int) ≤ (k : Int)) = false := by simp; omega
      have one := one_row w k
      have hlw : (idxOf ns ns[k].parent).length ≤ 80 := by rw [idx_len]; have := way_len hw ns[k].parent; omega
      have p0 := hP.p0
      have p1 := hP.p1
      have HIH := hid (ih ns[k].parent (w.alloc (.cells #[.int .i64 k] 3)) (by simp at hf; omega) h1)
      clear hrn h ih hP
      by_cases hl0 : idxOf ns ns[k].parent = []
      · go_enter Try.func62, Try.ntmps62
        go_wp2_with (go_at_call 62; refine HIH.out.mono ?_; rintro e w2 ⟨v2, rfl, r2, q2, e2⟩; obtain rfl := e2 hl0)
        go_ret
        rw [hE.out, hl0]
        exact ⟨_, rfl, q2.row one (fun _ _ e => e), q1.trans q2, fun e => by simp at e⟩
      · have hpos : 0 < (idxOf ns ns[k].parent).length := by
          rcases Nat.eq_zero_or_pos (idxOf ns ns[k].parent).length with e | e
          · exact absurd (List.eq_nil_of_length_eq_zero e) hl0
          · exact e
        generalize idxOf ns ns[k].parent = l at *
        go_enter Try.func62, Try.ntmps62
        go_wp2_with (first
          | (go_at_call 62; refine HIH.out.mono ?_; rintro e w2 ⟨v2, rfl, r2, q2, e2⟩; obtain ⟨g2, cap2, rfl⟩ := lies_shape r2 hpos; clear e2)
          | (at_builtin; refine wpList_append_lies _ rfl (.tmp 17) (.tmp 27) 26 rfl w.heap.size 3 i0 _ 1 8 Try.undI hi hz0 hz1 hz2 rfl (by decide) (.slice (some ⟨w.heap.size, 0, none⟩) 1 1) 1 [.int .i64 k] rfl (q2.row one (fun _ _ e => e)) ⟨g2, 0, none⟩ l.length cap2 (ints l) rfl (by simp [ints]) (r2.cells rfl) (ints_one l) hpos (by unfold maxLen; omega) (by omega) (by have := q2.size; simp at this; omega) _ rfl ?_; intro g3 cap3 w1 hr1 hg1 hat hlt; have hD := hid (way_done q2 hr1 hg1); clear hr1 hg1 hat hlt))
        go_ret
        rw [hE.out]
        exact ⟨_, rfl, hD.out.1, hD.out.2, fun e => by simp at e⟩
end
end Go.Proofs.Ytclkaamcoicgcae.Gr
namespace Go.Proofs.Ytclkaamcoicgcae.Gr
open Go.ChangeShapes Go.WideShapes Go.ChangeAt Go.RowKit
theorem ints_cell {w : World} {base g cap : Nat} {l : List Int} (h : w.ownsRow base 3 1 (.slice (some ⟨g, 0, none⟩) l.length cap) l.length (ints l)) (k : Nat) (hk : k < l.length) : w.cell? ⟨g, k, none⟩ = some (.int .i64 l[k]) := by
  obtain ⟨g', e, d⟩ := owns_at h (by omega)
  cases e
  rw [d k (by omega)]
  simp [ints, hk]
end Go.Proofs.Ytclkaamcoicgcae.Gr
