/- The contracts of Nodes, and of the document's SameInts and SameNodes. -/
import Derived.Test.YthplldgdgmhdlaaTell
namespace Go.Proofs.Ythplldgdgmhdlaa
open Go.ChangeShapes Go.WideShapes Go.ChangeAt Go.RowKit
theorem equalInN (d : Nat) (a : Option Addr) (n c : Nat) (w : World) : (Op.equalIn (d + 1) 55 (.slice a n c) (.slice none 0 0)).run Try.prog w = .ok a.isNone w := by
  cases a <;> simp [Op.equalIn, run_underlying Try.undN]
theorem eqlN (a : Option Addr) (n c : Nat) (w : World) : (binOp .eql 55 (.slice a n c) (.slice none 0 0)).run Try.prog w = .ok (.bool a.isNone) w := by
  simp only [binOp]
  simp [Op.equal, Op.maxDepth, equalInN 9999 a n c w]
theorem clone_done {w w1 : World} {o : Obj} {v' : Value} {n : Nat} {xs : List Value} (hr : w1.ownsRow w.heap.size 65 6 v' (0 + n) ([] ++ xs)) (hg : (w.alloc o).grownBy w1 (Value.slice (some ⟨w.heap.size, 0, none⟩) 0 0).ownBlock) :
    w1.ownsRow w.heap.size 65 6 v' n xs ∧ Quiet w w1 := by
  refine ⟨by simpa using hr, hg.os, hg.tape, hg.output, Nat.le_trans (Kp.alloc (F := fun _ => False) w o).size hg.size, fun k hk _ => ?_⟩
  rw [hg.block k (by simp; omega) (by simp [Value.ownBlock]; omega)]
  exact Below.heap_alloc w o k hk
theorem src_cells {B : Nat} {w : World} {g n cap : Nat} {xs : List Value} (h : w.ownsRow B 65 6 (.slice (some ⟨g, 0, none⟩) n cap) n xs) (o : Obj) :
    ∀ j u, xs[j]? = some u → (w.alloc o).cell? ((⟨g, 0, none⟩ : Addr).add j) = some u := (h.alloc o).cells rfl
set_option maxHeartbeats 1000000 in
theorem clone_any (B : Nat) (w : World) (v : Value) (ns : List Nd) (h : w.ownsRow B 65 6 v ns.length (ndCells ns)) (hn : ns.length ≤ 80) :
    Calls Try.prog 56 #[v] w fun e w' => ∃ v', e = .returned v' ∧ w'.ownsRow w.heap.size 65 6 v' ns.length (ndCells ns) ∧ Quiet w w' := by
  obtain ⟨i0, hi, hz0, hz1, hz2⟩ := info_parts Try.infoN
  have q := eqlN
  rcases h.2 with ⟨rfl, h0⟩ | ⟨g, cap, cur, rfl, _⟩
  · have hN := hid (show w.ownsRow w.heap.size 65 6 (.slice none 0 0) ns.length (ndCells ns) from ⟨h.1, .inl ⟨rfl, h0⟩⟩)
    clear h h0
    go_enter Try.func56, Try.ntmps56
    go_wp2
    go_ret
    exact ⟨_, rfl, hN.out, Kp.refl _ _⟩
  · have hlen := ndCells_len ns
    have hmade := hid (World.ownsRow_made (base := w.heap.size) (e := 65) (size := 6) w #[] 0 (Nat.le_refl _) (by decide) (by simp))
    have hsrc := hid (src_cells h (.cells #[] 65))
    clear h
    go_enter Try.func56, Try.ntmps56
    go_wp2_with (at_builtin; refine wpList_append_own _ rfl (.tmp 5) (.tmp 6) 55 rfl w.heap.size 65 i0 _ 6 48 Try.undN hi hz0 hz1 hz2 rfl (by decide) (.slice (some ⟨w.heap.size, 0, none⟩) 0 0) 0 [] rfl hmade.out ⟨g, 0, none⟩ ns.length cap (ndCells ns) rfl hlen hsrc.out (ndCells_one ns) (by unfold maxLen; omega) (by omega) (by simp) ?_; intro v' w1 hr hg _; have hD0 := clone_done hr hg; clear hr hg; obtain ⟨ao, cap', rfl⟩ := owns_shape hD0.1; have hD := hid hD0; clear hD0)
    go_ret
    exact ⟨_, rfl, hD.out.1, hD.out.2⟩
section
variable {B : Nat} {w : World} {b : Nat} {vn vo : Value} {ns : List Nd} {os : List Bool}
set_option maxHeartbeats 1000000 in
theorem nodes_any (h : GS 84 B w b vn vo ns os) :
    Calls Try.prog 31 #[.pointer (some ⟨b, 0, none⟩)] w fun e w' => ∃ v', e = .returned v' ∧ w'.ownsRow w.heap.size 65 6 v' ns.length (ndCells ns) ∧ Quiet w w' := by
  have hl := h.cell0
  go_enter Try.func31, Try.ntmps31
  go_wp2_with (go_at_call 56; refine (clone_any B _ vn ns h.rn h.ln).mono ?_; rintro e w1 ⟨v', rfl, hr, hk⟩; obtain ⟨ao, cap, rfl⟩ := owns_shape hr)
  go_ret
  exact ⟨_, rfl, hr, hk⟩
end
/-- Numbers in memory, wherever they begin. -/
def IntsAt (w : World) (ao : Option Addr) (l : List Int) : Prop := ∀ j (h : j < l.length), ∃ g o, ao = some ⟨g, o, none⟩ ∧ w.cell? ⟨g, o + j, none⟩ = some (.int .i64 l[j])
theorem IntsAt.quiet {w w' : World} {ao : Option Addr} {l : List Int} (h : IntsAt w ao l) (hq : Quiet w w') : IntsAt w' ao l := by
  intro j hj
  obtain ⟨g, o, e, c⟩ := h j hj
  exact ⟨g, o, e, hq.cell c (fun e => e)⟩
theorem ints_lie {w : World} {base : Nat} {ao : Option Addr} {l : List Int} {cap : Nat} (h : w.ownsRow base 3 1 (.slice ao l.length cap) l.length (ints l)) : IntsAt w ao l := by
  intro j hj
  obtain ⟨g, rfl, d⟩ := owns_at h (by omega)
  refine ⟨g, 0, rfl, ?_⟩
  rw [Nat.zero_add, d j (by omega)]
  simp [ints, hj]
set_option maxHeartbeats 1000000 in
theorem sameInts_any (w : World) (l : List Int) (a1 a2 : Option Addr) (n1 n2 : Nat) (hl : l.length ≤ 100000) (h1 : IntsAt w a1 l) (h2 : IntsAt w a2 l) :
    Calls Try.prog 36 #[.slice a1 l.length n1, .slice a2 l.length n2] w fun e w' => e = .returned (.bool true) ∧ Quiet w w' := by
  have H1 := hid h1
  have H2 := hid h2
  clear h1 h2
  go_enter Try.func36, Try.ntmps36
  go_wp2
  go_loopw [5] (fun i w' => Quiet w w' ∧ ∃ k : Nat, k ≤ l.length ∧ i = .int .i64 k) (fun i _ => l.length - (intOf i).toNat)
  case atStart => exact ⟨Kp.refl _ _, 0, Nat.zero_le _, rfl⟩
  case round =>
    obtain ⟨hk, k, hkl, rfl⟩ := hrel
    by_cases hlt : k < l.length
    · obtain ⟨g1, o1, rfl, c1⟩ := (H1.out.quiet hk) k hlt
      obtain ⟨g2, o2, rfl, c2⟩ := (H2.out.quiet hk) k hlt
      have K := hid hk
      clear hk
      generalize l[k] = y at *
      go_wp2
      go_quiet (fail)
      go_wp2
      exact ⟨⟨K.out.trans (Kp.drewN _ _), k + 1, by omega, by go_num⟩, by simp [intOf]; omega⟩
    · go_wp2
      go_ret
      exact ⟨rfl, hk⟩
theorem eqNode (a b c d e f a' b' c' d' e' f' : Int) (w : World) : (Op.equalIn 10000 65 (.agg #[.int .i64 a, .int .i64 b, .int .i64 c, .int .i64 d, .int .i64 e, .int .i64 f]) (.agg #[.int .i64 a', .int .i64 b', .int .i64 c', .int .i64 d', .int .i64 e', .int .i64 f'])).run Try.prog w = .ok (a == a' && b == b' && c == c' && d == d' && e == e' && f == f') w := by
  have hS : Try.prog.underlying 65 = some (.struct (Try.prog.fieldsOf 65)) := by kernel_rfl
  have hp : Try.prog.stoodInHeld 65 = false := by kernel_rfl
  rw [show (10000 : Nat) = 9999 + 1 from rfl, run_equalIn_agg w 9999 65 _ _ hS hp]
  simp only [Program.fieldsOf, Try.underlying65]
  go_simp
  by_cases h1 : a = a' <;> by_cases h2 : b = b' <;> by_cases h3 : c = c' <;> by_cases h4 : d = d' <;> by_cases h5 : e = e' <;> by_cases h6 : f = f' <;> simp [h1, h2, h3, h4, h5, h6]
set_option maxHeartbeats 2000000 in
theorem sameNodes_any (B1 B2 m1 m2 : Nat) (w : World) (ns l1 l2 : List Nd) (a1 a2 : Option Addr) (n1 n2 : Nat) (hl : ns.length ≤ 100000) (h1 : w.ownsRow B1 65 6 (.slice a1 l1.length m1) l1.length (ndCells l1)) (h2 : w.ownsRow B2 65 6 (.slice a2 l2.length m2) l2.length (ndCells l2)) (p1 : ns <+: l1) (p2 : ns <+: l2) :
    Calls Try.prog 30 #[.slice a1 ns.length n1, .slice a2 ns.length n2] w fun e w' => e = .returned (.bool true) ∧ Quiet w w' := by
  have H1 := hid h1
  have H2 := hid h2
  have P1 := hid p1
  have P2 := hid p2
  have L1 := p1.length_le
  have L2 := p2.length_le
  have q := eqNode
  clear h1 h2 p1 p2
  go_enter Try.func30, Try.ntmps30
  go_wp2
  go_loopw [5] (fun i w' => Quiet w w' ∧ ∃ k : Nat, k ≤ ns.length ∧ i = .int .i64 k) (fun i _ => ns.length - (intOf i).toNat)
  case atStart => exact ⟨Kp.refl _ _, 0, Nat.zero_le _, rfl⟩
  case round =>
    obtain ⟨hk, k, hkl, rfl⟩ := hrel
    by_cases hlt : k < ns.length
    · obtain ⟨g1, rfl, _⟩ := owns_at H1.out (by omega)
      obtain ⟨g2, rfl, _⟩ := owns_at H2.out (by omega)
      obtain ⟨c1, c2, c3, c4, c5, c6⟩ := nd_cells' (hk.row H1.out fun _ _ e => e) k (by omega)
      obtain ⟨d1, d2, d3, d4, d5, d6⟩ := nd_cells' (hk.row H2.out fun _ _ e => e) k (by omega)
      have e1 : l1[k] = ns[k] := (P1.out.getElem hlt).symm
      have e2 : l2[k] = ns[k] := (P2.out.getElem hlt).symm
      rw [e1] at c1 c2 c3 c4 c5 c6
      rw [e2] at d1 d2 d3 d4 d5 d6
      have K := hid hk
      clear hk e1 e2
      generalize ns[k].parent = xp at *
      generalize ns[k].gate = xg at *
      generalize ns[k].rights = xr at *
      generalize ns[k].cell = xc at *
      generalize ns[k].plugin = xl at *
      generalize ns[k].func = xf at *
      go_wp2
      go_quiet (fail)
      go_wp2
      exact ⟨⟨K.out.trans (Kp.drewN _ _), k + 1, by omega, by go_num⟩, by simp [intOf]; omega⟩
    · go_wp2
      go_ret
      exact ⟨rfl, hk⟩
end Go.Proofs.Ythplldgdgmhdlaa
