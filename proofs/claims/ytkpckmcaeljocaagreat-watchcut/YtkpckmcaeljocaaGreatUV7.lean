/- Parts. -/
import Derived.Test.YtkpckmcaeljocaaGreatUM0
import Derived.Deep.CutRange
namespace Go.Proofs.YtkpckmcaeljocaaGreat
open Go.ChangeShapes Go.WideShapes Go.ChangeAt Go.RowKit
open Gr (Nd Res nd0 thereB openB deriveOf addOf gateOf cutOf cellB cellOf funcB funcOf rightsN wayOf gatesOf gatesW targetOf Wf NdOk GS IntsAt ndCells nd_cells' lies_shape owns_shape owns_at)
theorem yisFunc_any (n : Nd) (w : World) : Calls Tryz.prog 59 #[n.agg] w fun e w' => e = .returned (.bool (decide (0 ≤ n.plugin))) ∧ Quiet w w' := by
  obtain ⟨a, b, c, d, p, f⟩ := n
  simp only [Gr.Nd.agg]
  go_enter Tryz.func59, Tryz.ntmps59
  go_wp2
  go_ret
  exact ⟨rfl, Kp.alloc _ _⟩
def ofB (q : Int) (n : Nd) : Bool := decide (0 ≤ n.plugin) && decide (n.plugin = q)
theorem yknowsF_any (n : Nd) (b : Nat) (q : Int) (w : World) (hc : w.cell? ⟨b, 0, none⟩ = some (.int .i64 q)) : Calls Tryz.prog 109 #[n.agg, .pointer (some ⟨b, 0, none⟩)] w fun e w' => e = .returned (.bool (ofB q n)) ∧ Quiet w w' := by
  have HF := hid (fun w => yisFunc_any n w)
  obtain ⟨x, y, c, d, p, f⟩ := n
  simp only [Gr.Nd.agg] at *
  have q1 : Quiet w (w.alloc (.cells #[.int .i64 x, .int .i64 y, .int .i64 c, .int .i64 d, .int .i64 p, .int .i64 f] 72)) := Kp.alloc _ _
  have b1 := heap_alloc_new w (.cells #[.int .i64 x, .int .i64 y, .int .i64 c, .int .i64 d, .int .i64 p, .int .i64 f] 72)
  have c1 := q1.cell hc fun e => e
  have HB := hid (And.intro q1 b1)
  clear q1 b1
  by_cases h0 : 0 ≤ p
  · have hE := hid (show ofB q ⟨x, y, c, d, p, f⟩ = decide (p = q) by simp [ofB, h0])
    go_enter Tryz.func109, Tryz.ntmps109
    go_wp2_with (go_at_call 59; refine (HF.out _).mono ?_; rintro e w2 ⟨rfl, q2⟩; have c2 := q2.cell c1 (fun e => e); have d2 := (q2.block _ (lt_of_block HB.out.2) (fun e => e)).trans HB.out.2; obtain ⟨m0, m1, m2, m3, m4, m5⟩ := Gr.six d2; have Q2 := hid (HB.out.1.trans q2); clear q2 d2)
    go_ret
    exact ⟨by rw [hE.out]; simp; rfl, Q2.out⟩
  · have hE := hid (show ofB q ⟨x, y, c, d, p, f⟩ = false by simp [ofB, h0])
    have hd : decide (0 ≤ p) = false := by simpa using h0
    go_enter Tryz.func109, Tryz.ntmps109
    go_wp2_with (go_at_call 59; refine (HF.out _).mono ?_; rintro e w2 ⟨rfl, q2⟩; have Q2 := hid (HB.out.1.trans q2); clear q2)
    go_ret
    exact ⟨by rw [hE.out]; rfl, Q2.out⟩
def cellWB (cell : Int) (bit : Nat) (n : Nd) : Bool := !decide (0 ≤ n.plugin) && decide (n.cell = cell) && n.rights.toNat.testBit bit
theorem ycellF_any (n : Nd) (b1 b2 : Nat) (cell rt : Int) (bit : Nat) (w : World) (hb : RBit bit rt) (hn : n.plugin < 0 → 0 ≤ n.rights ∧ n.rights ≤ 15) (hc1 : w.cell? ⟨b1, 0, none⟩ = some (.int .i64 cell)) (hc2 : w.cell? ⟨b2, 0, none⟩ = some (.int .i64 rt)) : Calls Tryz.prog 58 #[n.agg, .pointer (some ⟨b1, 0, none⟩), .pointer (some ⟨b2, 0, none⟩)] w fun e w' => e = .returned (.bool (cellWB cell bit n)) ∧ Quiet w w' := by
  have HF := hid (fun w => yisFunc_any n w)
  obtain ⟨x, y, r, d, p, f⟩ := n
  simp only [Gr.Nd.agg] at *
  have q1 : Quiet w (w.alloc (.cells #[.int .i64 x, .int .i64 y, .int .i64 r, .int .i64 d, .int .i64 p, .int .i64 f] 72)) := Kp.alloc _ _
  have b1 := heap_alloc_new w (.cells #[.int .i64 x, .int .i64 y, .int .i64 r, .int .i64 d, .int .i64 p, .int .i64 f] 72)
  have e1 := q1.cell hc1 fun e => e
  have e2 := q1.cell hc2 fun e => e
  have HB := hid (And.intro q1 b1)
  clear q1 b1
  by_cases h0 : 0 ≤ p
  · have hE := hid (show cellWB cell bit ⟨x, y, r, d, p, f⟩ = false by simp [cellWB, h0])
    go_enter Tryz.func58, Tryz.ntmps58
    go_wp2_with (go_at_call 59; refine (HF.out _).mono ?_; rintro e w2 ⟨rfl, q2⟩; have Q2 := hid (HB.out.1.trans q2); clear q2)
    go_ret
    exact ⟨by rw [hE.out]; rfl, Q2.out⟩
  · have hd : decide (0 ≤ p) = false := by simpa using h0
    obtain ⟨hr0, hr1⟩ := hn (by omega)
    obtain ⟨rn, rfl⟩ : ∃ rn : Nat, r = rn := ⟨r.toNat, by omega⟩
    have HH := hid (fun w => hasr_any hb rn (by omega) w)
    clear hr0 hr1 hn
    by_cases h1 : d = cell
    · have hE := hid (show cellWB cell bit ⟨x, y, rn, d, p, f⟩ = rn.testBit bit by simp [cellWB, h0, h1])
      subst h1
      go_enter Tryz.func58, Tryz.ntmps58
      go_wp2_with (first
        | (go_at_call 60; refine (HH.out _).mono ?_; rintro e w3 ⟨rfl, h3⟩; replace h3 := h3.symm; subst h3)
        | (go_at_call 59; refine (HF.out _).mono ?_; rintro e w2 ⟨rfl, q2⟩; have g1 := q2.cell e1 (fun e => e); have g2 := q2.cell e2 (fun e => e); have d2 := (q2.block _ (lt_of_block HB.out.2) (fun e => e)).trans HB.out.2; obtain ⟨m0, m1, m2, m3, m4, m5⟩ := Gr.six d2; have Q2 := hid (HB.out.1.trans q2); clear q2 d2))
      go_ret
      exact ⟨by rw [hE.out]; simp, Q2.out⟩
    · have hE := hid (show cellWB cell bit ⟨x, y, rn, d, p, f⟩ = false by simp [cellWB, h1])
      have hd2 : (d == cell) = false := by simpa using h1
      go_enter Tryz.func58, Tryz.ntmps58
      go_wp2_with (first
        | (go_at_call 59; refine (HF.out _).mono ?_; rintro e w2 ⟨rfl, q2⟩; have g1 := q2.cell e1 (fun e => e); have g2 := q2.cell e2 (fun e => e); have d2 := (q2.block _ (lt_of_block HB.out.2) (fun e => e)).trans HB.out.2; obtain ⟨m0, m1, m2, m3, m4, m5⟩ := Gr.six d2; have Q2 := hid (HB.out.1.trans q2); clear q2 d2))
      go_ret
      exact ⟨by rw [hE.out]; rfl, Q2.out⟩
theorem any_take {α : Type} {f : α → Bool} {l : List α} {k : Nat} (hk : k < l.length) (h : (l.take k).any f = false) : (l.take (k + 1)).any f = f l[k] := by
  rw [List.take_succ_eq_append_getElem hk, List.any_append, h]; simp
theorem any_at {α : Type} {f : α → Bool} {l : List α} {k : Nat} (hk : k < l.length) (h : f l[k] = true) : l.any f = true := List.any_eq_true.2 ⟨_, List.getElem_mem hk, h⟩
set_option maxRecDepth 8000 in
set_option maxHeartbeats 1000000 in
theorem ifKnows_any (ns : List Nd) (B : Nat) (ao : Option Addr) (cap b : Nat) (q : Int) (w : World) (h : w.ownsRow B 72 6 (.slice ao ns.length cap) ns.length (ndCells ns)) (hl : ns.length ≤ 100000) (hc : w.cell? ⟨b, 0, none⟩ = some (.int .i64 q)) :
    Calls Tryz.prog 79 #[.slice ao ns.length cap, .func (.func 109) #[] #[.pointer (some ⟨b, 0, none⟩)]] w fun e w' => ∃ r : Int, e = .returned (.int .i64 r) ∧ decide (0 ≤ r) = ns.any (ofB q) ∧ Quiet w w' := by
  have HR := hid h
  have HC := hid hc
  clear h hc
  go_enter Tryz.func79, Tryz.ntmps79
  go_wp2
  go_loopw [8] (fun i wr => ∃ k : Nat, i = .int .i64 k ∧ k ≤ ns.length ∧ Hid ((ns.take k).any (ofB q) = false ∧ Quiet w wr)) (fun i _ => ns.length - (intOf i).toNat)
  case atStart => exact ⟨0, rfl, Nat.zero_le _, hid ⟨by simp, Kp.refl _ _⟩⟩
  case round =>
    rename World => wr
    obtain ⟨k, rfl, hk, D⟩ := hrel
    by_cases hlt : k < ns.length
    · have hr := D.out.2.row HR.out fun _ _ e => e
      obtain ⟨g, cp, hv⟩ := lies_shape hr (by omega)
      cases hv
      obtain ⟨y0, y1, y2, y3, y4, y5⟩ := nd_cells' hr k hlt
      have HK := hid (yknowsF_any ns[k] b q wr (D.out.2.cell HC.out fun e => e))
      have HT := hid (any_take hlt D.out.1)
      have HA := hid (fun e => any_at (f := ofB q) hlt e)
      clear hr
      generalize ns[k] = n at *
      obtain ⟨x, y, c, d, p, f⟩ := n
      simp only [Gr.Nd.agg] at *
      cases hb : ofB q ⟨x, y, c, d, p, f⟩ with
      | true =>
        rw [hb] at HK
        go_wp2_with (go_at_call 109; refine HK.out.mono ?_; rintro e w2 ⟨rfl, q2⟩; have Q2 := hid (D.out.2.trans q2); clear q2)
        go_ret
        exact ⟨_, rfl, by rw [HA.out hb]; simp, Q2.out⟩
      | false =>
        rw [hb] at HK
        go_wp2_with (go_at_call 109; refine HK.out.mono ?_; rintro e w2 ⟨rfl, q2⟩; have Q2 := hid (D.out.2.trans q2); clear q2)
        refine ⟨⟨k + 1, by go_num, by omega, hid ⟨HT.out.trans hb, Q2.out⟩⟩, by simp [intOf]; omega⟩
    · obtain rfl : k = ns.length := by omega
      have hnl : ¬ ((ns.length : Int) < (ns.length : Int)) := by omega
      go_wp2
      go_ret
      refine ⟨-1, rfl, ?_, D.out.2⟩
      have := D.out.1
      rw [List.take_length] at this
      rw [this]; rfl
theorem cfKnows_any (ns : List Nd) (B : Nat) (ao : Option Addr) (cap b : Nat) (q : Int) (w : World) (h : w.ownsRow B 72 6 (.slice ao ns.length cap) ns.length (ndCells ns)) (hl : ns.length ≤ 100000) (hc : w.cell? ⟨b, 0, none⟩ = some (.int .i64 q)) :
    Calls Tryz.prog 57 #[.slice ao ns.length cap, .func (.func 109) #[] #[.pointer (some ⟨b, 0, none⟩)]] w fun e w' => e = .returned (.bool (ns.any (ofB q))) ∧ Quiet w w' := by
  have HI := hid (ifKnows_any ns B ao cap b q w h hl hc)
  clear h hc
  go_enter Tryz.func57, Tryz.ntmps57
  go_wp2_with (go_at_call 79; refine HI.out.mono ?_; rintro e w2 ⟨r, rfl, hr, q2⟩; have H2 := hid (And.intro hr q2); clear hr q2)
  go_ret
  exact ⟨by rw [← H2.out.1]; rfl, H2.out.2⟩
set_option maxRecDepth 8000 in
set_option maxHeartbeats 1000000 in
theorem ifCell_any (ns : List Nd) (B : Nat) (ao : Option Addr) (cap b1 b2 : Nat) (cell rt : Int) (bit : Nat) (w : World) (hb : RBit bit rt) (hn : ∀ n ∈ ns, n.plugin < 0 → 0 ≤ n.rights ∧ n.rights ≤ 15) (h : w.ownsRow B 72 6 (.slice ao ns.length cap) ns.length (ndCells ns)) (hl : ns.length ≤ 100000) (hc1 : w.cell? ⟨b1, 0, none⟩ = some (.int .i64 cell)) (hc2 : w.cell? ⟨b2, 0, none⟩ = some (.int .i64 rt)) :
    Calls Tryz.prog 79 #[.slice ao ns.length cap, .func (.func 58) #[] #[.pointer (some ⟨b1, 0, none⟩), .pointer (some ⟨b2, 0, none⟩)]] w fun e w' => ∃ r : Int, e = .returned (.int .i64 r) ∧ decide (0 ≤ r) = ns.any (cellWB cell bit) ∧ Quiet w w' := by
  have HR := hid h
  have HC := hid (And.intro hc1 (And.intro hc2 hn))
  clear h hc1 hc2 hn
  go_enter Tryz.func79, Tryz.ntmps79
  go_wp2
  go_loopw [8] (fun i wr => ∃ k : Nat, i = .int .i64 k ∧ k ≤ ns.length ∧ Hid ((ns.take k).any (cellWB cell bit) = false ∧ Quiet w wr)) (fun i _ => ns.length - (intOf i).toNat)
  case atStart => exact ⟨0, rfl, Nat.zero_le _, hid ⟨by simp, Kp.refl _ _⟩⟩
  case round =>
    rename World => wr
    obtain ⟨k, rfl, hk, D⟩ := hrel
    by_cases hlt : k < ns.length
    · have hr := D.out.2.row HR.out fun _ _ e => e
      obtain ⟨g, cp, hv⟩ := lies_shape hr (by omega)
      cases hv
      obtain ⟨y0, y1, y2, y3, y4, y5⟩ := nd_cells' hr k hlt
      have HK := hid (ycellF_any ns[k] b1 b2 cell rt bit wr hb (HC.out.2.2 _ (List.getElem_mem hlt)) (D.out.2.cell HC.out.1 fun e => e) (D.out.2.cell HC.out.2.1 fun e => e))
      have HT := hid (any_take hlt D.out.1)
      have HA := hid (fun e => any_at (f := cellWB cell bit) hlt e)
      clear hr
      generalize ns[k] = n at *
      obtain ⟨x, y, c, d, p, f⟩ := n
      simp only [Gr.Nd.agg] at *
      cases hbb : cellWB cell bit ⟨x, y, c, d, p, f⟩ with
      | true =>
        rw [hbb] at HK
        go_wp2_with (go_at_call 58; refine HK.out.mono ?_; rintro e w2 ⟨rfl, q2⟩; have Q2 := hid (D.out.2.trans q2); clear q2)
        go_ret
        exact ⟨_, rfl, by rw [HA.out hbb]; simp, Q2.out⟩
      | false =>
        rw [hbb] at HK
        go_wp2_with (go_at_call 58; refine HK.out.mono ?_; rintro e w2 ⟨rfl, q2⟩; have Q2 := hid (D.out.2.trans q2); clear q2)
        refine ⟨⟨k + 1, by go_num, by omega, hid ⟨HT.out.trans hbb, Q2.out⟩⟩, by simp [intOf]; omega⟩
    · obtain rfl : k = ns.length := by omega
      have hnl : ¬ ((ns.length : Int) < (ns.length : Int)) := by omega
      go_wp2
      go_ret
      refine ⟨-1, rfl, ?_, D.out.2⟩
      have := D.out.1
      rw [List.take_length] at this
      rw [this]; rfl
theorem cfCell_any (ns : List Nd) (B : Nat) (ao : Option Addr) (cap b1 b2 : Nat) (cell rt : Int) (bit : Nat) (w : World) (hb : RBit bit rt) (hn : ∀ n ∈ ns, n.plugin < 0 → 0 ≤ n.rights ∧ n.rights ≤ 15) (h : w.ownsRow B 72 6 (.slice ao ns.length cap) ns.length (ndCells ns)) (hl : ns.length ≤ 100000) (hc1 : w.cell? ⟨b1, 0, none⟩ = some (.int .i64 cell)) (hc2 : w.cell? ⟨b2, 0, none⟩ = some (.int .i64 rt)) :
    Calls Tryz.prog 57 #[.slice ao ns.length cap, .func (.func 58) #[] #[.pointer (some ⟨b1, 0, none⟩), .pointer (some ⟨b2, 0, none⟩)]] w fun e w' => e = .returned (.bool (ns.any (cellWB cell bit))) ∧ Quiet w w' := by
  have HI := hid (ifCell_any ns B ao cap b1 b2 cell rt bit w hb hn h hl hc1 hc2)
  clear h hc1 hc2 hn
  go_enter Tryz.func57, Tryz.ntmps57
  go_wp2_with (go_at_call 79; refine HI.out.mono ?_; rintro e w2 ⟨r, rfl, hr, q2⟩; have H2 := hid (And.intro hr q2); clear hr q2)
  go_ret
  exact ⟨by rw [← H2.out.1]; rfl, H2.out.2⟩
def gfV (a : Nat → Option Addr × Nat) (g : Nat → List Nd) (p : Nat) : Value := .slice (a p).1 (g p).length (a p).2
def gfC (a : Nat → Option Addr × Nat) (g : Nat → List Nd) : Array Value := #[gfV a g 0, gfV a g 1, gfV a g 2, gfV a g 3]
structure GfS (B : Nat) (a : Nat → Option Addr × Nat) (g : Nat → List Nd) (w : World) : Prop where
  row : ∀ p, p < 4 → w.ownsRow B 72 6 (gfV a g p) (g p).length (ndCells (g p))
  few : ∀ p, p < 4 → (g p).length ≤ 100000
section
variable {B : Nat} {a : Nat → Option Addr × Nat} {g : Nat → List Nd} {w w' : World}
theorem GfS.quiet (H : GfS B a g w) (k : Quiet w w') : GfS B a g w' := ⟨fun p hp => k.row (H.row p hp) fun _ _ e => e, H.few⟩
theorem gf_cell {b : Nat} (h : w.heap[b]? = some (.cells (gfC a g) 89 (0, 0))) (p : Nat) (hp : p < 4) : w.cell? ⟨b, p, none⟩ = some (gfV a g p) := by
  obtain rfl | rfl | rfl | rfl : p = 0 ∨ p = 1 ∨ p = 2 ∨ p = 3 := by omega
  all_goals simp [World.cell?, h, gfC]
theorem gf_all {b : Nat} (h : w.heap[b]? = some (.cells (gfC a g) 89 (0, 0))) : w.cell? ⟨b, 0, none⟩ = some (gfV a g 0) ∧ w.cell? ⟨b, 1, none⟩ = some (gfV a g 1) ∧ w.cell? ⟨b, 2, none⟩ = some (gfV a g 2) ∧ w.cell? ⟨b, 3, none⟩ = some (gfV a g 3) := ⟨gf_cell h 0 (by decide), gf_cell h 1 (by decide), gf_cell h 2 (by decide), gf_cell h 3 (by decide)⟩
theorem knows_of (p q : Nat) : (g p).any (ofB (q : Int)) = knowsG g p q := rfl
set_option maxRecDepth 8000 in
set_option maxHeartbeats 1000000 in
theorem yknows_any (H : GfS B a g w) (p q : Nat) (hp : p < 4) : Calls Tryz.prog 95 #[.agg (gfC a g), .int .i64 p, .int .i64 q] w fun e w' => e = .returned (.bool (knowsG g p q)) ∧ Quiet w w' := by
  obtain ⟨W, hW⟩ : ∃ W, W = (w.alloc (.cells (gfC a g) 89)).alloc (.cells #[.int .i64 q] 3) := ⟨_, rfl⟩
  have q1 : Quiet w W := by rw [hW]; exact (Kp.alloc _ _).trans (Kp.alloc _ _)
  have b0 : W.heap[w.heap.size]? = some (.cells (gfC a g) 89 (0, 0)) := by rw [hW, Below.heap_alloc _ _ _ (by simp)]; exact heap_alloc_new w _
  have b1 : W.heap[w.heap.size + 1]? = some (.cells #[.int .i64 q] 3 (0, 0)) := by rw [hW]; exact Gr.heap_two w _ _
  have c0 := gf_cell b0 p hp
  have c1 : W.cell? ⟨w.heap.size + 1, 0, none⟩ = some (.int .i64 q) := cell_of_one b1
  have HC := hid (cfKnows_any (g p) B (a p).1 (a p).2 (w.heap.size + 1) q W ((H.quiet q1).row p hp) (H.few p hp) c1)
  have HQ := hid q1
  have hE := hid (knows_of (g := g) p q)
  have hp4 : (p : Int) < 4 := by omega
  clear b0 b1 H q1
  unfold gfC at *
  unfold gfV at c0
  generalize (g p).any (ofB (q : Int)) = r at *
  generalize gfV a g 0 = v0 at *
  generalize gfV a g 1 = v1 at *
  generalize gfV a g 2 = v2 at *
  generalize gfV a g 3 = v3 at *
  go_enter Tryz.func95, Tryz.ntmps95
  go_upto_region 1 with fail
  rw [← hW]
  clear hW
  go_wp2_with (go_at_call 57; refine HC.out.mono ?_; rintro e w2 ⟨rfl, q2⟩; have H2 := hid (HQ.out.trans q2); clear q2)
  go_ret
  exact ⟨by rw [← hE.out]; rfl, H2.out⟩
set_option maxRecDepth 8000 in
set_option maxHeartbeats 1000000 in
theorem ytouch_any (H : GfS B a g w) (p q : Nat) (hp : p < 4) (hq : q < 4) : Calls Tryz.prog 78 #[.agg (gfC a g), .int .i64 p, .int .i64 q] w fun e w' => e = .returned (.bool (touchG g p q)) ∧ Quiet w w' := by
  have q1 : Quiet w (w.alloc (.cells (gfC a g) 89)) := Kp.alloc _ _
  have b0 := heap_alloc_new w (.cells (gfC a g) 89)
  obtain ⟨c0, c1, c2, c3⟩ := gf_all b0
  have HC := hid (fun (w' : World) (k : Quiet w w') => yknows_any (H.quiet k) p q hp)
  have HD := hid (fun (w' : World) (k : Quiet w w') => yknows_any (H.quiet k) q p hq)
  have HQ := hid (And.intro q1 b0)
  clear H q1 b0
  have hE := hid (show touchG g p q = (knowsG g p q || knowsG g q p) from rfl)
  unfold gfC at *
  cases hk : knowsG g p q with
  | true =>
    rw [hk] at HC hE
    go_enter Tryz.func78, Tryz.ntmps78
    go_wp2_with (go_at_call 95; refine (HC.out _ HQ.out.1).mono ?_; rintro e w2 ⟨rfl, q2⟩; have H2 := hid (HQ.out.1.trans q2); clear q2)
    go_ret
    exact ⟨by rw [hE.out]; simp, H2.out⟩
  | false =>
    rw [hk] at HC hE
    go_enter Tryz.func78, Tryz.ntmps78
    go_wp2_with (first
      | (go_at_call 95; refine (HD.out _ H2.out).mono ?_; rintro e w3 ⟨rfl, q3⟩; have H3 := hid (H2.out.trans q3); clear q3)
      | (go_at_call 95; refine (HC.out _ HQ.out.1).mono ?_; rintro e w2 ⟨rfl, q2⟩; have d0 := (q2.block _ (lt_of_block HQ.out.2) (fun e => e)).trans HQ.out.2; obtain ⟨m0, m1, m2, m3⟩ := gf_all d0; have H2 := hid (HQ.out.1.trans q2); clear q2 d0))
    go_ret
    exact ⟨by rw [hE.out]; simp, H3.out⟩
end
def nints (c : List Nat) : List Value := c.map fun k : Nat => Value.int .i64 k
theorem nints_at (c : List Nat) (k : Nat) (hk : k < c.length) : (nints c)[k]? = some (.int .i64 (c[k] : Nat)) := by simp [nints, hk]
theorem nints_row {w : World} {B : Nat} {v : Value} {c : List Nat} (h : w.ownsRow B 3 1 v c.length (nints c)) (k : Nat) (hk : k < c.length) : ∃ g cap, v = .slice (some ⟨g, 0, none⟩) c.length cap ∧ w.cell? ⟨g, k, none⟩ = some (.int .i64 (c[k] : Nat)) := by
  obtain ⟨ao, cap, rfl⟩ := owns_shape h
  obtain ⟨g, rfl, hc⟩ := owns_at h (by omega)
  exact ⟨g, cap, rfl, by rw [hc k (by omega), nints_at c k hk]⟩
set_option maxRecDepth 8000 in
set_option maxHeartbeats 1000000 in
theorem ixInt_any (c : List Nat) (B : Nat) (ao : Option Addr) (cap : Nat) (q : Nat) (w : World) (h : w.ownsRow B 3 1 (.slice ao c.length cap) c.length (nints c)) (hl : c.length ≤ 100000) :
    Calls Tryz.prog 94 #[.slice ao c.length cap, .int .i64 q] w fun e w' => ∃ r : Int, e = .returned (.int .i64 r) ∧ decide (0 ≤ r) = decide (q ∈ c) ∧ w' = w := by
  have HR := hid h
  clear h
  go_enter Tryz.func94, Tryz.ntmps94
  go_wp2
  go_loop [8] (fun i => ∃ k : Nat, i = .int .i64 k ∧ k ≤ c.length ∧ Hid (q ∉ c.take k)) (fun i => c.length - (intOf i).toNat)
  case atStart => exact ⟨0, rfl, Nat.zero_le _, hid (by simp)⟩
  case round =>
    obtain ⟨k, rfl, hk, D⟩ := hrel
    by_cases hlt : k < c.length
    · obtain ⟨g, cp, hv, hc⟩ := nints_row HR.out k hlt
      cases hv
      have HT := hid (fun (e : c[k] ≠ q) => (show q ∉ c.take (k + 1) from by rw [List.take_succ_eq_append_getElem hlt, List.mem_append, List.mem_singleton]; rintro (h | h); exact D.out h; exact e h.symm))
      have HM := hid (List.getElem_mem hlt)
      generalize c[k] = z at *
      by_cases hz : z = q
      · subst hz
        go_wp2
        go_ret
        exact ⟨_, rfl, by simp [HM.out], rfl⟩
      · have hz1 : ((q : Int) == (z : Int)) = false := by simp; omega
        have hz2 : ¬ (q : Int) = (z : Int) := by omega
        go_wp2
        refine ⟨⟨k + 1, by go_num, by omega, hid (HT.out hz)⟩, by simp [intOf]; omega⟩
    · obtain rfl : k = c.length := by omega
      have hnl : ¬ ((c.length : Int) < (c.length : Int)) := by omega
      go_wp2
      go_ret
      refine ⟨-1, rfl, ?_, rfl⟩
      have := D.out
      rw [List.take_length] at this
      simp [this]
theorem coInt_any (c : List Nat) (B : Nat) (ao : Option Addr) (cap : Nat) (q : Nat) (w : World) (h : w.ownsRow B 3 1 (.slice ao c.length cap) c.length (nints c)) (hl : c.length ≤ 100000) :
    Calls Tryz.prog 77 #[.slice ao c.length cap, .int .i64 q] w fun e w' => e = .returned (.bool (decide (q ∈ c))) ∧ w' = w := by
  have HI := hid (ixInt_any c B ao cap q w h hl)
  clear h
  go_enter Tryz.func77, Tryz.ntmps77
  go_wp2_with (go_at_call 94; refine HI.out.mono ?_; rintro e w2 ⟨r, rfl, hr, h2⟩; replace h2 := h2.symm; subst h2; have H2 := hid hr; clear hr)
  go_ret
  exact ⟨by rw [← H2.out]; rfl, rfl⟩
structure CiS (w : World) (a : Nat → Option Addr × Nat) (g : Nat → List Nd) (c : List Nat) (ao : Option Addr) (cap : Nat) (wr : World) : Prop where
  q : Quiet w wr
  b : wr.heap[w.heap.size]? = some (.cells (gfC a g) 89 (0, 0))
  r : wr.ownsRow (w.heap.size + 1) 3 1 (.slice ao c.length cap) c.length (nints c)
section
variable {B : Nat} {a : Nat → Option Addr × Nat} {g : Nat → List Nd} {w w' wr : World} {c : List Nat} {ao : Option Addr} {cap : Nat}
theorem CiS.quiet (H : CiS w a g c ao cap wr) (k : Quiet wr w') : CiS w a g c ao cap w' := ⟨H.q.trans k, (k.block _ (lt_of_block H.b) fun e => e).trans H.b, k.row H.r fun _ _ e => e⟩
theorem cis0 (w : World) (a : Nat → Option Addr × Nat) (g : Nat → List Nd) (p : Nat) : CiS w a g [p] (some ⟨w.heap.size + 1, 0, none⟩) 1 ((w.alloc (.cells (gfC a g) 89)).alloc (.cells #[.int .i64 p] 3)) := by
  refine ⟨(Kp.alloc _ _).trans (Kp.alloc _ _), by rw [Below.heap_alloc _ _ _ (by simp)]; exact heap_alloc_new w _, ?_⟩
  have := World.ownsRow_lit (base := w.heap.size + 1) (e := 3) (size := 1) (w.alloc (.cells (gfC a g) 89)) #[.int .i64 p] 1 (by simp) (by decide) (by simp)
  simpa [nints] using this
theorem CiS.push (H : CiS w a g c ao cap wr) {j gg cap2 : Nat} {o : Obj} {w6 : World} (hr : w6.ownsRow (w.heap.size + 1) 3 1 (.slice (some ⟨gg, 0, none⟩) (c.length + 1) cap2) (c.length + 1) (nints c ++ [.int .i64 j])) (hg : (wr.alloc o).grownBy w6 (Value.slice ao c.length cap).ownBlock) : CiS w a g (c ++ [j]) (some ⟨gg, 0, none⟩) cap2 w6 := by
  have hb := lt_of_block H.b
  refine ⟨⟨?_, ?_, ?_, ?_, fun k hk _ => ?_⟩, ?_, ?_⟩
  · rw [hg.os]; exact H.q.os
  · rw [hg.tape]; exact H.q.tape
  · rw [hg.output]; exact H.q.output
  · have h1 := hg.size; have h2 := H.q.size; simp at h1; omega
  · have h2 := H.q.size
    rw [hg.block k (by simp; omega) (fun e => by have := (H.r.lt k e.symm).1; omega), Below.heap_alloc _ _ _ (by omega)]
    exact H.q.block k hk fun e => e
  · rw [hg.block _ (by simp; omega) (fun e => by have := (H.r.lt _ e.symm).1; omega), Below.heap_alloc _ _ _ hb]; exact H.b
  · rw [show (c ++ [j]).length = c.length + 1 by simp, show nints (c ++ [j]) = nints c ++ [.int .i64 j] by simp [nints]]; exact hr
structure AfterY (w : World) where
  val : World
  ok : Quiet w val
theorem AfterY.some (w : World) : Nonempty (AfterY w) := ⟨⟨w, Kp.refl _ _⟩⟩
theorem region_afterY {P : Program} {id : Nat} {Q : Exit → Act → World → Prop} {a : Act} {w : World} {l : List Oper} (hm : P.follows .mixedOrders = true) (hB : Region.lexB .any l.toArray = true)
    (h : wpQuiet P l.toArray (fun w' => ∃ p : AfterY w, w' = p.val) (fun a' => ∀ w', (∃ p : AfterY w, w' = p.val) → Q .normal a' w') l a) : (Code.region id l.toArray true).wp P Q a w :=
  wp_region_quiet (C := fun w' => ∃ p : AfterY w, w' = p.val) hm hB ⟨⟨w.drew, Kp.drew _⟩, rfl⟩ (by simpa using h)
set_option maxRecDepth 8000 in
set_option maxHeartbeats 4000000 in
theorem ycircle_any (H : GfS B a g w) (p : Nat) (hp : p < 4) : Calls Tryz.prog 55 #[.agg (gfC a g), .int .i64 p] w fun e w' => ∃ (c : List Nat) (ao : Option Addr) (cap : Nat), e = .returned (.slice ao c.length cap) ∧ Circ g p c c.length 0 ∧ w'.ownsRow (w.heap.size + 1) 3 1 (.slice ao c.length cap) c.length (nints c) ∧ Quiet w w' := by
  obtain ⟨i0, hi, hz0, hz1, hz2⟩ := info_parts Tryz.infoI
  have HG := hid H
  have H0 := hid (cis0 w a g p)
  have HC0 := hid (circ0 g hp)
  have h1 : ¬ ((p : Int) < 0) := by omega
  have h2 : ¬ ((4 : Int) ≤ (p : Int)) := by omega
  have h3 : decide ((4 : Int) ≤ (p : Int)) = false := by simp; omega
  have HU := hid (show gfC a g = #[gfV a g 0, gfV a g 1, gfV a g 2, gfV a g 3] from rfl)
  clear H
  rw [HU.out]
  go_enter Tryz.func55, Tryz.ntmps55
  go_wp2_with fail
  go_loopw [5, 6] (fun cv i wr => ∃ (c : List Nat) (ao : Option Addr) (cap k : Nat), cv = .slice ao c.length cap ∧ i = .int .i64 k ∧ k ≤ c.length ∧ c.length ≤ 4 ∧ Hid (Circ g p c k 0 ∧ CiS w a g c ao cap wr)) (fun _ i _ => 4 - (intOf i).toNat)
  case atStart => exact ⟨[p], some ⟨w.heap.size + 1, 0, none⟩, 1, 0, rfl, rfl, Nat.zero_le _, by simp, hid ⟨HC0.out, H0.out⟩⟩
  case round =>
    clear H0 HC0
    rename World => wq
    obtain ⟨c, ao, cap, k, rfl, rfl, hk, hc4, D⟩ := hrel
    by_cases hlt : k < c.length
    · have hk4 : k < 4 := by omega
      have HK := hid hlt
      have hlt' : (k : Int) < (c.length : Int) := by omega
      clear hlt
      go_wp2_with fail
      go_loopw [5, 22] (fun cv i wr => ∃ (c : List Nat) (ao : Option Addr) (cap j : Nat), cv = .slice ao c.length cap ∧ i = .int .i64 j ∧ j ≤ 4 ∧ k < c.length ∧ c.length ≤ 4 ∧ Hid (Circ g p c k j ∧ CiS w a g c ao cap wr)) (fun _ i _ => 4 - (intOf i).toNat)
      case atStart => exact ⟨c, ao, cap, 0, rfl, rfl, by decide, HK.out, hc4, hid D.out⟩
      case round =>
        clear D HK hc4 hlt' hk
        rename World => wr
        obtain ⟨c, ao, cap, j, rfl, rfl, hj, hlt, hc4, D⟩ := hrel
        by_cases hj4 : j < 4
        · have hj4' : (j : Int) < 4 := by omega
          have hkl : (k : Int) < (c.length : Int) := by omega
          obtain ⟨gg, cp, hv, hck⟩ := nints_row D.out.2.r k hlt
          cases hv
          have HCO := hid (fun (w' : World) (q : Quiet wr w') => coInt_any c (w.heap.size + 1) (some ⟨gg, 0, none⟩) cap j w' (q.row D.out.2.r fun _ _ e => e) (by omega))
          have HTO := hid (fun (w' : World) (q : Quiet wr w') => ytouch_any ((HG.out.quiet D.out.2.q).quiet q) c[k] j (D.out.1.lt _ (List.getElem_mem hlt)) hj4)
          obtain ⟨m0, m1, m2, m3⟩ := gf_all D.out.2.b
          have n0 : ∀ p : AfterY wr, p.val.cell? ⟨w.heap.size, 0, none⟩ = some (gfV a g 0) := fun p => p.ok.cell m0 fun e => e
          have n1 : ∀ p : AfterY wr, p.val.cell? ⟨w.heap.size, 1, none⟩ = some (gfV a g 1) := fun p => p.ok.cell m1 fun e => e
          have n2 : ∀ p : AfterY wr, p.val.cell? ⟨w.heap.size, 2, none⟩ = some (gfV a g 2) := fun p => p.ok.cell m2 fun e => e
          have n3 : ∀ p : AfterY wr, p.val.cell? ⟨w.heap.size, 3, none⟩ = some (gfV a g 3) := fun p => p.ok.cell m3 fun e => e
          have n4 : ∀ p : AfterY wr, p.val.cell? ⟨gg, k, none⟩ = some (.int .i64 (c[k] : Nat)) := fun p => p.ok.cell hck fun e => e
          rw [HU.out] at HTO
          by_cases hm : j ∈ c
          · have HS := hid (D.out.1.skip hlt (.inl hm))
            rw [decide_eq_true hm] at HCO
            clear m0 m1 m2 m3 hck hm HTO
            haveI := AfterY.some wr
            go_wp2_with fail
            refine region_afterY (by kernel_rfl) (by kernel_rfl) ?_
            repeat (go_big_quiet_step ((go_at_call 77; rename_i p; exact (HCO.out p.val p.ok).mono fun e w' h => ⟨(h.1 : e = Ending.returned (.bool true)), ⟨⟨w', by rw [h.2]; exact p.ok⟩, rfl⟩⟩)))
            refine wpQuiet_nil ?_
            rintro w10 ⟨p10, rfl⟩
            go_wp2_with fail
            refine ⟨⟨c, _, cap, j + 1, rfl, by go_num, by omega, hlt, hc4, hid ⟨HS.out, D.out.2.quiet p10.ok⟩⟩, by simp [intOf]; omega⟩
          · have HM := hid hm
            rw [decide_eq_false hm] at HCO
            cases ht : touchG g c[k] j with
            | false =>
              have HS := hid (D.out.1.skip hlt (.inr ht))
              rw [ht] at HTO
              generalize c[k] = ck at *
              clear m0 m1 m2 m3 hck hm ht
              haveI := AfterY.some wr
              go_wp2_with fail
              refine region_afterY (by kernel_rfl) (by kernel_rfl) ?_
              repeat (go_big_quiet_step (first
                | (go_at_call 78; rename_i p; exact (HTO.out p.val p.ok).mono fun e w' h => ⟨(h.1 : e = Ending.returned (.bool false)), ⟨⟨w', p.ok.trans h.2⟩, rfl⟩⟩)
                | (go_at_call 77; rename_i p; exact (HCO.out p.val p.ok).mono fun e w' h => ⟨(h.1 : e = Ending.returned (.bool false)), ⟨⟨w', by rw [h.2]; exact p.ok⟩, rfl⟩⟩)))
              refine wpQuiet_nil ?_
              rintro w10 ⟨p10, rfl⟩
              go_wp2_with fail
              refine ⟨⟨c, _, cap, j + 1, rfl, by go_num, by omega, hlt, hc4, hid ⟨HS.out, D.out.2.quiet p10.ok⟩⟩, by simp [intOf]; omega⟩
            | true =>
              have HS := hid (D.out.1.add hlt hj4 hm ht)
              have hc5 := hid HS.out.few
              rw [ht] at HTO
              generalize c[k] = ck at *
              clear m0 m1 m2 m3 hck hm ht
              haveI := AfterY.some wr
              go_wp2_with fail
              refine region_afterY (by kernel_rfl) (by kernel_rfl) ?_
              repeat (go_big_quiet_step (first
                | (go_at_call 78; rename_i p; exact (HTO.out p.val p.ok).mono fun e w' h => ⟨(h.1 : e = Ending.returned (.bool true)), ⟨⟨w', p.ok.trans h.2⟩, rfl⟩⟩)
                | (go_at_call 77; rename_i p; exact (HCO.out p.val p.ok).mono fun e w' h => ⟨(h.1 : e = Ending.returned (.bool false)), ⟨⟨w', by rw [h.2]; exact p.ok⟩, rfl⟩⟩)))
              refine wpQuiet_nil ?_
              rintro w10 ⟨p10, rfl⟩
              have HD := hid (D.out.2.quiet p10.ok)
              generalize p10.val = w10 at *
              clear HTO HCO n0 n1 n2 n3 n4
              have HW := hid (show w.heap.size + 1 ≤ (w10.alloc (.cells #[.int .i64 j] 3)).heap.size by have := lt_of_block HD.out.b; simp; omega)
              go_wp2_with (at_builtin; refine wpList_append_lies _ rfl (.tmp 38) (.tmp 40) 130 rfl (w.heap.size + 1) 3 i0 _ 1 8 Tryz.undI hi hz0 hz1 hz2 rfl (by decide) (.slice (some ⟨gg, 0, none⟩) c.length cap) c.length (nints c) rfl (HD.out.r.alloc _) ⟨w10.heap.size, 0, none⟩ 1 1 [.int .i64 j] rfl rfl (Gr.news_of (t := 3) (l := [.int .i64 j]) (heap_alloc_new w10 _)) (by intro u hu; rw [List.mem_singleton.1 hu]; rfl) (by decide) (by unfold maxLen; omega) (by omega) HW.out _ rfl ?_; intro g6 cap6 w6 hr6 hg6 _ _; have H6 := hid (HD.out.push hr6 hg6); clear hr6 hg6)
              refine ⟨⟨c ++ [j], some ⟨g6, 0, none⟩, cap6, j + 1, by simp, by go_num, by omega, by simp; omega, hc5.out, hid ⟨HS.out, H6.out⟩⟩, by simp [intOf]; omega⟩
        · obtain rfl : j = 4 := by omega
          have hnl : ¬ ((4 : Int) < 4) := by omega
          go_wp2_with fail
          refine ⟨⟨c, ao, cap, k + 1, rfl, by go_num, by omega, hc4, hid ⟨D.out.1.next hlt, D.out.2⟩⟩, by simp [intOf]; omega⟩
    · obtain rfl : k = c.length := by omega
      have hnl : ¬ ((c.length : Int) < (c.length : Int)) := by omega
      go_wp2_with fail
      go_ret
      exact ⟨c, ao, cap, rfl, D.out.1, D.out.2.r, D.out.2.q⟩
end
structure AskY (B : Nat) (a : Nat → Option Addr × Nat) (g : Nat → List Nd) (bg b1 b2 : Nat) (cell rt : Int) (w : World) : Prop where
  s : GfS B a g w
  b : w.heap[bg]? = some (.cells (gfC a g) 89 (0, 0))
  c1 : w.cell? ⟨b1, 0, none⟩ = some (.int .i64 cell)
  c2 : w.cell? ⟨b2, 0, none⟩ = some (.int .i64 rt)
def RiOk (g : Nat → List Nd) : Prop := ∀ p, p < 4 → ∀ n ∈ g p, n.plugin < 0 → 0 ≤ n.rights ∧ n.rights ≤ 15
section
variable {B : Nat} {a : Nat → Option Addr × Nat} {g : Nat → List Nd} {w w' : World} {bg b1 b2 : Nat} {cell rt : Int} {bit : Nat}
theorem AskY.quiet (H : AskY B a g bg b1 b2 cell rt w) (k : Quiet w w') : AskY B a g bg b1 b2 cell rt w' := ⟨H.s.quiet k, (k.block _ (lt_of_block H.b) fun e => e).trans H.b, k.cell H.c1 fun e => e, k.cell H.c2 fun e => e⟩
def oneW (g : Nat → List Nd) (cell : Int) (bit : Nat) (q : Nat) : Bool := (g q).any (cellWB cell bit)
set_option maxRecDepth 8000 in
set_option maxHeartbeats 1000000 in
theorem yoneF_any (H : AskY B a g bg b1 b2 cell rt w) (hb : RBit bit rt) (hn : RiOk g) (q : Nat) (hq : q < 4) : Calls Tryz.prog 56 #[.int .i64 q, .pointer (some ⟨bg, 0, none⟩), .pointer (some ⟨b1, 0, none⟩), .pointer (some ⟨b2, 0, none⟩)] w fun e w' => e = .returned (.bool (oneW g cell bit q)) ∧ Quiet w w' := by
  have c0 := gf_cell H.b q hq
  have HC := hid (cfCell_any (g q) B (a q).1 (a q).2 b1 b2 cell rt bit w hb (hn q hq) (H.s.row q hq) (H.s.few q hq) H.c1 H.c2)
  have hE := hid (show (g q).any (cellWB cell bit) = oneW g cell bit q from rfl)
  have hq4 : (q : Int) < 4 := by omega
  clear H hn
  unfold gfV at c0
  generalize (g q).any (cellWB cell bit) = r at *
  go_enter Tryz.func56, Tryz.ntmps56
  go_wp2_with (go_at_call 57; refine HC.out.mono ?_; rintro e w2 ⟨rfl, q2⟩; have H2 := hid q2; clear q2)
  go_ret
  exact ⟨by rw [← hE.out]; rfl, H2.out⟩
set_option maxRecDepth 8000 in
set_option maxHeartbeats 1000000 in
theorem ifOne_any (H : AskY B a g bg b1 b2 cell rt w) (hb : RBit bit rt) (hn : RiOk g) (c : List Nat) (hc : ∀ q ∈ c, q < 4) (B2 : Nat) (ao : Option Addr) (cap : Nat) (h : w.ownsRow B2 3 1 (.slice ao c.length cap) c.length (nints c)) (hl : c.length ≤ 4) :
    Calls Tryz.prog 76 #[.slice ao c.length cap, .func (.func 56) #[] #[.pointer (some ⟨bg, 0, none⟩), .pointer (some ⟨b1, 0, none⟩), .pointer (some ⟨b2, 0, none⟩)]] w fun e w' => ∃ r : Int, e = .returned (.int .i64 r) ∧ decide (0 ≤ r) = c.any (oneW g cell bit) ∧ Quiet w w' := by
  have HR := hid h
  have HC := hid (And.intro H (And.intro hn hc))
  clear h H hn hc
  go_enter Tryz.func76, Tryz.ntmps76
  go_wp2
  go_loopw [8] (fun i wr => ∃ k : Nat, i = .int .i64 k ∧ k ≤ c.length ∧ Hid ((c.take k).any (oneW g cell bit) = false ∧ Quiet w wr)) (fun i _ => c.length - (intOf i).toNat)
  case atStart => exact ⟨0, rfl, Nat.zero_le _, hid ⟨by simp, Kp.refl _ _⟩⟩
  case round =>
    rename World => wr
    obtain ⟨k, rfl, hk, D⟩ := hrel
    by_cases hlt : k < c.length
    · obtain ⟨gg, cp, hv, hck⟩ := nints_row (D.out.2.row HR.out fun _ _ e => e) k hlt
      cases hv
      have HK := hid (yoneF_any (HC.out.1.quiet D.out.2) hb HC.out.2.1 c[k] (HC.out.2.2 _ (List.getElem_mem hlt)))
      have HT := hid (any_take hlt D.out.1)
      have HA := hid (fun e => any_at (f := oneW g cell bit) hlt e)
      generalize c[k] = z at *
      cases hbb : oneW g cell bit z with
      | true =>
        rw [hbb] at HK
        go_wp2_with (go_at_call 56; refine HK.out.mono ?_; rintro e w2 ⟨rfl, q2⟩; have Q2 := hid (D.out.2.trans q2); clear q2)
        go_ret
        exact ⟨_, rfl, by rw [HA.out hbb]; simp, Q2.out⟩
      | false =>
        rw [hbb] at HK
        go_wp2_with (go_at_call 56; refine HK.out.mono ?_; rintro e w2 ⟨rfl, q2⟩; have Q2 := hid (D.out.2.trans q2); clear q2)
        refine ⟨⟨k + 1, by go_num, by omega, hid ⟨HT.out.trans hbb, Q2.out⟩⟩, by simp [intOf]; omega⟩
    · obtain rfl : k = c.length := by omega
      have hnl : ¬ ((c.length : Int) < (c.length : Int)) := by omega
      go_wp2
      go_ret
      refine ⟨-1, rfl, ?_, D.out.2⟩
      have := D.out.1
      rw [List.take_length] at this
      rw [this]; rfl
theorem cfOne_any (H : AskY B a g bg b1 b2 cell rt w) (hb : RBit bit rt) (hn : RiOk g) (c : List Nat) (hc : ∀ q ∈ c, q < 4) (B2 : Nat) (ao : Option Addr) (cap : Nat) (h : w.ownsRow B2 3 1 (.slice ao c.length cap) c.length (nints c)) (hl : c.length ≤ 4) :
    Calls Tryz.prog 54 #[.slice ao c.length cap, .func (.func 56) #[] #[.pointer (some ⟨bg, 0, none⟩), .pointer (some ⟨b1, 0, none⟩), .pointer (some ⟨b2, 0, none⟩)]] w fun e w' => e = .returned (.bool (c.any (oneW g cell bit))) ∧ Quiet w w' := by
  have HI := hid (ifOne_any H hb hn c hc B2 ao cap h hl)
  clear h H hn hc
  go_enter Tryz.func54, Tryz.ntmps54
  go_wp2_with (go_at_call 76; refine HI.out.mono ?_; rintro e w2 ⟨r, rfl, hr, q2⟩; have H2 := hid (And.intro hr q2); clear hr q2)
  go_ret
  exact ⟨by rw [← H2.out.1]; rfl, H2.out.2⟩
theorem may_of (c : List Nat) : c.any (oneW g cell bit) = mayG g c cell bit := rfl
set_option maxRecDepth 8000 in
set_option maxHeartbeats 2000000 in
theorem ygmay_any (H : GfS B a g w) (hb : RBit bit rt) (hn : RiOk g) (p : Nat) (hp : p < 4) : Calls Tryz.prog 29 #[.agg (gfC a g), .int .i64 p, .int .i64 cell, .int .i64 rt] w fun e w' => ∃ c, Circ g p c c.length 0 ∧ e = .returned (.bool (mayG g c cell bit)) ∧ Quiet w w' := by
  obtain ⟨W, hW⟩ : ∃ W, W = ((w.alloc (.cells (gfC a g) 89)).alloc (.cells #[.int .i64 cell] 3)).alloc (.cells #[.int .i64 rt] 3) := ⟨_, rfl⟩
  have q1 : Quiet w W := by rw [hW]; exact ((Kp.alloc _ _).trans (Kp.alloc _ _)).trans (Kp.alloc _ _)
  obtain ⟨b0, b1, b2⟩ := three_new w (.cells (gfC a g) 89) (.cells #[.int .i64 cell] 3) (.cells #[.int .i64 rt] 3)
  rw [← hW] at b0 b1 b2
  have HA := hid (show AskY B a g w.heap.size (w.heap.size + 1) (w.heap.size + 1 + 1) cell rt W from ⟨H.quiet q1, b0, cell_of_one b1, cell_of_one b2⟩)
  obtain ⟨m0, m1, m2, m3⟩ := gf_all b0
  have HC := hid (ycircle_any (H.quiet q1) p hp)
  have HN := hid hn
  have HQ := hid q1
  clear b0 b1 b2 H q1 hn
  unfold gfC at HC hW ⊢
  go_enter Tryz.func29, Tryz.ntmps29
  go_upto_region 1 with fail
  rw [← hW]
  clear hW
  go_wp2_with (first
    | (go_at_call 54; refine HD.out.2.2.mono ?_; rintro e w3 ⟨rfl, q3⟩; have H3 := hid q3; clear q3)
    | (go_at_call 55; refine HC.out.mono ?_; rintro e w2 ⟨c, ao, cap, rfl, hc, hr, q2⟩; have HD := hid (And.intro hc (And.intro q2 (cfOne_any (HA.out.quiet q2) hb HN.out c hc.lt _ ao cap hr hc.few))); clear hc hr q2))
  go_ret
  exact ⟨c, HD.out.1, by rw [← may_of]; rfl, (HQ.out.trans HD.out.2.1).trans H3.out⟩
end
end Go.Proofs.YtkpckmcaeljocaaGreat
