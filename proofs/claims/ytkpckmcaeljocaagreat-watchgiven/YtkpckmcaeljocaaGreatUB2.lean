/- Parts. -/
import Derived.Test.YtkpckmcaeljocaaGreatUM6
namespace Go.Proofs.YtkpckmcaeljocaaGreat
open Go.ChangeShapes Go.WideShapes Go.ChangeAt Go.RowKit
open Gr (Nd Res nd0 thereB deriveOf addOf gateOf cutOf rightsN wayOf gatesOf gatesW targetOf Wf NdOk GS IntsAt)
section
variable {B bb g wd : Nat} {vn vo vl : Value} {ms : Mods} {s : Sg} {a b c d : Pg} {w w' : World} {v : V} {va : Option Addr} {vc : Nat} {p f fuel : Int} {X : Nat → Prop}
theorem run_refusedX {c : Int} (hci : ∀ c ∈ s.cs, In64 c) (H : BoxX X B w bb g wd vn vo vl ms s) (k : Kp (fun i => w.heap.size ≤ i) w w') : RunXQ X B bb g wd vn vo vl ms (.error c, 0, s) w (.returned (.tuple #[.agg #[.int .i64 0, .int .i64 0, .slice none 0 0], .int .i64 0, .int .i64 c])) w' := by
  have hq : Quiet w w' := ⟨k.os, k.tape, k.output, k.size, fun i hi _ => k.block i hi (by omega)⟩
  exact ⟨none, 0, vn, vo, vl, rfl, safe_leaf v0 v0_fits rfl none, H.quiet hq, GoesB.quiet _ _ _ _ _ _ hq, hci⟩
theorem mach_newX {X : Nat → Prop} {w2 : World} {b1 : Nat} (H : BoxX X B w bb g wd vn vo vl ms s) (hX : ∀ k, X k → k < w.heap.size) (k : Quiet w w2) (h1 : w.heap.size ≤ b1) (h2 : b1 < w2.heap.size) (h0 : 0 ≤ fuel) (hf : fuel ≤ 2000) (hci : ∀ c ∈ s.cs, In64 c) :
    MS ⟨B, bb, g, wd, w2.heap.size, ms, fuel⟩ (fun k => k = w2.heap.size ∨ k = b1 ∨ X k) ⟨vn, vo, vl⟩ s fuel.toNat (0 : Nat) (w2.alloc (.cells #[.pointer (some ⟨bb, 0, none⟩), .int .i64 fuel, .int .i64 0, .int .i64 0] 168)) := by
  obtain ⟨a, b, c, d, hB, hk⟩ := H
  have q3 : Quiet w (w2.alloc (.cells #[.pointer (some ⟨bb, 0, none⟩), .int .i64 fuel, .int .i64 0, .int .i64 0] 168)) := k.trans (Kp.alloc _ _)
  have hsz := k.size
  refine ⟨⟨a, b, c, d, hB.quiet q3, fun x hx => ?_⟩, ?_, .inl rfl, fun i e => ?_, hf, by show ((fuel.toNat : Nat) : Int) ≤ fuel; omega, hci⟩
  · refine (hk x hx).step (q3.mono fun _ _ e => e.elim) fun i hi e => ?_
    rcases e with e | e | e | e
    · exact .inl e
    · omega
    · omega
    · exact .inr e
  · have h := heap_alloc_new w2 (.cells #[.pointer (some ⟨bb, 0, none⟩), .int .i64 fuel, .int .i64 0, .int .i64 0] 168)
    rw [show fuel - ((fuel.toNat : Nat) : Int) = 0 by omega]
    exact h
  · have : i < w2.heap.size + 1 := by
      rcases e with e | e | e
      · omega
      · omega
      · have := hX i e; omega
    simpa using this
theorem run_doneX {X : Nat → Prop} {M : Mx} {q5 : Vs} {o : Out} {calls : Int} {ya : Option Addr} {yc b1 : Nat} {x0 x1 x2 : Value} {W3 w5 w7 : World} (hm : w.heap.size ≤ M.mb) (k3 : Quiet w W3) (g5 : GoesM M ⟨vn, vo, vl⟩ W3 q5 w5) (m5 : MS M (fun k => k = M.mb ∨ k = b1 ∨ X k) q5 o.s o.left calls w5) (s5 : SafeF (fun k => M.own q5 k ∨ k = M.mb ∨ k = b1 ∨ X k) (fun w => Is w (gotV o.got) ya) w5)
    (hb : w5.heap[b1]? = some (.cells #[x0, x1, x2] 38 (0, 0))) (hn : ¬ M.own q5 b1) (hb1 : w.heap.size ≤ b1) (hbm : b1 ≠ M.mb) (k7 : Kp (fun k => k = b1) w5 w7) :
    RunXQ X M.B M.bb M.g M.wd vn vo vl M.ms (o.got, M.fuel - (o.left : Int), o.s) w (.returned (.tuple #[.agg #[.int .i64 (gotV o.got).kind, .int .i64 (gotV o.got).n, .slice ya (gotV o.got).l.length yc], .int .i64 (M.fuel - (o.left : Int)), .int .i64 (gotC o.got)])) w7 := by
  have m7 : MS M (fun k => k = M.mb ∨ X k) q5 o.s o.left calls w7 := m5.turn k7 (fun i e => .inr (.inl e)) (fun e => hbm e.symm) (fun i hi e => hn (e ▸ hi)) (fun i cs t hi ht e => by
    rw [e, hb] at hi
    simp at hi
    rcases ht with ht | ht <;> rw [ht] at hi <;> exact absurd hi.2 (by decide)) (fun i _ e => by rcases e with e | e; exact .inl e; exact .inr (.inr e)) (.inl rfl) (fun i e => Nat.lt_of_lt_of_le (m5.xo i (by rcases e with e | e; exact .inl e; exact .inr (.inr e))) k7.size)
  obtain ⟨a, b, c, d, hB, hk⟩ := m7.box
  refine ⟨ya, yc, q5.n, q5.o, q5.l, rfl, s5.step (k7.mono fun i _ e => .inr (.inr (.inl e))) (fun i _ e => by rcases e with e | e; exact .inl e; exact .inr (.inr (.inr e))), ⟨a, b, c, d, hB, fun x hx => (hk x hx).mono fun i _ e => by rcases e with e | e; exact .inl e; exact .inr (.inr e)⟩, goesB_of ((GoesM.after k3 g5).fresh (k7.mono fun i _ e => by omega)) hm, m7.ci⟩
set_option maxRecDepth 8000 in
set_option maxHeartbeats 4000000 in
theorem run_x (X : Nat → Prop) (B bb g wd : Nat) (vn vo vl : Value) (ms : Mods) (s : Sg) (p f fuel : Int) (v : V) (ao : Option Addr) (cap : Nat) (w : World) (H : BoxX X B w bb g wd vn vo vl ms s) (hX : ∀ k, X k → k < w.heap.size) (hM : FitsM ms) (hci : ∀ c ∈ s.cs, In64 c) (hes : s.es.length ≤ 900000)
    (hI : SafeF (fun k => OwnB bb g wd vn vo vl k ∨ X k) (fun w => Is w v ao) w) (hS : v.size ≤ 500) :
    Calls Tryz.prog 73 #[.pointer (some ⟨bb, 0, none⟩), .int .i64 p, .int .i64 f, .agg #[.int .i64 v.kind, .int .i64 v.n, .slice ao v.l.length cap], .int .i64 fuel] w fun e w' => RunXQ X B bb g wd vn vo vl ms (runR ms p f v fuel s) w e w' := by
  have q1 : Quiet w ((w.alloc (.cells #[.int .i64 v.kind, .int .i64 v.n, .slice ao v.l.length cap] 38)).alloc (.cells #[.int .i64 0, .int .i64 0, .slice none 0 0] 38)) := (Kp.alloc _ _).trans (Kp.alloc _ _)
  have b0 : ((w.alloc (.cells #[.int .i64 v.kind, .int .i64 v.n, .slice ao v.l.length cap] 38)).alloc (.cells #[.int .i64 0, .int .i64 0, .slice none 0 0] 38)).heap[w.heap.size]? = some (.cells #[.int .i64 v.kind, .int .i64 v.n, .slice ao v.l.length cap] 38 (0, 0)) := by rw [Below.heap_alloc _ _ _ (by simp)]; exact heap_alloc_new w _
  have b1 := heap_two w (.cells #[.int .i64 v.kind, .int .i64 v.n, .slice ao v.l.length cap] 38) (.cells #[.int .i64 0, .int .i64 0, .slice none 0 0] 38)
  have HY := hid (xmay_any (p := p) (f := f) (fuel := fuel) (vc := cap) (boxis_quiet H.is q1) (hI.now.quiet q1) hS)
  by_cases hm : mayN ms p f v fuel = 0
  · obtain ⟨y1, y2, y3, y4, y5⟩ := run_yes (s := s) hm
    rw [hm] at HY
    rw [y5]
    have HH := hid (And.intro H (And.intro q1 (And.intro b1 hci)))
    have HN := hid (fun (w2 : World) (k : Quiet ((w.alloc (.cells #[.int .i64 v.kind, .int .i64 v.n, .slice ao v.l.length cap] 38)).alloc (.cells #[.int .i64 0, .int .i64 0, .slice none 0 0] 38)) w2) => mach_newX (b1 := w.heap.size + 1) H hX (q1.trans k) (by omega) (by have := k.size; simp at this; omega) y3 y4 hci)
    have HR := hid (fun (w2 : World) (k : Quiet ((w.alloc (.cells #[.int .i64 v.kind, .int .i64 v.n, .slice ao v.l.length cap] 38)).alloc (.cells #[.int .i64 0, .int .i64 0, .slice none 0 0] 38)) w2) => xrun_any (vc := cap) (M := ⟨B, bb, g, wd, w2.heap.size, ms, fuel⟩) hM (HN.out w2 k) y1 y2 (by omega) (hI.step ((q1.trans k).trans (Kp.alloc _ (.cells #[.pointer (some ⟨bb, 0, none⟩), .int .i64 fuel, .int .i64 0, .int .i64 0] 168)) |>.mono fun _ _ e => e.elim) fun i hi e => by
      have h1 := k.size
      simp at h1
      rcases e with e | e | e | e
      · exact .inl e
      · omega
      · omega
      · exact .inr e))
    have HB := hid (fun (w2 : World) (k : Quiet ((w.alloc (.cells #[.int .i64 v.kind, .int .i64 v.n, .slice ao v.l.length cap] 38)).alloc (.cells #[.int .i64 0, .int .i64 0, .slice none 0 0] 38)) w2) => box_cells ((k.block _ (lt_of_block b0) fun e => e).trans b0))
    simp only at HR
    generalize CallF ms 0 p f v fuel.toNat s = o at *
    clear H q1 b0 b1 hI hS hM hci hes y1 y2 y5 hm hX
    go_enter Tryz.func73, Tryz.ntmps73
    go_wp2_with (first
      | (go_at_call 93; refine (HR.out w2 H2.out).mono ?_; rintro e w5 ⟨q5, ya, yc, calls5, rfl, g5, m5, s5⟩; have hb5 := g5.block ((Kp.alloc (F := fun _ => False) w2 (.cells #[.pointer (some ⟨bb, 0, none⟩), .int .i64 fuel, .int .i64 0, .int .i64 0] 168)).block _ (lt_of_block HX.out) (fun e => e) |>.trans HX.out) (HH.out.1.is.elim fun a h => h.elim fun b h => h.elim fun c h => h.elim fun d h => h.new _ (by omega)) (by show w.heap.size + 1 ≠ w2.heap.size; have := lt_of_block HX.out; omega); obtain ⟨d0, d1, d2⟩ := box_cells hb5.1; obtain ⟨f0, f1, f2⟩ := box_free3 hb5.1; have hz1 := lt_of_block hb5.1; have H5 := hid (And.intro g5 (And.intro m5 (And.intro s5 hb5))); clear g5 m5 s5 hb5)
      | (go_at_call 92; refine HY.out.mono ?_; rintro e w2 ⟨rfl, q2⟩; obtain ⟨z0, z1, z2⟩ := HB.out _ (q2.trans (Kp.alloc w2 (.cells #[.pointer (some ⟨bb, 0, none⟩), .int .i64 fuel, .int .i64 0, .int .i64 0] 168))); have H2 := hid q2; have HX := hid ((q2.block _ (lt_of_block HH.out.2.2.1) fun e => e).trans HH.out.2.2.1); clear q2))
    have b6 := three_put H5.out.2.2.2.1 (.int .i64 (gotV o.got).kind) (.int .i64 (gotV o.got).n) (.slice ya (gotV o.got).l.length yc)
    have k6 := three_set w5 (w.heap.size + 1) (.int .i64 (gotV o.got).kind) (.int .i64 (gotV o.got).n) (.slice ya (gotV o.got).l.length yc)
    have hne : w2.heap.size ≠ w.heap.size + 1 := by have := lt_of_block HX.out; omega
    have r2 := k6.cell (H5.out.2.1.cells.2.2.1) hne
    simp only at r2
    generalize ((w5.setCell ⟨w.heap.size + 1, 0, none⟩ (.int .i64 (gotV o.got).kind)).setCell ⟨w.heap.size + 1, 1, none⟩ (.int .i64 (gotV o.got).n)).setCell ⟨w.heap.size + 1, 2, none⟩ (.slice ya (gotV o.got).l.length yc) = W6 at *
    have HK := hid (And.intro k6 b6)
    obtain ⟨t0, t1, t2⟩ := box_cells b6
    obtain ⟨j0, j1, j2⟩ := box_free3 b6
    have hz6 := lt_of_block b6
    clear k6 b6 d0 d1 d2 f0 f1 f2 hz1 z0 z1 z2
    go_region
    go_wp2
    have b7 := three_put HK.out.2 (.int .i64 (gotV o.got).kind) (.int .i64 (gotV o.got).n) (.slice ya (gotV o.got).l.length yc)
    have k7 := three_set W6 (w.heap.size + 1) (.int .i64 (gotV o.got).kind) (.int .i64 (gotV o.got).n) (.slice ya (gotV o.got).l.length yc)
    generalize ((W6.setCell ⟨w.heap.size + 1, 0, none⟩ (.int .i64 (gotV o.got).kind)).setCell ⟨w.heap.size + 1, 1, none⟩ (.int .i64 (gotV o.got).n)).setCell ⟨w.heap.size + 1, 2, none⟩ (.slice ya (gotV o.got).l.length yc) = W7 at *
    obtain ⟨x0, x1, x2⟩ := box_cells b7
    obtain ⟨g5, m5, s5, hb5, hn5⟩ := H5.out
    have hw2 := HX.out
    refine bodyPost_ret (v := .tuple #[.agg #[.int .i64 (gotV o.got).kind, .int .i64 (gotV o.got).n, .slice ya (gotV o.got).l.length yc], .int .i64 (fuel - (o.left : Int)), .int .i64 (gotC o.got)]) (by simp [results, Tryz.results73, go_sem, x0, x1, x2]) rfl ?_
    exact run_doneX (M := ⟨B, bb, g, wd, w2.heap.size, ms, fuel⟩) (by have := lt_of_block hw2; show w.heap.size ≤ w2.heap.size; omega) ((HH.out.2.1.trans H2.out).trans (Kp.alloc _ _)) g5 m5 s5 hb5 hn5 (by omega) (fun e => hne e.symm) ((HK.out.1.trans k7).trans (Kp.drew _))
  · rw [run_no hm]
    have HH := hid (And.intro H q1)
    have HB := hid b1
    generalize mayN ms p f v fuel = c at *
    clear H q1 b0 b1 hI hS hM hes
    go_enter Tryz.func73, Tryz.ntmps73
    go_wp2_with (go_at_call 92; refine HY.out.mono ?_; rintro e w2 ⟨rfl, q2⟩; have hb2 := (q2.block _ (lt_of_block HB.out) fun e => e).trans HB.out; obtain ⟨d0, d1, d2⟩ := box_cells hb2; obtain ⟨f0, f1, f2⟩ := box_free3 hb2; have hz1 := lt_of_block hb2; have H2 := hid (And.intro q2 hb2); clear q2 hb2)
    have b3 := three_put H2.out.2 (.int .i64 0) (.int .i64 0) (.slice none 0 0)
    have k3 := three_set w2 (w.heap.size + 1) (.int .i64 0) (.int .i64 0) (.slice none 0 0)
    generalize ((w2.setCell ⟨w.heap.size + 1, 0, none⟩ (.int .i64 0)).setCell ⟨w.heap.size + 1, 1, none⟩ (.int .i64 0)).setCell ⟨w.heap.size + 1, 2, none⟩ (.slice none 0 0) = W3 at *
    obtain ⟨z0, z1, z2⟩ := box_cells b3
    refine bodyPost_ret (v := .tuple #[.agg #[.int .i64 0, .int .i64 0, .slice none 0 0], .int .i64 0, .int .i64 c]) (by simp [results, Tryz.results73, go_sem, z0, z1, z2]) rfl ?_
    refine run_refusedX hci HH.out.1 (((HH.out.2.trans H2.out.1).mono fun _ _ e => e.elim).trans (k3.mono fun k _ e => by omega))
end
end Go.Proofs.YtkpckmcaeljocaaGreat
