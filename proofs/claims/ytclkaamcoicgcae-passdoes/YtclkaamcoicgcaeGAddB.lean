/- The contract of the document's put. -/
import Derived.Test.YtclkaamcoicgcaeGAddA
namespace Go.Proofs.Ytclkaamcoicgcae.Gr
open Go.ChangeShapes Go.WideShapes Go.ChangeAt Go.RowKit
section
variable {B : Nat} {w : World} {b : Nat} {vn vo : Value} {ns : List Nd} {os : List Bool}
theorem nhas_any (h : GS 45 B w b vn vo ns os) (k : Int) :
    Calls Try.prog 68 #[.pointer (some ⟨b, 0, none⟩), .int .i64 k] w fun e w' => e = .returned (.bool (thereB os.length k)) ∧ w' = w := by
  have c1 := h.cell1
  obtain ⟨ao, cap, rfl⟩ := owns_shape h.ro
  clear h
  unfold thereB
  by_cases h0 : 0 ≤ k
  · by_cases h1 : k < os.length
    · go_enter Try.func68, Try.ntmps68
      go_wp2
      go_ret
      exact ⟨by simp [*], rfl⟩
    · go_enter Try.func68, Try.ntmps68
      go_wp2
      go_ret
      exact ⟨by simp [*], rfl⟩
  · have hd : decide (0 ≤ k) = false := by simpa using h0
    go_enter Try.func68, Try.ntmps68
    go_wp2
    go_ret
    exact ⟨by simp [*], rfl⟩
set_option maxRecDepth 8000 in
set_option maxHeartbeats 4000000 in
theorem put_any (h : GS 45 B w b vn vo ns os) (n : Nd) :
    Calls Try.prog 69 #[.pointer (some ⟨b, 0, none⟩), n.agg] w (addP 45 B b vn vo ns os n w) := by
  have q1 : Quiet w (w.alloc (.cells n.cells.toArray 49)) := Kp.alloc w _
  have h1 := h.quiet q1
  have c0 := h1.cell0
  obtain ⟨i0, hi, hz0, hz1, hz2⟩ := info_parts Try.infoN
  obtain ⟨np, ng, nr, nc, nl, nf⟩ := n
  simp only [Nd.agg, Nd.cells] at *
  cases hr : decide (0 ≤ nr ∧ nr ≤ 15) with
  | false =>
    have hE := hid (add_range (ns := ns) (os := os) (n := ⟨np, ng, nr, nc, nl, nf⟩) hr)
    by_cases hr0 : nr < 0
    · have hr1 : decide (nr < 0) = true := by simpa using hr0
      go_enter Try.func69, Try.ntmps69
      go_wp2
      go_ret2
      unfold addP
      rw [hE.out]
      exact ⟨rfl, _, h1, Goes.quiet _ _ _ q1⟩
    · have hr1 : decide (nr < 0) = false := by simpa using hr0
      have hr2 : decide (15 < nr) = true := by simp at hr; simp; omega
      go_enter Try.func69, Try.ntmps69
      go_wp2
      go_ret2
      unfold addP
      rw [hE.out]
      exact ⟨rfl, _, h1, Goes.quiet _ _ _ q1⟩
  | true =>
    have hr1 : decide (nr < 0) = false := by simp at hr; simp; omega
    have hr2 : decide (15 < nr) = false := by simp at hr; simp; omega
    by_cases hg : ng = -1
    · subst hg
      by_cases hl : ns.length = 80
      · have hE := hid (add_full (ns := ns) (os := os) (n := ⟨np, -1, nr, nc, nl, nf⟩) hr (.inl rfl) hl)
        obtain ⟨ao, cap, rfl⟩ := owns_shape h1.rn
        rw [hl] at c0
        go_enter Try.func69, Try.ntmps69
        go_wp2
        go_ret2
        unfold addP
        rw [hE.out]
        exact ⟨rfl, _, h1, Goes.quiet _ _ _ q1⟩
      · have hE := hid (add_yes (ns := ns) (os := os) (n := ⟨np, -1, nr, nc, nl, nf⟩) hr (.inl rfl) hl)
        have hl2 : ns.length < 80 := by have := h1.ln; omega
        have hrn := h1.rn
        obtain ⟨ao, cap, hv⟩ := owns_shape hrn
        subst hv
        go_enter Try.func69, Try.ntmps69
        go_wp2
        have c00 := (h1.quiet (Kp.alloc _ (.cells #[.int .i64 np, .int .i64 (-1), .int .i64 nr, .int .i64 nc, .int .i64 nl, .int .i64 nf] 49))).cell0
        go_region_law ((refine step_append_lies _ (by rfl) _ _ _ (by rfl) B 49 i0 _ 6 48 Try.undN hi hz0 hz1 hz2 rfl (by omega) (.slice ao ns.length cap) ns.length (ndCells ns) (by rfl) ((hrn.alloc _).drew) ⟨w.heap.size + 1, 0, none⟩ 1 1 [.int .i64 np, .int .i64 (-1), .int .i64 nr, .int .i64 nc, .int .i64 nl, .int .i64 nf] (by rfl) (by rfl) (news_of (t := 49) (new_two w _ _)) (nd_one ⟨np, -1, nr, nc, nl, nf⟩) (by omega) (by unfold maxLen; omega) (by omega) (by have := h.size; simp; omega) (w.heap.size + 2) (by simp) ?_; intro gg cap2 w1 hown1 hgrow hat hlt; have hD0 := GS.added (n := ⟨np, -1, nr, nc, nl, nf⟩) h hl2 (two_quiet w _ _) hown1 hgrow hat (by omega); have cc : w1.cell? ⟨b, 0, none⟩ = some (.slice ao ns.length cap) := (by simp [World.cell?, hD0.1]); have ff := frozen_of_row w1 b 0 _ 45 hD0.1; have hD := hid hD0.2; clear hown1 hgrow hat hlt hD0))
        all_goals (go_wp2; go_ret2; unfold addP; rw [hE.out]; exact ⟨by simp, _, hD.out.1, hD.out.2⟩)
    · have hgd : decide (ng = -1) = false := by simpa using hg
      cases ht : thereB os.length ng with
      | false =>
        have hE := hid (add_none (ns := ns) (os := os) (n := ⟨np, ng, nr, nc, nl, nf⟩) hr hg ht)
        go_enter Try.func69, Try.ntmps69
        go_wp2_with (go_at_call 68; refine (nhas_any h1 _).mono ?_; rintro e w' ⟨rfl, rfl⟩; rw [ht])
        go_ret2
        unfold addP
        rw [hE.out]
        exact ⟨rfl, _, h1, Goes.quiet _ _ _ q1⟩
      | true =>
        by_cases hl : ns.length = 80
        · have hE := hid (add_full (ns := ns) (os := os) (n := ⟨np, ng, nr, nc, nl, nf⟩) hr (.inr ht) hl)
          obtain ⟨ao, cap, rfl⟩ := owns_shape h1.rn
          rw [hl] at c0
          go_enter Try.func69, Try.ntmps69
          go_wp2_with (go_at_call 68; refine (nhas_any h1 _).mono ?_; rintro e w' ⟨rfl, rfl⟩; rw [ht])
          go_ret2
          unfold addP
          rw [hE.out]
          exact ⟨rfl, _, h1, Goes.quiet _ _ _ q1⟩
        · have hE := hid (add_yes (ns := ns) (os := os) (n := ⟨np, ng, nr, nc, nl, nf⟩) hr (.inr ht) hl)
          have hl2 : ns.length < 80 := by have := h1.ln; omega
          have hrn := h1.rn
          obtain ⟨ao, cap, hv⟩ := owns_shape hrn
          subst hv
          go_enter Try.func69, Try.ntmps69
          go_wp2_with (go_at_call 68; refine (nhas_any h1 _).mono ?_; rintro e w' ⟨rfl, rfl⟩; rw [ht])
          have c00 := (h1.quiet (Kp.alloc _ (.cells #[.int .i64 np, .int .i64 ng, .int .i64 nr, .int .i64 nc, .int .i64 nl, .int .i64 nf] 49))).cell0
          go_region_law ((refine step_append_lies _ (by rfl) _ _ _ (by rfl) B 49 i0 _ 6 48 Try.undN hi hz0 hz1 hz2 rfl (by omega) (.slice ao ns.length cap) ns.length (ndCells ns) (by rfl) ((hrn.alloc _).drew) ⟨w.heap.size + 1, 0, none⟩ 1 1 [.int .i64 np, .int .i64 ng, .int .i64 nr, .int .i64 nc, .int .i64 nl, .int .i64 nf] (by rfl) (by rfl) (news_of (t := 49) (new_two w _ _)) (nd_one ⟨np, ng, nr, nc, nl, nf⟩) (by omega) (by unfold maxLen; omega) (by omega) (by have := h.size; simp; omega) (w.heap.size + 2) (by simp) ?_; intro gg cap2 w1 hown1 hgrow hat hlt; have hD0 := GS.added (n := ⟨np, ng, nr, nc, nl, nf⟩) h hl2 (two_quiet w _ _) hown1 hgrow hat (by omega); have cc : w1.cell? ⟨b, 0, none⟩ = some (.slice ao ns.length cap) := (by simp [World.cell?, hD0.1]); have ff := frozen_of_row w1 b 0 _ 45 hD0.1; have hD := hid hD0.2; clear hown1 hgrow hat hlt hD0))
          all_goals (go_wp2; go_ret2; unfold addP; rw [hE.out]; exact ⟨by simp, _, hD.out.1, hD.out.2⟩)
end
end Go.Proofs.Ytclkaamcoicgcae.Gr
