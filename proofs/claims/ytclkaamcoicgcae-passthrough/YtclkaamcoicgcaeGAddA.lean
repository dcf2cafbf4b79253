/- The contracts of package graph's add and of the document's put. -/
import Derived.Test.YtclkaamcoicgcaeJNet
import Derived.Deep.RegionLaw
namespace Go.Proofs.Ytclkaamcoicgcae.Gr
open Go.ChangeShapes Go.WideShapes Go.ChangeAt Go.RowKit
section
variable {B : Nat} {w : World} {b : Nat} {vn vo : Value} {ns : List Nd} {os : List Bool}
theorem add_range {n : Nd} (h : decide (0 ≤ n.rights ∧ n.rights ≤ 15) = false) : addOf ns os n = ⟨0, 1, ns, os⟩ := by
  unfold addOf; rw [if_pos (by simpa using h)]
theorem add_none {n : Nd} (h : decide (0 ≤ n.rights ∧ n.rights ≤ 15) = true) (h1 : n.gate ≠ -1) (h2 : thereB os.length n.gate = false) : addOf ns os n = ⟨0, 8, ns, os⟩ := by
  have h' : 0 ≤ n.rights ∧ n.rights ≤ 15 := by simpa using h
  unfold addOf; rw [if_neg (by simpa using h'), if_pos ⟨h1, h2⟩]
theorem add_full {n : Nd} (h : decide (0 ≤ n.rights ∧ n.rights ≤ 15) = true) (h1 : n.gate = -1 ∨ thereB os.length n.gate = true) (hl : ns.length = 80) : addOf ns os n = ⟨0, 11, ns, os⟩ := by
  have h' : 0 ≤ n.rights ∧ n.rights ≤ 15 := by simpa using h
  unfold addOf
  rw [if_neg (by simpa using h'), if_neg (by rintro ⟨a, c⟩; rcases h1 with e | e; exact a e; rw [c] at e; cases e), if_pos hl]
theorem add_yes {n : Nd} (h : decide (0 ≤ n.rights ∧ n.rights ≤ 15) = true) (h1 : n.gate = -1 ∨ thereB os.length n.gate = true) (hl : ns.length ≠ 80) : addOf ns os n = ⟨ns.length, 0, ns ++ [n], os⟩ := by
  have h' : 0 ≤ n.rights ∧ n.rights ≤ 15 := by simpa using h
  unfold addOf
  rw [if_neg (by simpa using h'), if_neg (by rintro ⟨a, c⟩; rcases h1 with e | e; exact a e; rw [c] at e; cases e), if_neg hl]
theorem news_of {w : World} {x : Nat} {l : List Value} {t : TypeId} (h : w.heap[x]? = some (.cells l.toArray t (0, 0))) : ∀ j u, l[j]? = some u → w.cell? ((⟨x, 0, none⟩ : Addr).add j) = some u := by
  intro j u hu
  rw [Addr.add_lit, cell_of_row _ _ _ _ t (0, 0) h]
  simpa using hu
theorem new_two (w : World) (o1 o2 : Obj) : ((w.alloc o1).alloc o2).drew.heap[w.heap.size + 1]? = some o2 := by
  have := heap_alloc_new (w.alloc o1) o2
  rw [show (w.alloc o1).heap.size = w.heap.size + 1 by simp] at this
  exact this
theorem two_quiet (w : World) (o1 o2 : Obj) : Quiet w ((w.alloc o1).alloc o2).drew := ((Kp.alloc w o1).trans (Kp.alloc _ o2)).trans (Kp.drew _)
def addP (t : TypeId) (B b : Nat) (vn vo : Value) (ns : List Nd) (os : List Bool) (n : Nd) (w : World) (e : Ending) (w' : World) : Prop :=
  e = .returned (.tuple #[.int .i64 (addOf ns os n).num, .int .i64 (addOf ns os n).code]) ∧ ∃ vn', GS t B w' b vn' vo (addOf ns os n).ns (addOf ns os n).os ∧ Goes b vn vo w vn' vo w'
set_option maxRecDepth 8000 in
set_option maxHeartbeats 4000000 in
theorem add_any (h : GS 70 B w b vn vo ns os) (n : Nd) :
    Calls Try.prog 45 #[.pointer (some ⟨b, 0, none⟩), n.agg] w (addP 70 B b vn vo ns os n w) := by
  have q1 : Quiet w (w.alloc (.cells n.cells.toArray 49)) := Kp.alloc w _
  have h1 := h.quiet q1
  have c0 := h1.cell0
  obtain ⟨i0, hi, hz0, hz1, hz2⟩ := info_parts Try.infoN
  obtain ⟨np, ng, nr, nc, nl, nf⟩ := n
  simp only [Nd.agg, Nd.cells] at *
  cases hr : decide (0 ≤ nr ∧ nr ≤ 15) with
  | false =>
    have hE := hid (add_range (ns := ns) (os := os) (n := ⟨np, ng, nr, nc, nl, nf⟩) hr)
    go_enter Try.func45, Try.ntmps45
    go_wp2_with ((go_at_call 67; refine (check_any _ _).mono ?_; rintro e w' ⟨rfl, rfl⟩; rw [hr]))
    go_ret2
    unfold addP
    rw [hE.out]
    exact ⟨rfl, _, h1, Goes.quiet _ _ _ q1⟩
  | true =>
    by_cases hg : ng = -1
    · subst hg
      by_cases hl : ns.length = 80
      · have hE := hid (add_full (ns := ns) (os := os) (n := ⟨np, -1, nr, nc, nl, nf⟩) hr (.inl rfl) hl)
        obtain ⟨ao, cap, rfl⟩ := owns_shape h1.rn
        rw [hl] at c0
        go_enter Try.func45, Try.ntmps45
        go_wp2_with (go_at_call 67; refine (check_any _ _).mono ?_; rintro e w' ⟨rfl, rfl⟩; rw [hr])
        go_ret2
        unfold addP
        rw [hE.out]
        exact ⟨rfl, _, h1, Goes.quiet _ _ _ q1⟩
      · have hE := hid (add_yes (ns := ns) (os := os) (n := ⟨np, -1, nr, nc, nl, nf⟩) hr (.inl rfl) hl)
        have hl2 : ns.length < 80 := by have := h1.ln; omega
        have hrn := h1.rn
        obtain ⟨ao, cap, hv⟩ := owns_shape hrn
        subst hv
        go_enter Try.func45, Try.ntmps45
        go_wp2_with (go_at_call 67; refine (check_any _ _).mono ?_; rintro e w' ⟨rfl, rfl⟩; rw [hr])
        have c00 := (h1.quiet (Kp.alloc _ (.cells #[.int .i64 np, .int .i64 (-1), .int .i64 nr, .int .i64 nc, .int .i64 nl, .int .i64 nf] 49))).cell0
        go_region_law ((refine step_append_lies _ (by rfl) _ _ _ (by rfl) B 49 i0 _ 6 48 Try.undN hi hz0 hz1 hz2 rfl (by omega) (.slice ao ns.length cap) ns.length (ndCells ns) (by rfl) ((hrn.alloc _).drew) ⟨w.heap.size + 1, 0, none⟩ 1 1 [.int .i64 np, .int .i64 (-1), .int .i64 nr, .int .i64 nc, .int .i64 nl, .int .i64 nf] (by rfl) (by rfl) (news_of (t := 49) (new_two w _ _)) (nd_one ⟨np, -1, nr, nc, nl, nf⟩) (by omega) (by unfold maxLen; omega) (by omega) (by have := h.size; simp; omega) (w.heap.size + 2) (by simp) ?_; intro gg cap2 w1 hown1 hgrow hat hlt; have hD0 := GS.added (n := ⟨np, -1, nr, nc, nl, nf⟩) h hl2 (two_quiet w _ _) hown1 hgrow hat (by omega); have cc : w1.cell? ⟨b, 0, none⟩ = some (.slice ao ns.length cap) := (by simp [World.cell?, hD0.1]); have ff := frozen_of_row w1 b 0 _ 70 hD0.1; have hD := hid hD0.2; clear hown1 hgrow hat hlt hD0))
        all_goals (go_wp2; go_ret2; unfold addP; rw [hE.out]; exact ⟨by simp, _, hD.out.1, hD.out.2⟩)
    · have hgd : decide (ng = -1) = false := by simpa using hg
      cases ht : thereB os.length ng with
      | false =>
        have hE := hid (add_none (ns := ns) (os := os) (n := ⟨np, ng, nr, nc, nl, nf⟩) hr hg ht)
        go_enter Try.func45, Try.ntmps45
        go_wp2_with (first | (go_at_call 67; refine (check_any _ _).mono ?_; rintro e w' ⟨rfl, rfl⟩; rw [hr]) | (go_at_call 66; refine (has_any h1 _).mono ?_; rintro e w' ⟨rfl, rfl⟩; rw [ht]))
        go_ret2
        unfold addP
        rw [hE.out]
        exact ⟨rfl, _, h1, Goes.quiet _ _ _ q1⟩
      | true =>
        by_cases hl : ns.length = 80
        · have hE := hid (add_full (ns := ns) (os := os) (n := ⟨np, ng, nr, nc, nl, nf⟩) hr (.inr ht) hl)
          obtain ⟨ao, cap, rfl⟩ := owns_shape h1.rn
          rw [hl] at c0
          go_enter Try.func45, Try.ntmps45
          go_wp2_with (first | (go_at_call 67; refine (check_any _ _).mono ?_; rintro e w' ⟨rfl, rfl⟩; rw [hr]) | (go_at_call 66; refine (has_any h1 _).mono ?_; rintro e w' ⟨rfl, rfl⟩; rw [ht]))
          go_ret2
          unfold addP
          rw [hE.out]
          exact ⟨rfl, _, h1, Goes.quiet _ _ _ q1⟩
        · have hE := hid (add_yes (ns := ns) (os := os) (n := ⟨np, ng, nr, nc, nl, nf⟩) hr (.inr ht) hl)
          have hl2 : ns.length < 80 := by have := h1.ln; omega
          have hrn := h1.rn
          obtain ⟨ao, cap, hv⟩ := owns_shape hrn
          subst hv
          go_enter Try.func45, Try.ntmps45
          go_wp2_with (first | (go_at_call 67; refine (check_any _ _).mono ?_; rintro e w' ⟨rfl, rfl⟩; rw [hr]) | (go_at_call 66; refine (has_any h1 _).mono ?_; rintro e w' ⟨rfl, rfl⟩; rw [ht]))
          have c00 := (h1.quiet (Kp.alloc _ (.cells #[.int .i64 np, .int .i64 ng, .int .i64 nr, .int .i64 nc, .int .i64 nl, .int .i64 nf] 49))).cell0
          go_region_law ((refine step_append_lies _ (by rfl) _ _ _ (by rfl) B 49 i0 _ 6 48 Try.undN hi hz0 hz1 hz2 rfl (by omega) (.slice ao ns.length cap) ns.length (ndCells ns) (by rfl) ((hrn.alloc _).drew) ⟨w.heap.size + 1, 0, none⟩ 1 1 [.int .i64 np, .int .i64 ng, .int .i64 nr, .int .i64 nc, .int .i64 nl, .int .i64 nf] (by rfl) (by rfl) (news_of (t := 49) (new_two w _ _)) (nd_one ⟨np, ng, nr, nc, nl, nf⟩) (by omega) (by unfold maxLen; omega) (by omega) (by have := h.size; simp; omega) (w.heap.size + 2) (by simp) ?_; intro gg cap2 w1 hown1 hgrow hat hlt; have hD0 := GS.added (n := ⟨np, ng, nr, nc, nl, nf⟩) h hl2 (two_quiet w _ _) hown1 hgrow hat (by omega); have cc : w1.cell? ⟨b, 0, none⟩ = some (.slice ao ns.length cap) := (by simp [World.cell?, hD0.1]); have ff := frozen_of_row w1 b 0 _ 70 hD0.1; have hD := hid hD0.2; clear hown1 hgrow hat hlt hD0))
          all_goals (go_wp2; go_ret2; unfold addP; rw [hE.out]; exact ⟨by simp, _, hD.out.1, hD.out.2⟩)
end
end Go.Proofs.Ytclkaamcoicgcae.Gr
