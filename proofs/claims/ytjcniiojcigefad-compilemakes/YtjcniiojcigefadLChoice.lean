/- What a lister lists of an if: the places that are not known yet are written anew. -/
import Derived.Test.YtjcniiojcigefadLWalk
namespace Go.Proofs.Ytjcniiojcigefad
open Go.ChangeShapes Go.WideShapes Go.ChangeAt Go.RowKit
theorem three_at (w : World) (o1 o2 o3 : Obj) : (((w.alloc o1).alloc o2).alloc o3).heap[w.heap.size + 1]? = some o2 ∧ (((w.alloc o1).alloc o2).alloc o3).heap[w.heap.size + 1 + 1]? = some o3 := by
  refine ⟨?_, ?_⟩
  · rw [Below.heap_alloc _ _ _ (by simp)]; exact heap_two w o1 o2
  · have := heap_two (w.alloc o1) o2 o3
    simpa using this
set_option maxRecDepth 8000 in
set_option maxHeartbeats 4000000 in
theorem lchoice_of (w0 : World) (b : Nat) (v u t : V) (hv : ExprL w0 b v) (hu : ExprL w0 b u) (ht : ExprL w0 b t) (va ua ta : Option Addr) (vc uc tc : Nat) (c : List Ik) (w : World) (iv : Is w0 v va) (iu : Is w0 u ua) (it : Is w0 t ta) (ov : Ok v) (ou : Ok u) (ot : Ok t)
    (hB : Below w0.heap.size w0 w) (hb : w0.heap.size ≤ b) (h : Lst b c w) (hl : c.length + 3 * v.size + 3 * u.size + 3 * t.size + 2 ≤ 8000000) :
    Calls Try.prog 24 #[.pointer (some ⟨b, 0, none⟩), .agg #[.int .i64 v.kind, .int .i64 v.k, .int .i64 v.n, .slice va v.l.length vc], .agg #[.int .i64 u.kind, .int .i64 u.k, .int .i64 u.n, .slice ua u.l.length uc], .agg #[.int .i64 t.kind, .int .i64 t.k, .int .i64 t.n, .slice ta t.l.length tc]] w fun e w' => e = .returned (.tuple #[]) ∧ Lst b (c ++ ifC v u t c.length) w' ∧ KI b w w' := by
  obtain ⟨W, hW⟩ : ∃ W, W = ((w.alloc (.cells #[.int .i64 v.kind, .int .i64 v.k, .int .i64 v.n, .slice va v.l.length vc] 38)).alloc (.cells #[.int .i64 u.kind, .int .i64 u.k, .int .i64 u.n, .slice ua u.l.length uc] 38)).alloc (.cells #[.int .i64 t.kind, .int .i64 t.k, .int .i64 t.n, .slice ta t.l.length tc] 38) := ⟨_, rfl⟩
  have q : Quiet w W := by rw [hW]; exact (Kp.alloc _ _).trans ((Kp.alloc _ _).trans (Kp.alloc _ _))
  have hlt := h.lt
  have b12 := three_at w (.cells #[.int .i64 v.kind, .int .i64 v.k, .int .i64 v.n, .slice va v.l.length vc] 38) (.cells #[.int .i64 u.kind, .int .i64 u.k, .int .i64 u.n, .slice ua u.l.length uc] 38) (.cells #[.int .i64 t.kind, .int .i64 t.k, .int .i64 t.n, .slice ta t.l.length tc] 38)
  rw [← hW] at b12
  have HBU := hid (fun (w' : World) (k : KI b W w') => box_cells (k.box b12.1 (by omega) (by decide)))
  have HBT := hid (fun (w' : World) (k : KI b W w') => box_cells (k.box b12.2 (by omega) (by decide)))
  have HW := hid (And.intro hW (KI.quiet q (Nat.le_of_lt hlt)))
  have HV := hid (hv va vc c W iv ov (low_ki hB (KI.quiet q (Nat.le_of_lt hlt)) hb) hb (h.quiet q) (by omega))
  have HB := hid (low_ki hB (KI.quiet q (Nat.le_of_lt hlt)) hb)
  have HU := hid (fun (d : List Ik) (w' : World) (k : Below w0.heap.size w0 w') (h : Lst b d w') (hd : d.length + 3 * u.size ≤ 8000000) => hu ua uc d w' iu ou k hb h hd)
  have HT := hid (fun (d : List Ik) (w' : World) (k : Below w0.heap.size w0 w') (h : Lst b d w') (hd : d.length + 3 * t.size ≤ 8000000) => ht ta tc d w' it ot k hb h hd)
  have hcl := code_len v c.length
  have hcu := code_len u (c.length + (v.code c.length).length + 1)
  rw [hW] at HV
  clear hv hu ht iv iu it q b12 hW h
  go_enter Try.func24, Try.ntmps24
  go_wp2_with (first
    | (go_at_call 17; refine (lput_any b c5 ⟨104, 0, 0⟩ _ h5 l5).mono ?_; rintro e w6 ⟨rfl, h6, k6⟩; replace k6 := k5.trans k6; obtain ⟨c6, E6, h6⟩ := h6.ex; replace E6 := hid E6)
    | (go_at_call 16; refine (HU.out c4 w4 (low_ki HB.out k4 hb) h4 l4).mono ?_; rintro e w5 ⟨rfl, h5, k5⟩; replace k5 := k4.trans k5; obtain ⟨c5, E5, h5⟩ := h5.ex; replace E5 := hid E5; have l5 : c5.length ≤ 9000000 := (by rw [E5.out, E4.out, E3.out]; simp only [List.length_append, List.length_singleton]; omega))
    | (go_at_call 17; refine (lput_any b c3 ⟨103, 0, 0⟩ _ h3 l3).mono ?_; rintro e w4 ⟨rfl, h4, k4⟩; replace k4 := k3.trans k4; obtain ⟨c4, E4, h4⟩ := h4.ex; replace E4 := hid E4; obtain ⟨z0, z9, z1, z2⟩ := HBU.out _ k4; have l4 : c4.length + 3 * u.size ≤ 8000000 := (by rw [E4.out, E3.out]; simp only [List.length_append, List.length_singleton]; omega))
    | (go_at_call 16; refine HV.out.mono ?_; rintro e w3 ⟨rfl, h3, k3⟩; rw [← HW.out.1] at k3; obtain ⟨c3, E3, h3⟩ := h3.ex; replace E3 := hid E3; have l3 : c3.length ≤ 9000000 := (by rw [E3.out]; simp only [List.length_append]; omega)))
  clear z0 z9 z1 z2
  have e6 : c6 = c3 ++ ([⟨103, 0, 0⟩] ++ (u.code c4.length ++ [⟨104, 0, 0⟩])) := by rw [E6.out, E5.out, E4.out]; simp only [List.append_assoc]
  obtain ⟨n6, hn6⟩ : ∃ n, c6.length = n := ⟨_, rfl⟩
  obtain ⟨g, cap, ⟨s0, s1, s2, s3⟩, hs⟩ := lst_set (e6 ▸ h6)
  rw [← e6, hn6] at s0
  obtain ⟨m3, hm3⟩ : ∃ n, c3.length = n := ⟨_, rfl⟩
  rw [hm3] at s1 s2 hs ⊢
  have hlt6 : m3 < n6 := by rw [← hn6, e6, ← hm3]; simp
  have hn6b : n6 + 3 * t.size ≤ 8000000 := by
    have h1 := code_len u c4.length
    rw [← hn6, E6.out, E5.out, List.length_append, List.length_append, List.length_singleton]
    rw [E4.out, E3.out] at h1 ⊢
    simp only [List.length_append, List.length_singleton] at h1 ⊢
    omega
  have HS := hid hs
  have HN := hid (And.intro hn6 (And.intro hm3 e6))
  have H6 := hid (And.intro h6 k6)
  clear hs hn6 hm3 e6 h6 k6 h5 h4 h3

  obtain ⟨w7, hw7⟩ : ∃ w7, w7 = (w6.setCell ⟨g, m3 * 3 + 1, none⟩ (.int .i64 (n6 : Int))).drew := ⟨_, rfl⟩
  have h7 : Lst b (c3 ++ ([⟨103, (n6 : Int), 0⟩] ++ (u.code c4.length ++ [⟨104, 0, 0⟩]))) w7 := by rw [hw7]; exact (HS.out n6).1.quiet (Kp.drew _)
  have k7 : KI b W w7 := by rw [hw7]; exact H6.out.2.trans (((HS.out n6).2).trans (KI.quiet (Kp.drew (F := fun _ => False) _) (by have := H6.out.1.lt; simp; omega)))
  obtain ⟨z0, z9, z1, z2⟩ := HBT.out _ k7
  obtain ⟨c7, E7, h7⟩ := h7.ex
  replace E7 := hid E7
  have l7 : c7.length + 3 * t.size ≤ 8000000 := by
    have : c7.length = c6.length := by rw [E7.out, HN.out.2.2]; simp
    rw [this, HN.out.1]; exact hn6b
  have HH7 := hid h7
  clear HS h7
  go_region
  rw [← hw7]
  replace hw7 := hid hw7
  clear s0 s1 s2 s3
  go_wp2_with (go_at_call 16; refine (HT.out c7 w7 (low_ki HB.out k7 hb) HH7.out l7).mono ?_; rintro e w8 ⟨rfl, h8, k8⟩)
  replace k8 := k7.trans k8
  clear z0 z9 z1 z2
  have e8 : c7 ++ t.code c7.length = (c3 ++ ([(⟨103, (n6 : Int), 0⟩ : Ik)] ++ u.code c4.length)) ++ ([(⟨104, 0, 0⟩ : Ik)] ++ t.code n6) := by
    have : c7.length = n6 := by rw [E7.out, ← HN.out.1, HN.out.2.2]; simp
    rw [this, E7.out]; simp only [List.append_assoc]
  have e5 : (c3 ++ ([(⟨103, (n6 : Int), 0⟩ : Ik)] ++ u.code c4.length)).length = c5.length := by rw [E5.out, E4.out]; simp only [List.append_assoc, List.length_append, List.length_singleton]
  have l8 : (c7 ++ t.code c7.length).length ≤ 8000000 := by
    have := code_len t c7.length
    rw [List.length_append]; omega
  rw [e8] at h8 l8
  obtain ⟨g8, cap8, ⟨s0, s1, s2, s3⟩, hs⟩ := lst_set h8
  obtain ⟨n8, hn8⟩ : ∃ n, ((c3 ++ ([(⟨103, (n6 : Int), 0⟩ : Ik)] ++ u.code c4.length)) ++ ([(⟨104, 0, 0⟩ : Ik)] ++ t.code n6)).length = n := ⟨_, rfl⟩
  have hlt8 : c5.length < n8 := by rw [← hn8, List.length_append, e5]; simp
  rw [e5] at s1 s2 hs
  rw [hn8] at s0 l8
  have HS := hid hs
  have H8 := hid (And.intro h8 k8)
  have HN8 := hid (And.intro hn8 (And.intro e8 e5))
  clear hs h8 k8 hn8 e8 e5
  go_region
  go_wp2
  go_end0
  refine ⟨rfl, ?_, HW.out.2.trans (H8.out.2.trans (((HS.out n8).2).trans (KI.quiet (Kp.drew (F := fun _ => False) _) (by have := H8.out.1.lt; simp; omega))))⟩
  have h9 := (HS.out n8).1.quiet (Kp.drew (F := fun _ => False) _)
  have f3 : c3.length = c.length + (v.code c.length).length := by rw [E3.out, List.length_append]
  have f4 : c4.length = c.length + (v.code c.length).length + 1 := by rw [E4.out, List.length_append, f3]; rfl
  have f6 : n6 = elseAt v u c.length := by
    rw [← HN.out.1, HN.out.2.2]
    simp only [List.length_append, List.length_singleton, f3, f4]
    unfold elseAt; omega
  have f8 : n8 = elseAt v u c.length + (t.code (elseAt v u c.length)).length := by
    rw [← HN8.out.1]
    have h1 := HN8.out.2.2
    have h2 := HN.out.1
    rw [E6.out] at h2
    simp only [List.length_append, List.length_singleton] at h1 h2 ⊢
    rw [← f6]; omega
  have e9 : (c3 ++ ([(⟨103, (n6 : Int), 0⟩ : Ik)] ++ u.code c4.length)) ++ ([⟨104, (n8 : Int), 0⟩] ++ t.code n6) = c ++ ifC v u t c.length := by
    unfold ifC
    rw [f8, f6, f4, E3.out]
    simp only [List.append_assoc]
  rw [← e9]; exact h9
end Go.Proofs.Ytjcniiojcigefad
