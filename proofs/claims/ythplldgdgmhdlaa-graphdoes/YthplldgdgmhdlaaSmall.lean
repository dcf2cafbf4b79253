/- The contracts of package graph: New, Has, Open, Cut, Gate and what they call. -/
import Derived.Test.YthplldgdgmhdlaaNet
namespace Go.Proofs.Ythplldgdgmhdlaa
open Go.ChangeShapes Go.WideShapes Go.ChangeAt Go.RowKit
theorem Try.infoN : (Try.prog.info? 65).map (fun i => (i.zero, i.size, i.bytes)) = some (some (.agg #[.int .i64 0, .int .i64 0, .int .i64 0, .int .i64 0, .int .i64 0, .int .i64 0]), 6, 48) := by kernel_rfl
theorem Try.infoB : (Try.prog.info? 4).map (fun i => (i.zero, i.size, i.bytes)) = some (some (.bool false), 1, 1) := by kernel_rfl
theorem Try.infoI : (Try.prog.info? 3).map (fun i => (i.zero, i.size, i.bytes)) = some (some (.int .i64 0), 1, 8) := by kernel_rfl
theorem Try.undN : Try.prog.underlying 55 = some (.slice 65) := by kernel_rfl
theorem Try.undB : Try.prog.underlying 56 = some (.slice 4) := by kernel_rfl
theorem Try.undI : Try.prog.underlying 70 = some (.slice 3) := by kernel_rfl
theorem news_at (w : World) (l : List Value) (t : TypeId) : ∀ j u, l[j]? = some u → (w.alloc (.cells l.toArray t)).cell? ((⟨w.heap.size, 0, none⟩ : Addr).add j) = some u := by
  intro j u hu
  rw [Addr.add_lit, cell_of_row _ _ _ _ t (0, 0) (heap_alloc_new w _)]
  simpa using hu
theorem check_any (a : Int) (w : World) :
    Calls Try.prog 13 #[.int .i64 a] w fun e w' => e = .returned (.bool (decide (0 ≤ a ∧ a ≤ 15))) ∧ w' = w := by
  by_cases h0 : 0 ≤ a
  · by_cases h1 : a ≤ 15
    · go_enter Try.func13, Try.ntmps13
      go_wp2
      go_ret
      exact ⟨by simp [*], rfl⟩
    · go_enter Try.func13, Try.ntmps13
      go_wp2
      go_ret
      exact ⟨by simp [*], rfl⟩
  · have hd : decide (0 ≤ a) = false := by simpa using h0
    go_enter Try.func13, Try.ntmps13
    go_wp2
    go_ret
    exact ⟨by simp [*], rfl⟩
theorem whas_any (a : Int) (w : World) :
    Calls Try.prog 20 #[.int .i64 a] w fun e w' => e = .returned (.bool (cellB a)) ∧ w' = w := by
  unfold cellB
  by_cases h0 : 0 ≤ a
  · by_cases h1 : a < 12
    · go_enter Try.func20, Try.ntmps20
      go_wp2
      go_ret
      exact ⟨by simp [*], rfl⟩
    · go_enter Try.func20, Try.ntmps20
      go_wp2
      go_ret
      exact ⟨by simp [*], rfl⟩
  · have hd : decide (0 ≤ a) = false := by simpa using h0
    go_enter Try.func20, Try.ntmps20
    go_wp2
    go_ret
    exact ⟨by simp [*], rfl⟩
theorem meet_any (a b : Nat) (ha : a ≤ 15) (hb : b ≤ 15) (w : World) :
    Calls Try.prog 15 #[.int .i64 a, .int .i64 b] w fun e w' => e = .returned (.int .i64 ((a &&& b : Nat) : Int)) ∧ w' = w := by
  have hE := hid (and_small a b ha hb)
  go_enter Try.func15, Try.ntmps15
  go_wp2
  go_ret
  exact ⟨by rw [← hE.out]; rfl, rfl⟩
theorem new_any (B : Nat) (w : World) (hB : B ≤ w.heap.size) :
    Calls Try.prog 28 #[] w fun e w' => e = .returned (.pointer (some ⟨w.heap.size, 0, none⟩)) ∧ GS 84 B w' w.heap.size (.slice none 0 0) (.slice none 0 0) [] [] ∧ Quiet w w' := by
  have hw := hid (GS.new w 84 hB)
  go_enter Try.func28, Try.ntmps28
  go_wp2
  go_ret
  exact ⟨rfl, hw.out, Kp.alloc w _⟩
section
variable {B : Nat} {w : World} {b : Nat} {vn vo : Value} {ns : List Nd} {os : List Bool}
theorem has_any (h : GS 84 B w b vn vo ns os) (k : Int) :
    Calls Try.prog 39 #[.pointer (some ⟨b, 0, none⟩), .int .i64 k] w fun e w' => e = .returned (.bool (thereB os.length k)) ∧ w' = w := by
  have c1 := h.cell1
  obtain ⟨ao, cap, rfl⟩ := owns_shape h.ro
  clear h
  unfold thereB
  by_cases h0 : 0 ≤ k
  · by_cases h1 : k < os.length
    · go_enter Try.func39, Try.ntmps39
      go_wp2
      go_ret
      exact ⟨by simp [*], rfl⟩
    · go_enter Try.func39, Try.ntmps39
      go_wp2
      go_ret
      exact ⟨by simp [*], rfl⟩
  · have hd : decide (0 ≤ k) = false := by simpa using h0
    go_enter Try.func39, Try.ntmps39
    go_wp2
    go_ret
    exact ⟨by simp [*], rfl⟩
theorem there_any (h : GS 84 B w b vn vo ns os) (k : Int) :
    Calls Try.prog 59 #[.pointer (some ⟨b, 0, none⟩), .int .i64 k] w fun e w' => e = .returned (.bool (thereB ns.length k)) ∧ w' = w := by
  have c1 := h.cell0
  obtain ⟨ao, cap, rfl⟩ := owns_shape h.rn
  clear h
  unfold thereB
  by_cases h0 : 0 ≤ k
  · by_cases h1 : k < ns.length
    · go_enter Try.func59, Try.ntmps59
      go_wp2
      go_ret
      exact ⟨by simp [*], rfl⟩
    · go_enter Try.func59, Try.ntmps59
      go_wp2
      go_ret
      exact ⟨by simp [*], rfl⟩
  · have hd : decide (0 ≤ k) = false := by simpa using h0
    go_enter Try.func59, Try.ntmps59
    go_wp2
    go_ret
    exact ⟨by simp [*], rfl⟩
theorem open_any (h : GS 84 B w b vn vo ns os) (k : Int) :
    Calls Try.prog 41 #[.pointer (some ⟨b, 0, none⟩), .int .i64 k] w fun e w' => e = .returned (.bool (openB os k)) ∧ w' = w := by
  have c1 := h.cell1
  cases ht : thereB os.length k with
  | false =>
    have hE := hid (show openB os k = false by simp [openB, ht])
    go_enter Try.func41, Try.ntmps41
    go_wp2_with (go_at_call 39; refine (has_any h _).mono ?_; rintro e w' ⟨rfl, rfl⟩)
    go_ret
    exact ⟨by rw [hE.out]; rfl, rfl⟩
  | true =>
    have hE := hid (show openB os k = os.getD k.toNat false by simp [openB, ht])
    obtain ⟨j, rfl, hj⟩ := there_yes ht
    have hro := h.ro
    obtain ⟨ao, cap, rfl⟩ := owns_shape hro
    obtain ⟨g, rfl, d⟩ := owns_at hro (by omega)
    have cj := bool_at d j hj
    clear hro d
    go_enter Try.func41, Try.ntmps41
    go_wp2_with (go_at_call 39; refine (has_any h _).mono ?_; rintro e w' ⟨rfl, rfl⟩)
    go_ret
    exact ⟨by rw [hE.out]; simp [hj], rfl⟩
theorem cut_any (h : GS 84 B w b vn vo ns os) (k : Int) :
    Calls Try.prog 49 #[.pointer (some ⟨b, 0, none⟩), .int .i64 k] w fun e w' => e = .returned (.int .i64 (cutOf ns os k).code) ∧ GS 84 B w' b vn vo (cutOf ns os k).ns (cutOf ns os k).os ∧ Goes b vn vo w vn vo w' := by
  have c1 := h.cell1
  cases ht : thereB os.length k with
  | false =>
    have hE := hid (show cutOf ns os k = ⟨0, 8, ns, os⟩ by simp [cutOf, ht])
    go_enter Try.func49, Try.ntmps49
    go_wp2_with (go_at_call 39; refine (has_any h _).mono ?_; rintro e w' ⟨rfl, rfl⟩)
    go_ret
    rw [hE.out]
    exact ⟨rfl, h, Goes.refl _ _ _ _⟩
  | true =>
    have hE := hid (show cutOf ns os k = ⟨0, 0, ns, os.set k.toNat false⟩ by simp [cutOf, ht])
    obtain ⟨j, rfl, hj⟩ := there_yes ht
    have hro := h.ro
    obtain ⟨ao, cap, rfl⟩ := owns_shape hro
    obtain ⟨g, rfl, d⟩ := owns_at hro (by omega)
    have cj := bool_at d j hj
    have fj := owns_free hro j
    have hD := hid (h.cut rfl false (k := j))
    clear hro d
    go_enter Try.func49, Try.ntmps49
    go_wp2_with (go_at_call 39; refine (has_any h _).mono ?_; rintro e w' ⟨rfl, rfl⟩)
    go_ret
    rw [hE.out]
    exact ⟨rfl, hD.out.1, hD.out.2⟩
set_option maxHeartbeats 1000000 in
theorem gate_any (h : GS 84 B w b vn vo ns os) :
    Calls Try.prog 46 #[.pointer (some ⟨b, 0, none⟩)] w fun e w' => e = .returned (.tuple #[.int .i64 (gateOf ns os).num, .int .i64 (gateOf ns os).code]) ∧ ∃ vo', GS 84 B w' b vn vo' (gateOf ns os).ns (gateOf ns os).os ∧ Goes b vn vo w vn vo' w' := by
  have c1 := h.cell1
  have hB := h.size
  obtain ⟨i0, hi, hz0, hz1, hz2⟩ := info_parts Try.infoB
  by_cases hl : os.length = 20
  · have hE := hid (show gateOf ns os = ⟨0, 11, ns, os⟩ by simp [gateOf, hl])
    have hro := h.ro
    obtain ⟨ao, cap, rfl⟩ := owns_shape hro
    rw [hl] at c1
    have hq := hid h
    clear h hro
    go_enter Try.func46, Try.ntmps46
    go_wp2
    go_ret2
    rw [hE.out]
    refine ⟨rfl, _, hq.out, Goes.refl _ _ _ _⟩
  · have hE := hid (show gateOf ns os = ⟨os.length, 0, ns, os ++ [true]⟩ by simp [gateOf, hl])
    have hlg := h.lg
    have hl2 : os.length < 20 := by omega
    have hro := h.ro
    obtain ⟨ao, cap, hv⟩ := owns_shape hro
    subst hv
    go_enter Try.func46, Try.ntmps46
    go_wp2_with (at_builtin; refine wpList_append_lies _ rfl (.tmp 14) (.tmp 15) 56 rfl B 4 i0 _ 1 1 Try.undB hi hz0 hz1 hz2 rfl (by decide) _ os.length (bools os) rfl (hro.alloc _) ⟨w.heap.size, 0, none⟩ 1 1 [.bool true] rfl rfl (news_at w _ 4) (by simp [Value.oneCell']) (by decide) (by unfold maxLen; omega) (by omega) (by simp; omega) (w.heap.size + 1) (by simp) ?_; intro g cap2 w1 hr hg hat hlt; have hD0 := GS.gated h hl2 hr hg hat; have cc : w1.cell? ⟨b, 1, none⟩ = some (.slice ao os.length cap) := (by simp [World.cell?, hD0.1]); have ff := frozen_of_row w1 b 1 _ 84 hD0.1; have hD := hid hD0.2; clear hr hg hat hlt hD0)
    go_ret2
    rw [hE.out]
    exact ⟨by simp, _, hD.out.1, hD.out.2⟩
end
end Go.Proofs.Ythplldgdgmhdlaa
