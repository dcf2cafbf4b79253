/- The contracts of Cell, Func, Derive, and of the document's Gate, Cut, Cell, Func, Derive. -/
import Derived.Test.YtclkaamcoicgcaeGAddB
namespace Go.Proofs.Ytclkaamcoicgcae.Gr
open Go.ChangeShapes Go.WideShapes Go.ChangeAt Go.RowKit
/-- What a step answers, and where it leads. -/
def StepP (t : TypeId) (B b : Nat) (vn vo : Value) (R : Res) (w : World) (e : Ending) (w' : World) : Prop :=
  e = .returned (.tuple #[.int .i64 R.num, .int .i64 R.code]) ∧ ∃ vn' vo', GS t B w' b vn' vo' R.ns R.os ∧ Goes b vn vo w vn' vo' w'
section
variable {B : Nat} {w : World} {b : Nat} {vn vo : Value} {ns : List Nd} {os : List Bool}
set_option maxRecDepth 8000 in
set_option maxHeartbeats 1000000 in
theorem cell_any (h : GS 70 B w b vn vo ns os) (c r g : Int) :
    Calls Try.prog 26 #[.pointer (some ⟨b, 0, none⟩), .int .i64 c, .int .i64 r, .int .i64 g] w (StepP 70 B b vn vo (cellOf ns os c r g) w) := by
  cases hc : cellB c with
  | false =>
    have hE := hid (show cellOf ns os c r g = ⟨0, 1, ns, os⟩ by simp [cellOf, hc])
    go_enter Try.func26, Try.ntmps26
    go_wp2_with (go_at_call 44; refine (whas_any _ _).mono ?_; rintro e w' ⟨rfl, rfl⟩; rw [hc])
    go_ret2
    unfold StepP
    rw [hE.out]
    exact ⟨rfl, _, _, h, Goes.refl _ _ _ _⟩
  | true =>
    have hE := hid (show cellOf ns os c r g = addOf ns os ⟨-1, g, r, c, -1, 0⟩ by simp [cellOf, hc])
    go_enter Try.func26, Try.ntmps26
    go_wp2_with (first | (go_at_call 44; refine (whas_any _ _).mono ?_; rintro e w' ⟨rfl, rfl⟩; rw [hc]) | (go_at_call 45; refine (add_any h ⟨-1, g, r, c, -1, 0⟩).mono ?_; rintro e w1 ⟨rfl, vn', h1, g1⟩; have HD := hid (And.intro h1 g1); clear h1 g1))
    go_ret2
    unfold StepP
    rw [hE.out]
    exact ⟨rfl, _, _, HD.out.1, HD.out.2⟩
set_option maxRecDepth 8000 in
set_option maxHeartbeats 2000000 in
theorem func_any (h : GS 70 B w b vn vo ns os) (p f r g : Int) :
    Calls Try.prog 50 #[.pointer (some ⟨b, 0, none⟩), .int .i64 p, .int .i64 f, .int .i64 r, .int .i64 g] w (StepP 70 B b vn vo (funcOf ns os p f r g) w) := by
  cases hc : funcB p f with
  | false =>
    have hE := hid (show funcOf ns os p f r g = ⟨0, 1, ns, os⟩ by simp [funcOf, hc])
    by_cases h0 : p < 0
    · have d0 : decide (p < 0) = true := by simpa using h0
      go_enter Try.func50, Try.ntmps50
      go_wp2
      go_ret2
      unfold StepP
      rw [hE.out]
      exact ⟨rfl, _, _, h, Goes.refl _ _ _ _⟩
    · have d0 : decide (p < 0) = false := by simpa using h0
      by_cases h1 : 4 ≤ p
      · have d1 : decide (4 ≤ p) = true := by simpa using h1
        go_enter Try.func50, Try.ntmps50
        go_wp2
        go_ret2
        unfold StepP
        rw [hE.out]
        exact ⟨rfl, _, _, h, Goes.refl _ _ _ _⟩
      · have d1 : decide (4 ≤ p) = false := by simpa using h1
        by_cases h2 : f < 0
        · have d2 : decide (f < 0) = true := by simpa using h2
          go_enter Try.func50, Try.ntmps50
          go_wp2
          go_ret2
          unfold StepP
          rw [hE.out]
          exact ⟨rfl, _, _, h, Goes.refl _ _ _ _⟩
        · have d2 : decide (f < 0) = false := by simpa using h2
          have h3 : 6 ≤ f := by simp [funcB] at hc; omega
          have d3 : decide (6 ≤ f) = true := by simpa using h3
          go_enter Try.func50, Try.ntmps50
          go_wp2
          go_ret2
          unfold StepP
          rw [hE.out]
          exact ⟨rfl, _, _, h, Goes.refl _ _ _ _⟩
  | true =>
    have hE := hid (show funcOf ns os p f r g = addOf ns os ⟨-1, g, r, 0, p, f⟩ by simp [funcOf, hc])
    have d0 : decide (p < 0) = false := by simp [funcB] at hc; simp; omega
    have d1 : decide (4 ≤ p) = false := by simp [funcB] at hc; simp; omega
    have d2 : decide (f < 0) = false := by simp [funcB] at hc; simp; omega
    have d3 : decide (6 ≤ f) = false := by simp [funcB] at hc; simp; omega
    go_enter Try.func50, Try.ntmps50
    go_wp2_with (go_at_call 45; refine (add_any h ⟨-1, g, r, 0, p, f⟩).mono ?_; rintro e w1 ⟨rfl, vn', h1, g1⟩; have HD := hid (And.intro h1 g1); clear h1 g1)
    go_ret2
    unfold StepP
    rw [hE.out]
    exact ⟨rfl, _, _, HD.out.1, HD.out.2⟩
set_option maxRecDepth 8000 in
set_option maxHeartbeats 1000000 in
theorem derive_any (h : GS 70 B w b vn vo ns os) (p r g : Int) :
    Calls Try.prog 52 #[.pointer (some ⟨b, 0, none⟩), .int .i64 p, .int .i64 r, .int .i64 g] w (StepP 70 B b vn vo (deriveOf ns os p r g) w) := by
  cases hc : thereB ns.length p with
  | false =>
    have hE := hid (show deriveOf ns os p r g = ⟨0, 8, ns, os⟩ by simp [deriveOf, hc])
    go_enter Try.func52, Try.ntmps52
    go_wp2_with (go_at_call 41; refine (there_any h _).mono ?_; rintro e w' ⟨rfl, rfl⟩; rw [hc])
    go_ret2
    unfold StepP
    rw [hE.out]
    exact ⟨rfl, _, _, h, Goes.refl _ _ _ _⟩
  | true =>
    have hE := hid (show deriveOf ns os p r g = addOf ns os ⟨p, g, r, 0, -1, 0⟩ by simp [deriveOf, hc])
    go_enter Try.func52, Try.ntmps52
    go_wp2_with (first | (go_at_call 41; refine (there_any h _).mono ?_; rintro e w' ⟨rfl, rfl⟩; rw [hc]) | (go_at_call 45; refine (add_any h ⟨p, g, r, 0, -1, 0⟩).mono ?_; rintro e w1 ⟨rfl, vn', h1, g1⟩; have HD := hid (And.intro h1 g1); clear h1 g1))
    go_ret2
    unfold StepP
    rw [hE.out]
    exact ⟨rfl, _, _, HD.out.1, HD.out.2⟩
set_option maxRecDepth 8000 in
set_option maxHeartbeats 1000000 in
theorem ncell_any (h : GS 45 B w b vn vo ns os) (c r g : Int) :
    Calls Try.prog 49 #[.pointer (some ⟨b, 0, none⟩), .int .i64 c, .int .i64 r, .int .i64 g] w (StepP 45 B b vn vo (cellOf ns os c r g) w) := by
  cases hc : cellB c with
  | false =>
    have hE := hid (show cellOf ns os c r g = ⟨0, 1, ns, os⟩ by simp [cellOf, hc])
    by_cases h0 : c < 0
    · have hd : decide (c < 0) = true := by simpa using h0
      go_enter Try.func49, Try.ntmps49
      go_wp2
      go_ret2
      unfold StepP
      rw [hE.out]
      exact ⟨rfl, _, _, h, Goes.refl _ _ _ _⟩
    · have hd : decide (c < 0) = false := by simpa using h0
      have hd2 : 12 ≤ c := by simp [cellB] at hc; omega
      go_enter Try.func49, Try.ntmps49
      go_wp2
      go_ret2
      unfold StepP
      rw [hE.out]
      exact ⟨rfl, _, _, h, Goes.refl _ _ _ _⟩
  | true =>
    have hE := hid (show cellOf ns os c r g = addOf ns os ⟨-1, g, r, c, -1, 0⟩ by simp [cellOf, hc])
    have hd0 : 0 ≤ c := by simp [cellB] at hc; omega
    have hd2 : ¬ 12 ≤ c := by simp [cellB] at hc; omega
    have hd : decide (c < 0) = false := by simp; omega
    go_enter Try.func49, Try.ntmps49
    go_wp2_with (go_at_call 69; refine (put_any h ⟨-1, g, r, c, -1, 0⟩).mono ?_; rintro e w1 ⟨rfl, vn', h1, g1⟩; have HD := hid (And.intro h1 g1); clear h1 g1)
    go_ret2
    unfold StepP
    rw [hE.out]
    exact ⟨rfl, _, _, HD.out.1, HD.out.2⟩
set_option maxRecDepth 8000 in
set_option maxHeartbeats 2000000 in
theorem nfunc_any (h : GS 45 B w b vn vo ns os) (p f r g : Int) :
    Calls Try.prog 51 #[.pointer (some ⟨b, 0, none⟩), .int .i64 p, .int .i64 f, .int .i64 r, .int .i64 g] w (StepP 45 B b vn vo (funcOf ns os p f r g) w) := by
  cases hc : funcB p f with
  | false =>
    have hE := hid (show funcOf ns os p f r g = ⟨0, 1, ns, os⟩ by simp [funcOf, hc])
    by_cases h0 : p < 0
    · have d0 : decide (p < 0) = true := by simpa using h0
      go_enter Try.func51, Try.ntmps51
      go_wp2
      go_ret2
      unfold StepP
      rw [hE.out]
      exact ⟨rfl, _, _, h, Goes.refl _ _ _ _⟩
    · have d0 : decide (p < 0) = false := by simpa using h0
      by_cases h1 : 4 ≤ p
      · have d1 : decide (4 ≤ p) = true := by simpa using h1
        go_enter Try.func51, Try.ntmps51
        go_wp2
        go_ret2
        unfold StepP
        rw [hE.out]
        exact ⟨rfl, _, _, h, Goes.refl _ _ _ _⟩
      · have d1 : decide (4 ≤ p) = false := by simpa using h1
        by_cases h2 : f < 0
        · have d2 : decide (f < 0) = true := by simpa using h2
          go_enter Try.func51, Try.ntmps51
          go_wp2
          go_ret2
          unfold StepP
          rw [hE.out]
          exact ⟨rfl, _, _, h, Goes.refl _ _ _ _⟩
        · have d2 : decide (f < 0) = false := by simpa using h2
          have h3 : 6 ≤ f := by simp [funcB] at hc; omega
          have d3 : decide (6 ≤ f) = true := by simpa using h3
          go_enter Try.func51, Try.ntmps51
          go_wp2
          go_ret2
          unfold StepP
          rw [hE.out]
          exact ⟨rfl, _, _, h, Goes.refl _ _ _ _⟩
  | true =>
    have hE := hid (show funcOf ns os p f r g = addOf ns os ⟨-1, g, r, 0, p, f⟩ by simp [funcOf, hc])
    have d0 : decide (p < 0) = false := by simp [funcB] at hc; simp; omega
    have d1 : decide (4 ≤ p) = false := by simp [funcB] at hc; simp; omega
    have d2 : decide (f < 0) = false := by simp [funcB] at hc; simp; omega
    have d3 : decide (6 ≤ f) = false := by simp [funcB] at hc; simp; omega
    go_enter Try.func51, Try.ntmps51
    go_wp2_with (go_at_call 69; refine (put_any h ⟨-1, g, r, 0, p, f⟩).mono ?_; rintro e w1 ⟨rfl, vn', h1, g1⟩; have HD := hid (And.intro h1 g1); clear h1 g1)
    go_ret2
    unfold StepP
    rw [hE.out]
    exact ⟨rfl, _, _, HD.out.1, HD.out.2⟩
set_option maxRecDepth 8000 in
set_option maxHeartbeats 1000000 in
theorem nderive_any (h : GS 45 B w b vn vo ns os) (p r g : Int) :
    Calls Try.prog 53 #[.pointer (some ⟨b, 0, none⟩), .int .i64 p, .int .i64 r, .int .i64 g] w (StepP 45 B b vn vo (deriveOf ns os p r g) w) := by
  cases hc : thereB ns.length p with
  | false =>
    have hE := hid (show deriveOf ns os p r g = ⟨0, 8, ns, os⟩ by simp [deriveOf, hc])
    by_cases h0 : p < 0
    · have hd : decide (p < 0) = true := by simpa using h0
      go_enter Try.func53, Try.ntmps53
      go_wp2
      go_ret2
      unfold StepP
      rw [hE.out]
      exact ⟨rfl, _, _, h, Goes.refl _ _ _ _⟩
    · have hd : decide (p < 0) = false := by simpa using h0
      have hd2 : (ns.length : Int) ≤ p := by have := there_no hc; omega
      have c0 := h.cell0
      obtain ⟨ao, cap, rfl⟩ := owns_shape h.rn
      go_enter Try.func53, Try.ntmps53
      go_wp2
      go_ret2
      unfold StepP
      rw [hE.out]
      exact ⟨rfl, _, _, h, Goes.refl _ _ _ _⟩
  | true =>
    have hE := hid (show deriveOf ns os p r g = addOf ns os ⟨p, g, r, 0, -1, 0⟩ by simp [deriveOf, hc])
    have hd0 : 0 ≤ p := by simp [thereB] at hc; omega
    have hd2 : ¬ (ns.length : Int) ≤ p := by simp [thereB] at hc; omega
    have hd : decide (p < 0) = false := by simp; omega
    have c0 := h.cell0
    obtain ⟨ao, cap, hv⟩ := owns_shape h.rn
    subst hv
    go_enter Try.func53, Try.ntmps53
    go_wp2_with (go_at_call 69; refine (put_any h ⟨p, g, r, 0, -1, 0⟩).mono ?_; rintro e w1 ⟨rfl, vn', h1, g1⟩; have HD := hid (And.intro h1 g1); clear h1 g1)
    go_ret2
    unfold StepP
    rw [hE.out]
    exact ⟨rfl, _, _, HD.out.1, HD.out.2⟩
def ngateOf (ns : List Nd) (os : List Bool) : Res := if os.length = 20 then ⟨0, 11, ns, os⟩ else ⟨os.length, 0, ns, os ++ [false]⟩
def ncutOf (ns : List Nd) (os : List Bool) (k : Int) : Res := if thereB os.length k then ⟨0, 0, ns, os.set k.toNat true⟩ else ⟨0, 8, ns, os⟩
theorem ncut_any (h : GS 45 B w b vn vo ns os) (k : Int) :
    Calls Try.prog 48 #[.pointer (some ⟨b, 0, none⟩), .int .i64 k] w fun e w' => e = .returned (.int .i64 (ncutOf ns os k).code) ∧ GS 45 B w' b vn vo (ncutOf ns os k).ns (ncutOf ns os k).os ∧ Goes b vn vo w vn vo w' := by
  have c1 := h.cell1
  cases ht : thereB os.length k with
  | false =>
    have hE := hid (show ncutOf ns os k = ⟨0, 8, ns, os⟩ by simp [ncutOf, ht])
    go_enter Try.func48, Try.ntmps48
    go_wp2_with (go_at_call 68; refine (nhas_any h _).mono ?_; rintro e w' ⟨rfl, rfl⟩)
    go_ret
    rw [hE.out]
    exact ⟨rfl, h, Goes.refl _ _ _ _⟩
  | true =>
    have hE := hid (show ncutOf ns os k = ⟨0, 0, ns, os.set k.toNat true⟩ by simp [ncutOf, ht])
    obtain ⟨j, rfl, hj⟩ := there_yes ht
    have hro := h.ro
    obtain ⟨ao, cap, rfl⟩ := owns_shape hro
    obtain ⟨g, rfl, d⟩ := owns_at hro (by omega)
    have cj := bool_at d j hj
    have fj := owns_free hro j
    have hD := hid (h.cut rfl true (k := j))
    clear hro d
    go_enter Try.func48, Try.ntmps48
    go_wp2_with (go_at_call 68; refine (nhas_any h _).mono ?_; rintro e w' ⟨rfl, rfl⟩)
    go_ret
    rw [hE.out]
    exact ⟨rfl, hD.out.1, hD.out.2⟩
set_option maxRecDepth 8000 in
set_option maxHeartbeats 1000000 in
theorem ngate_any (h : GS 45 B w b vn vo ns os) :
    Calls Try.prog 46 #[.pointer (some ⟨b, 0, none⟩)] w fun e w' => e = .returned (.tuple #[.int .i64 (ngateOf ns os).num, .int .i64 (ngateOf ns os).code]) ∧ ∃ vo', GS 45 B w' b vn vo' (ngateOf ns os).ns (ngateOf ns os).os ∧ Goes b vn vo w vn vo' w' := by
  have c1 := h.cell1
  have hB := h.size
  obtain ⟨i0, hi, hz0, hz1, hz2⟩ := info_parts Try.infoB
  by_cases hl : os.length = 20
  · have hE := hid (show ngateOf ns os = ⟨0, 11, ns, os⟩ by simp [ngateOf, hl])
    have hro := h.ro
    obtain ⟨ao, cap, rfl⟩ := owns_shape hro
    rw [hl] at c1
    have hq := hid h
    clear h hro
    go_enter Try.func46, Try.ntmps46
    go_wp2
    go_ret2
    rw [hE.out]
    refine ⟨rfl, _, hq.out, Goes.refl _ _ _ _⟩
  · have hE := hid (show ngateOf ns os = ⟨os.length, 0, ns, os ++ [false]⟩ by simp [ngateOf, hl])
    have hlg := h.lg
    have hl2 : os.length < 20 := by omega
    have hro := h.ro
    obtain ⟨ao, cap, hv⟩ := owns_shape hro
    subst hv
    go_enter Try.func46, Try.ntmps46
    go_wp2_with (at_builtin; refine wpList_append_lies _ rfl (.tmp 14) (.tmp 15) 43 rfl B 4 i0 _ 1 1 Try.undB hi hz0 hz1 hz2 rfl (by decide) _ os.length (bools os) rfl (hro.alloc _) ⟨w.heap.size, 0, none⟩ 1 1 [.bool false] rfl rfl (news_at w _ 4) (by simp [Value.oneCell']) (by decide) (by unfold maxLen; omega) (by omega) (by simp; omega) (w.heap.size + 1) (by simp) ?_; intro g cap2 w1 hr hg hat hlt; have hD0 := GS.gated h hl2 hr hg hat; have cc : w1.cell? ⟨b, 1, none⟩ = some (.slice ao os.length cap) := (by simp [World.cell?, hD0.1]); have ff := frozen_of_row w1 b 1 _ 45 hD0.1; have hD := hid hD0.2; clear hr hg hat hlt hD0)
    go_ret2
    rw [hE.out]
    exact ⟨by simp, _, hD.out.1, hD.out.2⟩

end
end Go.Proofs.Ytclkaamcoicgcae.Gr
