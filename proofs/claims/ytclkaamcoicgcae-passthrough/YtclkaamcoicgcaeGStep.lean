/- The contract of the statements' graphStep: a step in both. -/
import Derived.Test.YtclkaamcoicgcaeGMake
import Derived.Deep.RegionWith
namespace Go.Proofs.Ytclkaamcoicgcae.Gr
open Go.ChangeShapes Go.WideShapes Go.ChangeAt Go.RowKit
def nstepOf (ns : List Nd) (os : List Bool) (x : Stp) : Res :=
  if x.d = 0 then ngateOf ns os else if x.d = 1 then ncutOf ns os x.a else if x.d = 2 then cellOf ns os x.a x.b x.c
  else if x.d = 3 then funcOf ns os x.a x.e x.b x.c else if x.d = 4 then deriveOf ns os x.a x.b x.c else ⟨0, 0, ns, os⟩
theorem add_same (ns : List Nd) (os ss : List Bool) (n : Nd) (h : ss.length = os.length) : (addOf ns ss n).num = (addOf ns os n).num ∧ (addOf ns ss n).code = (addOf ns os n).code ∧ (addOf ns ss n).ns = (addOf ns os n).ns := by
  unfold addOf
  rw [h]
  split
  · exact ⟨rfl, rfl, rfl⟩
  · split
    · exact ⟨rfl, rfl, rfl⟩
    · split <;> exact ⟨rfl, rfl, rfl⟩
theorem step_same (ns : List Nd) (os ss : List Bool) (x : Stp) (h : ss.length = os.length) : (nstepOf ns ss x).num = (stepOf ns os x).num ∧ (nstepOf ns ss x).code = (stepOf ns os x).code ∧ (nstepOf ns ss x).ns = (stepOf ns os x).ns := by
  unfold nstepOf stepOf
  split
  · unfold ngateOf gateOf; rw [h]; split <;> exact ⟨rfl, rfl, rfl⟩
  · split
    · unfold ncutOf cutOf; rw [h]; split <;> exact ⟨rfl, rfl, rfl⟩
    · split
      · unfold cellOf; split
        · exact add_same _ _ _ _ h
        · exact ⟨rfl, rfl, rfl⟩
      · split
        · unfold funcOf; split
          · exact add_same _ _ _ _ h
          · exact ⟨rfl, rfl, rfl⟩
        · split
          · unfold deriveOf; split
            · exact add_same _ _ _ _ h
            · exact ⟨rfl, rfl, rfl⟩
          · exact ⟨rfl, rfl, rfl⟩
theorem step_told (ns nr : List Nd) (os ss : List Bool) (x : Stp) : nr = ns → ss.length = os.length → (stepOf ns os x).num = (nstepOf nr ss x).num ∧ (stepOf ns os x).code = (nstepOf nr ss x).code := by
  rintro rfl h
  exact ⟨(step_same _ _ _ _ h).1.symm, (step_same _ _ _ _ h).2.1.symm⟩
theorem add_os (ns : List Nd) (os : List Bool) (n : Nd) : (addOf ns os n).os = os := by
  unfold addOf
  split
  · rfl
  · split
    · rfl
    · split <;> rfl
theorem step_shut (ns : List Nd) (os : List Bool) (x : Stp) : (nstepOf ns (os.map (! ·)) x).os = (stepOf ns os x).os.map (! ·) := by
  unfold nstepOf stepOf
  split
  · unfold ngateOf gateOf; rw [List.length_map]; split <;> simp
  · split
    · unfold ncutOf cutOf; rw [List.length_map]; split <;> simp [List.map_set]
    · split
      · unfold cellOf; split
        · rw [add_os, add_os]
        · rfl
      · split
        · unfold funcOf; split
          · rw [add_os, add_os]
          · rfl
        · split
          · unfold deriveOf; split
            · rw [add_os, add_os]
            · rfl
          · rfl
def Stp.agg (x : Stp) : Value := .agg #[.int .i64 x.d, .int .i64 x.a, .int .i64 x.b, .int .i64 x.c, .int .i64 x.e]
def Stp.obj (x : Stp) : Obj := .cells #[.int .i64 x.d, .int .i64 x.a, .int .i64 x.b, .int .i64 x.c, .int .i64 x.e] 62
/-- What a step of two objects may do. -/
structure Two (b : Nat) (vn vo : Value) (b2 : Nat) (vn2 vo2 : Value) (w : World) (vn' vo' vn2' vo2' : Value) (w' : World) : Prop where
  kp : Kp (fun k => Own b vn vo k ∨ Own b2 vn2 vo2 k) w w'
  own : ∀ k, Own b vn' vo' k → Own b vn vo k ∨ w.heap.size ≤ k
  own2 : ∀ k, Own b2 vn2' vo2' k → Own b2 vn2 vo2 k ∨ w.heap.size ≤ k
  beside : Beside b vn' vo' b2 vn2' vo2'
section
variable {B B2 : Nat} {w w1 w2 : World} {b b2 : Nat} {vn vo vn2 vo2 vn' vo' vn2' vo2' : Value} {ns nr : List Nd} {os ss : List Bool}
theorem two_of {wa : World} (q : Quiet w wa) (g1 : Goes b vn vo wa vn' vo' w1) (g2 : Goes b2 vn2 vo2 w1 vn2' vo2' w2) (h1 : GS 70 B w1 b vn' vo' ns os) (hb : Beside b vn' vo' b2 vn2 vo2) : Two b vn vo b2 vn2 vo2 w vn' vo' vn2' vo2' w2 := by
  have s1 := Nat.le_trans q.size g1.kp.size
  refine ⟨((q.mono fun _ _ e => e.elim).trans (g1.kp.mono fun _ _ e => .inl e)).trans (g2.kp.mono fun _ _ e => .inr e), ?_, ?_, ?_⟩
  · intro k hk
    rcases g1.own k hk with e | e
    · exact .inl e
    · exact .inr (Nat.le_trans q.size e)
  · intro k hk
    rcases g2.own k hk with e | e
    · exact .inl e
    · exact .inr (Nat.le_trans s1 e)
  · intro k e1 e2
    rcases g2.own k e2 with e | e
    · exact hb k e1 e
    · have := (h1.own k e1).2; omega
theorem GS.kept2 {t : TypeId} (h1 : GS t B w1 b vn' vo' ns os) (g2 : Goes b2 vn2 vo2 w1 vn2' vo2' w2) (hb : Beside b vn' vo' b2 vn2 vo2) : GS t B w2 b vn' vo' ns os := h1.kept g2.kp fun k e e2 => hb k e e2
theorem x_at {w : World} {x : Nat} {a0 a1 a2 a3 a4 : Value} {t : TypeId} (h : w.heap[x]? = some (.cells #[a0, a1, a2, a3, a4] t (0, 0))) :
    w.cell? ⟨x, 0, none⟩ = some a0 ∧ w.cell? ⟨x, 1, none⟩ = some a1 ∧ w.cell? ⟨x, 2, none⟩ = some a2 ∧ w.cell? ⟨x, 3, none⟩ = some a3 ∧ w.cell? ⟨x, 4, none⟩ = some a4 := by
  simp [World.cell?, h]
def StepQ (B B2 b : Nat) (vn vo : Value) (b2 : Nat) (vn2 vo2 : Value) (ns : List Nd) (os : List Bool) (nr : List Nd) (ss : List Bool) (x : Stp) (w : World) (e : Ending) (w' : World) : Prop :=
  ∃ q vn' vo' vn2' vo2', e = .returned (.bool q) ∧ (nr = ns → ss.length = os.length → q = true) ∧ GS 70 B w' b vn' vo' (stepOf ns os x).ns (stepOf ns os x).os ∧ GS 45 B2 w' b2 vn2' vo2' (nstepOf nr ss x).ns (nstepOf nr ss x).os ∧ Two b vn vo b2 vn2 vo2 w vn' vo' vn2' vo2' w'
set_option maxRecDepth 8000 in
set_option maxRecDepth 8000 in
set_option maxHeartbeats 8000000 in
theorem gstep_any (hg : GS 70 B w b vn vo ns os) (hr : GS 45 B2 w b2 vn2 vo2 nr ss) (hb : Beside b vn vo b2 vn2 vo2) (x : Stp) :
    Calls Try.prog 28 #[.pointer (some ⟨b, 0, none⟩), .pointer (some ⟨b2, 0, none⟩), x.agg] w (StepQ B B2 b vn vo b2 vn2 vo2 ns os nr ss x w) := by
  have hsame := hid (step_told ns nr os ss x)
  have q0 : Quiet w (w.alloc x.obj) := Kp.alloc w _
  have g0 := hg.quiet q0
  have r0 := hr.quiet q0
  have x0 := heap_alloc_new w x.obj
  have xn : ¬ Own b vn vo w.heap.size := fun e => by have := (hg.own _ e).2; omega
  clear hg hr
  obtain ⟨xd, xa, xb, xc, xe⟩ := x
  simp only [Stp.agg, Stp.obj] at *
  by_cases d0 : xd = 0
  · subst d0
    have E1 := hid (show stepOf ns os ⟨0, xa, xb, xc, xe⟩ = gateOf ns os from rfl)
    have E2 := hid (show nstepOf nr ss ⟨0, xa, xb, xc, xe⟩ = ngateOf nr ss from rfl)
    rw [E1.out, E2.out] at hsame
    go_enter Try.func28, Try.ntmps28
    go_wp2_with (first
      | (go_at_call 25; refine (gate_any g0).mono ?_; rintro e w3 ⟨rfl, vo', g3, k3⟩; obtain ⟨r3, hb3⟩ := k3.beside r0 hb)
      | (go_at_call 46; refine (ngate_any r3).mono ?_; rintro e w4 ⟨rfl, vo2', r4, k4⟩; have HF := hid (And.intro (GS.kept2 g3 k4 hb3) (And.intro r4 (two_of q0 k3 k4 g3 hb3))); clear g3 k3 r3 hb3 r4 k4; generalize (gateOf ns os).num = n1 at *; generalize (gateOf ns os).code = n2 at *; generalize (ngateOf nr ss).num = n3 at *; generalize (ngateOf nr ss).code = n4 at *))
    all_goals (go_ret; exact ⟨_, _, _, _, _, rfl, fun a b => by have hh := hsame.out a b; first | exact absurd hh.1 (by assumption) | (simp [hh.2]), by rw [E1.out]; exact HF.out.1, by rw [E2.out]; exact HF.out.2.1, HF.out.2.2⟩)
  · have e0 : decide (xd = 0) = false := by simpa using d0
    by_cases d1 : xd = 1
    · subst d1
      have E1 := hid (show stepOf ns os ⟨1, xa, xb, xc, xe⟩ = cutOf ns os xa from rfl)
      have E2 := hid (show nstepOf nr ss ⟨1, xa, xb, xc, xe⟩ = ncutOf nr ss xa from rfl)
      rw [E1.out, E2.out] at hsame
      go_enter Try.func28, Try.ntmps28
      go_wp2_with fail
      go_region_with (first
        | (go_at_call 47; refine (cut_any (g0.quiet (Kp.drew _)) _).mono ?_; rintro e w3 ⟨rfl, g3, k3⟩; obtain ⟨r3, hb3⟩ := k3.beside (r0.quiet (Kp.drew _)) hb; obtain ⟨y0, y1, y2, y3, y4⟩ := x_at (k3.block x0 xn).1)
        | (go_at_call 48; refine (ncut_any r3 _).mono ?_; rintro e w4 ⟨rfl, r4, k4⟩; have HF := hid (And.intro (GS.kept2 g3 k4 hb3) (And.intro r4 (two_of (q0.trans (Kp.drew _)) k3 k4 g3 hb3))); clear g3 k3 r3 hb3 r4 k4; generalize (cutOf ns os xa).code = n2 at *; generalize (ncutOf nr ss xa).code = n4 at *))
      all_goals (go_wp2; go_ret; exact ⟨_, _, _, _, _, rfl, fun a b => by have hh := hsame.out a b; first | exact absurd hh.1 (by assumption) | (simp [hh.2]), by rw [E1.out]; exact HF.out.1, by rw [E2.out]; exact HF.out.2.1, HF.out.2.2⟩)
    · have e1 : decide (xd = 1) = false := by simpa using d1
      by_cases d2 : xd = 2
      · subst d2
        have E1 := hid (show stepOf ns os ⟨2, xa, xb, xc, xe⟩ = cellOf ns os xa xb xc from rfl)
        have E2 := hid (show nstepOf nr ss ⟨2, xa, xb, xc, xe⟩ = cellOf nr ss xa xb xc from rfl)
        rw [E1.out, E2.out] at hsame
        go_enter Try.func28, Try.ntmps28
        go_wp2_with (first
          | (go_at_call 26; refine (cell_any g0 _ _ _).mono ?_; rintro e w3 ⟨rfl, vn', vo', g3, k3⟩; obtain ⟨r3, hb3⟩ := k3.beside r0 hb; obtain ⟨y0, y1, y2, y3, y4⟩ := x_at (k3.block x0 xn).1)
          | (go_at_call 49; refine (ncell_any r3 _ _ _).mono ?_; rintro e w4 ⟨rfl, vn2', vo2', r4, k4⟩; have HF := hid (And.intro (GS.kept2 g3 k4 hb3) (And.intro r4 (two_of q0 k3 k4 g3 hb3))); clear g3 k3 r3 hb3 r4 k4; generalize (cellOf ns os xa xb xc).num = n1 at *; generalize (cellOf ns os xa xb xc).code = n2 at *; generalize (cellOf nr ss xa xb xc).num = n3 at *; generalize (cellOf nr ss xa xb xc).code = n4 at *))
        all_goals (go_ret; exact ⟨_, _, _, _, _, rfl, fun a b => by have hh := hsame.out a b; first | exact absurd hh.1 (by assumption) | (simp [hh.2]), by rw [E1.out]; exact HF.out.1, by rw [E2.out]; exact HF.out.2.1, HF.out.2.2⟩)
      · have e2 : decide (xd = 2) = false := by simpa using d2
        by_cases d3 : xd = 3
        · subst d3
          have E1 := hid (show stepOf ns os ⟨3, xa, xb, xc, xe⟩ = funcOf ns os xa xe xb xc from rfl)
          have E2 := hid (show nstepOf nr ss ⟨3, xa, xb, xc, xe⟩ = funcOf nr ss xa xe xb xc from rfl)
          rw [E1.out, E2.out] at hsame
          go_enter Try.func28, Try.ntmps28
          go_wp2_with (first
            | (go_at_call 50; refine (func_any g0 _ _ _ _).mono ?_; rintro e w3 ⟨rfl, vn', vo', g3, k3⟩; obtain ⟨r3, hb3⟩ := k3.beside r0 hb; obtain ⟨y0, y1, y2, y3, y4⟩ := x_at (k3.block x0 xn).1)
            | (go_at_call 51; refine (nfunc_any r3 _ _ _ _).mono ?_; rintro e w4 ⟨rfl, vn2', vo2', r4, k4⟩; have HF := hid (And.intro (GS.kept2 g3 k4 hb3) (And.intro r4 (two_of q0 k3 k4 g3 hb3))); clear g3 k3 r3 hb3 r4 k4; generalize (funcOf ns os xa xe xb xc).num = n1 at *; generalize (funcOf ns os xa xe xb xc).code = n2 at *; generalize (funcOf nr ss xa xe xb xc).num = n3 at *; generalize (funcOf nr ss xa xe xb xc).code = n4 at *))
          all_goals (go_ret; exact ⟨_, _, _, _, _, rfl, fun a b => by have hh := hsame.out a b; first | exact absurd hh.1 (by assumption) | (simp [hh.2]), by rw [E1.out]; exact HF.out.1, by rw [E2.out]; exact HF.out.2.1, HF.out.2.2⟩)
        · have e3 : decide (xd = 3) = false := by simpa using d3
          by_cases d4 : xd = 4
          · subst d4
            have E1 := hid (show stepOf ns os ⟨4, xa, xb, xc, xe⟩ = deriveOf ns os xa xb xc from rfl)
            have E2 := hid (show nstepOf nr ss ⟨4, xa, xb, xc, xe⟩ = deriveOf nr ss xa xb xc from rfl)
            rw [E1.out, E2.out] at hsame
            go_enter Try.func28, Try.ntmps28
            go_wp2_with (first
              | (go_at_call 52; refine (derive_any g0 _ _ _).mono ?_; rintro e w3 ⟨rfl, vn', vo', g3, k3⟩; obtain ⟨r3, hb3⟩ := k3.beside r0 hb; obtain ⟨y0, y1, y2, y3, y4⟩ := x_at (k3.block x0 xn).1)
              | (go_at_call 53; refine (nderive_any r3 _ _ _).mono ?_; rintro e w4 ⟨rfl, vn2', vo2', r4, k4⟩; have HF := hid (And.intro (GS.kept2 g3 k4 hb3) (And.intro r4 (two_of q0 k3 k4 g3 hb3))); clear g3 k3 r3 hb3 r4 k4; generalize (deriveOf ns os xa xb xc).num = n1 at *; generalize (deriveOf ns os xa xb xc).code = n2 at *; generalize (deriveOf nr ss xa xb xc).num = n3 at *; generalize (deriveOf nr ss xa xb xc).code = n4 at *))
            all_goals (go_ret; exact ⟨_, _, _, _, _, rfl, fun a b => by have hh := hsame.out a b; first | exact absurd hh.1 (by assumption) | (simp [hh.2]), by rw [E1.out]; exact HF.out.1, by rw [E2.out]; exact HF.out.2.1, HF.out.2.2⟩)
          · have e4 : decide (xd = 4) = false := by simpa using d4
            have E1 := hid (show stepOf ns os ⟨xd, xa, xb, xc, xe⟩ = ⟨0, 0, ns, os⟩ by simp [stepOf, d0, d1, d2, d3, d4])
            have E2 := hid (show nstepOf nr ss ⟨xd, xa, xb, xc, xe⟩ = ⟨0, 0, nr, ss⟩ by simp [nstepOf, d0, d1, d2, d3, d4])
            have HF := hid (And.intro g0 (And.intro r0 (two_of q0 (Goes.refl b vn vo _) (Goes.refl b2 vn2 vo2 _) g0 hb)))
            go_enter Try.func28, Try.ntmps28
            go_wp2
            go_ret
            exact ⟨_, _, _, _, _, rfl, fun _ _ => rfl, by rw [E1.out]; exact HF.out.1, by rw [E2.out]; exact HF.out.2.1, HF.out.2.2⟩
end
end Go.Proofs.Ytclkaamcoicgcae.Gr
