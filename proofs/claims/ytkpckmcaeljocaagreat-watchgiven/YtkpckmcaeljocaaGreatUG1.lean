/- Parts. -/
import Derived.Test.YtkpckmcaeljocaaGreatUG0
namespace Go.Proofs.YtkpckmcaeljocaaGreat.Gr
open Go.ChangeShapes Go.WideShapes Go.ChangeAt Go.RowKit
section
variable {B : Nat} {w : World} {b : Nat} {vn vo : Value} {ns : List Nd} {os : List Bool}
end
def StepP (t : TypeId) (B b : Nat) (vn vo : Value) (R : Res) (w : World) (e : Ending) (w' : World) : Prop :=
  e = .returned (.tuple #[.int .i64 R.num, .int .i64 R.code]) ∧ ∃ vn' vo', GS t B w' b vn' vo' R.ns R.os ∧ Goes b vn vo w vn' vo' w'
section
variable {B : Nat} {w : World} {b : Nat} {vn vo : Value} {ns : List Nd} {os : List Bool}
set_option maxRecDepth 8000 in
set_option maxHeartbeats 1000000 in
theorem cell_any (h : GS 101 B w b vn vo ns os) (c r g : Int) :
    Calls Tryz.prog 91 #[.pointer (some ⟨b, 0, none⟩), .int .i64 c, .int .i64 r, .int .i64 g] w (StepP 101 B b vn vo (cellOf ns os c r g) w) := by
  cases hc : cellB c with
  | false =>
    have hE := hid (show cellOf ns os c r g = ⟨0, 1, ns, os⟩ by simp [cellOf, hc])
    go_enter Tryz.func91, Tryz.ntmps91
    go_wp2_with (go_at_call 103; refine (whas_any _ _).mono ?_; rintro e w' ⟨rfl, rfl⟩; rw [hc])
    go_ret2
    unfold StepP
    rw [hE.out]
    exact ⟨rfl, _, _, h, Goes.refl _ _ _ _⟩
  | true =>
    have hE := hid (show cellOf ns os c r g = addOf ns os ⟨-1, g, r, c, -1, 0⟩ by simp [cellOf, hc])
    go_enter Tryz.func91, Tryz.ntmps91
    go_wp2_with (first | (go_at_call 103; refine (whas_any _ _).mono ?_; rintro e w' ⟨rfl, rfl⟩; rw [hc]) | (go_at_call 102; refine (add_any h ⟨-1, g, r, c, -1, 0⟩).mono ?_; rintro e w1 ⟨rfl, vn', h1, g1⟩; have HD := hid (And.intro h1 g1); clear h1 g1))
    go_ret2
    unfold StepP
    rw [hE.out]
    exact ⟨rfl, _, _, HD.out.1, HD.out.2⟩
set_option maxRecDepth 8000 in
set_option maxHeartbeats 2000000 in
theorem func_any (h : GS 101 B w b vn vo ns os) (p f r g : Int) :
    Calls Tryz.prog 90 #[.pointer (some ⟨b, 0, none⟩), .int .i64 p, .int .i64 f, .int .i64 r, .int .i64 g] w (StepP 101 B b vn vo (funcOf ns os p f r g) w) := by
  cases hc : funcB p f with
  | false =>
    have hE := hid (show funcOf ns os p f r g = ⟨0, 1, ns, os⟩ by simp [funcOf, hc])
    by_cases h0 : p < 0
    · have d0 : decide (p < 0) = true := by simpa using h0
      go_enter Tryz.func90, Tryz.ntmps90
      go_wp2
      go_ret2
      unfold StepP
      rw [hE.out]
      exact ⟨rfl, _, _, h, Goes.refl _ _ _ _⟩
    · have d0 : decide (p < 0) = false := by simpa using h0
      by_cases h1 : 4 ≤ p
      · have d1 : decide (4 ≤ p) = true := by simpa using h1
        go_enter Tryz.func90, Tryz.ntmps90
        go_wp2
        go_ret2
        unfold StepP
        rw [hE.out]
        exact ⟨rfl, _, _, h, Goes.refl _ _ _ _⟩
      · have d1 : decide (4 ≤ p) = false := by simpa using h1
        by_cases h2 : f < 0
        · have d2 : decide (f < 0) = true := by simpa using h2
          go_enter Tryz.func90, Tryz.ntmps90
          go_wp2
          go_ret2
          unfold StepP
          rw [hE.out]
          exact ⟨rfl, _, _, h, Goes.refl _ _ _ _⟩
        · have d2 : decide (f < 0) = false := by simpa using h2
          have h3 : 6 ≤ f := by simp [funcB] at hc; omega
          have d3 : decide (6 ≤ f) = true := by simpa using h3
          go_enter Tryz.func90, Tryz.ntmps90
          go_wp2
          go_ret2
          unfold StepP
          rw [hE.out]
          exact ⟨rfl, _, _, h, Goes.refl _ _ _ _⟩
  | true =>
    have hE := hid (show funcOf ns os p f r g = addOf ns os ⟨-1, g, r, 0, p, f⟩ by simp [funcOf, hc])
    have d0 : decide (p < 0) = false := by simp [funcB] at hc; simp; omega
    have d1 : decide (4 ≤ p) = false := by simp [funcB] at hc; simp; omega
    have d2 : decide (f < 0) = false := by simp [funcB] at hc; simp; omega
    have d3 : decide (6 ≤ f) = false := by simp [funcB] at hc; simp; omega
    go_enter Tryz.func90, Tryz.ntmps90
    go_wp2_with (go_at_call 102; refine (add_any h ⟨-1, g, r, 0, p, f⟩).mono ?_; rintro e w1 ⟨rfl, vn', h1, g1⟩; have HD := hid (And.intro h1 g1); clear h1 g1)
    go_ret2
    unfold StepP
    rw [hE.out]
    exact ⟨rfl, _, _, HD.out.1, HD.out.2⟩
set_option maxRecDepth 8000 in
set_option maxHeartbeats 1000000 in
theorem derive_any (h : GS 101 B w b vn vo ns os) (p r g : Int) :
    Calls Tryz.prog 173 #[.pointer (some ⟨b, 0, none⟩), .int .i64 p, .int .i64 r, .int .i64 g] w (StepP 101 B b vn vo (deriveOf ns os p r g) w) := by
  cases hc : thereB ns.length p with
  | false =>
    have hE := hid (show deriveOf ns os p r g = ⟨0, 8, ns, os⟩ by simp [deriveOf, hc])
    go_enter Tryz.func173, Tryz.ntmps173
    go_wp2_with (go_at_call 61; refine (there_any h _).mono ?_; rintro e w' ⟨rfl, rfl⟩; rw [hc])
    go_ret2
    unfold StepP
    rw [hE.out]
    exact ⟨rfl, _, _, h, Goes.refl _ _ _ _⟩
  | true =>
    have hE := hid (show deriveOf ns os p r g = addOf ns os ⟨p, g, r, 0, -1, 0⟩ by simp [deriveOf, hc])
    go_enter Tryz.func173, Tryz.ntmps173
    go_wp2_with (first | (go_at_call 61; refine (there_any h _).mono ?_; rintro e w' ⟨rfl, rfl⟩; rw [hc]) | (go_at_call 102; refine (add_any h ⟨p, g, r, 0, -1, 0⟩).mono ?_; rintro e w1 ⟨rfl, vn', h1, g1⟩; have HD := hid (And.intro h1 g1); clear h1 g1))
    go_ret2
    unfold StepP
    rw [hE.out]
    exact ⟨rfl, _, _, HD.out.1, HD.out.2⟩
end
theorem grown_quiet {w wr w1 : World} {o : Obj} {e : TypeId} {size : Nat} {v : Value} {n : Nat} {xs : List Value} (hk : Quiet w wr) (hr : wr.ownsRow w.heap.size e size v n xs) (hg : (wr.alloc o).grownBy w1 v.ownBlock) : Quiet w w1 :=
  hk.fresh ((Kp.alloc _ o).trans (Kp.grown hg fun k _ e => (hr.lt k e.symm).1))
theorem nd_cells' {w : World} {base g cap : Nat} {ns : List Nd} (h : w.ownsRow base 72 6 (.slice (some ⟨g, 0, none⟩) ns.length cap) ns.length (ndCells ns)) (k : Nat) (hk : k < ns.length) :
    w.cell? ⟨g, k * 6, none⟩ = some (.int .i64 ns[k].parent) ∧ w.cell? ⟨g, k * 6 + 1, none⟩ = some (.int .i64 ns[k].gate) ∧ w.cell? ⟨g, k * 6 + 2, none⟩ = some (.int .i64 ns[k].rights) ∧ w.cell? ⟨g, k * 6 + 3, none⟩ = some (.int .i64 ns[k].cell) ∧ w.cell? ⟨g, k * 6 + 4, none⟩ = some (.int .i64 ns[k].plugin) ∧ w.cell? ⟨g, k * 6 + 5, none⟩ = some (.int .i64 ns[k].func) := by
  obtain ⟨g', e, d⟩ := owns_at h (by omega)
  cases e
  exact nd_cells d k hk
theorem lies_shape {w : World} {base : Nat} {e : TypeId} {size : Nat} {v : Value} {n : Nat} {xs : List Value} (h : w.ownsRow base e size v n xs) (hn : 0 < n) : ∃ g cap, v = .slice (some ⟨g, 0, none⟩) n cap := by
  obtain ⟨ao, cap, rfl⟩ := owns_shape h
  obtain ⟨g, rfl, _⟩ := owns_at h hn
  exact ⟨g, cap, rfl⟩
def ints (l : List Int) : List Value := l.map (Value.int .i64)
theorem take_snoc {α : Type} (l : List α) (k : Nat) (hk : k < l.length) : l.take (k + 1) = l.take k ++ [l[k]] := by
  rw [List.take_add_one]; simp [hk]
section
variable {B : Nat} {w : World} {b : Nat} {vn vo : Value} {ns : List Nd} {os : List Bool}
theorem way_step {w wr w1 : World} {o : Obj} {acc : List Nd} {x : Nd} {v : Value} {g cap : Nat} (hq : Quiet w wr) (hr : wr.ownsRow w.heap.size 72 6 v acc.length (ndCells acc)) (hg : (wr.alloc o).grownBy w1 v.ownBlock) (h1 : w1.ownsRow w.heap.size 72 6 (.slice (some ⟨g, 0, none⟩) (acc.length + 1) cap) (acc.length + 1) (ndCells acc ++ x.cells)) :
    w1.ownsRow w.heap.size 72 6 (.slice (some ⟨g, 0, none⟩) (acc.length + 1) cap) (acc ++ [x]).length (ndCells (acc ++ [x])) ∧ Quiet w w1 := by
  refine ⟨?_, grown_quiet hq hr hg⟩
  rw [ndCells_snoc]
  simpa using h1
set_option maxRecDepth 8000 in
set_option maxHeartbeats 2000000 in
theorem way_any (h : GS 101 B w b vn vo ns os) (hw : Wf ns os.length) (n : Int) :
    Calls Tryz.prog 32 #[.pointer (some ⟨b, 0, none⟩), .int .i64 n] w fun e w' => ∃ v', e = .returned v' ∧ w'.ownsRow w.heap.size 72 6 v' (wayOf ns n).length (ndCells (wayOf ns n)) ∧ Quiet w w' := by
  obtain ⟨i0, hi, hz0, hz1, hz2⟩ := info_parts Tryz.infoN
  have HG := hid h
  have HW := hid hw
  have HL := way_len hw n
  have HN := h.ln
  clear h hw
  go_enter Tryz.func32, Tryz.ntmps32
  go_wp2
  go_loopw [1, 5] (fun node vw wr => ∃ (acc : List Nd) (j : Int), node = .int .i64 j ∧ acc ++ wayOf ns j = wayOf ns n ∧ wr.ownsRow w.heap.size 72 6 vw acc.length (ndCells acc) ∧ Quiet w wr) (fun node _ _ => (intOf node + 1).toNat)
  case atStart => exact ⟨[], n, rfl, by simp, World.ownsRow_nil _ _ _ _, Kp.refl _ _⟩
  case round =>
    obtain ⟨acc, j, rfl, hacc, hrow, hq⟩ := hrel
    have hg := HG.out.quiet hq
    obtain ⟨av, cv, rfl⟩ := owns_shape hrow
    cases ht : thereB ns.length j with
    | false =>
      have hE := hid (show acc = wayOf ns n by rw [← hacc, way_no ht]; simp)
      clear hacc
      go_wp2_with (go_at_call 61; refine (there_any hg _).mono ?_; rintro e w' ⟨rfl, rfl⟩; rw [ht])
      go_ret
      rw [← hE.out]
      exact ⟨_, rfl, hrow, hq⟩
    | true =>
      obtain ⟨k, rfl, hk⟩ := there_yes ht
      have c0 := hg.cell0
      have hrn := hg.rn
      obtain ⟨g, cap, hv⟩ := lies_shape hrn (by omega)
      subst hv
      obtain ⟨d0, d1, d2, d3, d4, d5⟩ := nd_cells' hrn k hk
      have hal : acc.length ≤ 80 := by have := congrArg List.length hacc; simp at this; omega
      have hA := hid (show (acc ++ [ns[k]]) ++ wayOf ns ns[k].parent = wayOf ns n by rw [← hacc, way_yes HW.out hk]; simp)
      have hP := hid (HW.out k hk)
      have HX := hid (show ns[k] = ⟨ns[k].parent, ns[k].gate, ns[k].rights, ns[k].cell, ns[k].plugin, ns[k].func⟩ from rfl)
      clear hacc hrn
      generalize hx : ns[k] = x at *
      obtain ⟨xp, xg, xr, xc, xl, xf⟩ := x
      go_wp2_with (first | (go_at_call 61; refine (there_any hg _).mono ?_; rintro e w' ⟨rfl, rfl⟩; rw [ht]) | (at_builtin; refine wpList_append_lies _ rfl (.tmp 9) (.tmp 17) 75 rfl w.heap.size 72 i0 _ 6 48 Tryz.undN hi hz0 hz1 hz2 rfl (by decide) _ acc.length (ndCells acc) rfl (hrow.alloc _) ⟨_, 0, none⟩ 1 1 (Nd.cells ⟨xp, xg, xr, xc, xl, xf⟩) rfl rfl (news_at _ _ 72) (nd_one _) (by decide) (by unfold maxLen; omega) (by omega) (by have := hq.size; simp; omega) _ rfl ?_; intro g2 cap2 w1 hr1 hg1 hat hlt; have hS0 := way_step (x := ⟨xp, xg, xr, xc, xl, xf⟩) hq hrow hg1 hr1; have hg2 := HG.out.quiet hS0.2; have e0 := hg2.cell0; obtain ⟨e1, _⟩ := nd_cells' hg2.rn k hk; rw [hx] at e1; have hS := hid hS0; clear hr1 hg1 hat hlt hS0))
      exact ⟨⟨_, xp, rfl, hA.out, hS.out.1, hS.out.2⟩, by have := hP.out.p0; have := hP.out.p1; simp [intOf] at *; omega⟩
theorem meet_snoc (ws : List Nd) (x : Nd) : meetW 15 (ws ++ [x]) = meetW 15 ws &&& x.rights.toNat := by simp [meetW]
set_option maxRecDepth 8000 in
set_option maxHeartbeats 2000000 in
theorem rights_any (h : GS 101 B w b vn vo ns os) (hw : Wf ns os.length) (n : Int) :
    Calls Tryz.prog 179 #[.pointer (some ⟨b, 0, none⟩), .int .i64 n] w fun e w' => e = .returned (.int .i64 (rightsN ns os n : Nat)) ∧ Quiet w w' := by
  cases ht : thereB ns.length n with
  | false =>
    have hE := hid (rights_no (os := os) ht)
    go_enter Tryz.func179, Tryz.ntmps179
    go_wp2_with (go_at_call 61; refine (there_any h _).mono ?_; rintro e w' ⟨rfl, rfl⟩; rw [ht])
    go_ret
    exact ⟨by rw [hE.out]; rfl, Kp.refl _ _⟩
  | true =>
    have HL := way_len hw n
    have HN := h.ln
    have HM := hid (way_mem hw n)
    have HG := hid h
    have hE := hid (show rightsN ns os n = if (wayOf ns n).all (passB os) then meetW 15 (wayOf ns n) else 0 by simp [rightsN, ht])
    go_enter Tryz.func179, Tryz.ntmps179
    go_wp2_with (first | (go_at_call 61; refine (there_any h _).mono ?_; rintro e w' ⟨rfl, rfl⟩; rw [ht]) | (go_at_call 32; refine (way_any h hw _).mono ?_; rintro e w2 ⟨v2, rfl, hr2, hq2⟩; obtain ⟨a2, cap2, rfl⟩ := owns_shape hr2))
    have HR := hid hr2
    have HQ := hid hq2
    clear hr2 hq2 h hw
    generalize wayOf ns n = ws at *
    go_loopw [5, 16] (fun r i wr => ∃ k : Nat, k ≤ ws.length ∧ i = .int .i64 k ∧ r = .int .i64 (meetW 15 (ws.take k) : Nat) ∧ (ws.take k).all (passB os) = true ∧ Quiet w2 wr) (fun _ i _ => ws.length - (intOf i).toNat)
    case atStart => exact ⟨0, Nat.zero_le _, rfl, rfl, rfl, Kp.refl _ _⟩
    case round =>
      obtain ⟨k, hk, rfl, rfl, hall, hq⟩ := hrel
      by_cases hlt : k < ws.length
      · have hr := hq.row HR.out (fun _ _ e => e)
        obtain ⟨g, cap, hv⟩ := lies_shape hr (by omega)
        simp only [Value.slice.injEq, true_and] at hv
        obtain ⟨rfl, rfl⟩ := hv
        obtain ⟨d0, d1, d2, d3, d4, d5⟩ := nd_cells' hr k hlt
        obtain ⟨kk, hok⟩ := HM.out ws[k] (List.getElem_mem hlt)
        have ha := hid (take_snoc ws k hlt)
        have hm := meet_le (ws.take k) 15 (Nat.le_refl _)
        have hq1 : Quiet w2 (wr.alloc (.cells ws[k].cells.toArray 72)) := hq.trans (Kp.alloc _ _)
        have hg := HG.out.quiet (HQ.out.trans hq1)
        have hpass := hid (show passB os ws[k] = (ws[k].gate == -1 || openB os ws[k].gate) from rfl)
        obtain ⟨q, hq0⟩ : ∃ q : Nat, ws[k].rights = q := ⟨ws[k].rights.toNat, by have := hok.r0; omega⟩
        have hq15 : q ≤ 15 := by have := hok.r1; omega
        have hms := hid (show meetW 15 (ws.take k ++ [ws[k]]) = meetW 15 (ws.take k) &&& q by rw [meet_snoc, hq0]; rfl)
        have Hall := hid hall
        rw [hq0] at d2
        clear hr hok hall
        generalize hx : ws[k] = x at *
        obtain ⟨xp, xg, xr, xc, xl, xf⟩ := x
        simp only [Nd.cells] at *
        subst hq0
        generalize meetW 15 (ws.take k) = rr at *
        have Hq1 := hid hq1
        clear hq1
        by_cases hgate : xg = -1
        · subst hgate
          go_wp2_with (go_at_call 182; refine (meet_any _ _ hm hq15 _).mono ?_; rintro e w' ⟨rfl, rfl⟩)
          refine ⟨⟨k + 1, by omega, by go_num, by rw [ha.out, hms.out], ?_, Hq1.out⟩, by simp [intOf]; omega⟩
          rw [ha.out, List.all_append, Hall.out]
          simp [hpass.out]
        · have hgd : decide (xg = -1) = false := by simpa using hgate
          cases ho : openB os xg with
          | false =>
            have hE0 := hid (show rightsN ns os n = 0 by
              rw [hE.out, if_neg]
              intro hc
              have := List.all_eq_true.1 hc ws[k] (List.getElem_mem hlt)
              rw [hx, hpass.out] at this
              simp [hgate, ho] at this)
            go_wp2_with (go_at_call 181; refine (open_any hg _).mono ?_; rintro e w' ⟨rfl, rfl⟩; rw [ho])
            go_ret
            exact ⟨by rw [hE0.out]; rfl, HQ.out.trans Hq1.out⟩
          | true =>
            go_wp2_with (first | (go_at_call 181; refine (open_any hg _).mono ?_; rintro e w' ⟨rfl, rfl⟩; rw [ho]) | (go_at_call 182; refine (meet_any _ _ hm hq15 _).mono ?_; rintro e w' ⟨rfl, rfl⟩))
            refine ⟨⟨k + 1, by omega, by go_num, by rw [ha.out, hms.out], ?_, Hq1.out⟩, by simp [intOf]; omega⟩
            rw [ha.out, List.all_append, Hall.out]
            simp [hpass.out, ho]
      · have hke : k = ws.length := by omega
        subst hke
        rw [List.take_length] at hall ⊢
        have hE1 := hid (show rightsN ns os n = meetW 15 ws by rw [hE.out, if_pos hall])
        clear hall
        go_wp2
        go_ret
        exact ⟨by rw [hE1.out]; rfl, HQ.out.trans hq⟩
end
end Go.Proofs.YtkpckmcaeljocaaGreat.Gr
