/- The statements' beginning: three texts. -/
import Derived.Test.YtoadfodpjnhbmacDoorTScan
namespace Go.Proofs.YtoadfodpjnhbmacDoor
open Go.ChangeShapes Go.WideShapes Go.ChangeAt Go.RowKit
theorem dec5 : Lib.decDigits 5 = [53] := by rw [Lib.decDigits, dif_pos (by decide)]; rfl
theorem itoa5 : Lib.itoa 5 = [53] := by rw [Lib.itoa, if_neg (by decide)]; exact dec5
theorem itoam5 : Lib.itoa (-5) = [45, 53] := by rw [Lib.itoa, if_pos (by decide)]; exact congrArg _ dec5
theorem long5 : longOf [53] = some 5 := by
  have h : Lib.parseIntB 64 [53] = .ok 5 := by decide
  rw [longOf, h]; simp only; rw [if_pos itoa5]
theorem longm5 : longOf [45, 53] = some (-5) := by
  have h : Lib.parseIntB 64 [45, 53] = .ok (-5) := by decide
  rw [longOf, h]; simp only; rw [if_pos itoam5]
theorem long05 : longOf [48, 53] = none := by
  have h : Lib.parseIntB 64 [48, 53] = .ok 5 := by decide
  rw [longOf, h]; simp only; rw [if_neg (by rw [itoa5]; decide)]
theorem scan_one (l : List UInt8) (i j : Nat) (acc : List Tk) (t : Tk) (h0 : stop blank l i = j) (h1 : j < l.length) (h2 : tokAt l j = some t) : scanFrom l i acc = scanFrom l (j + t.text.length) (acc ++ [t]) := by
  subst h0; exact scanFrom_tok acc h1 h2
theorem scan_a : scan [40, 110, 117, 109, 32, 45, 53, 41] = ([⟨0, [40], false, 0⟩, ⟨1, [110, 117, 109], false, 0⟩, ⟨5, [45, 53], true, -5⟩, ⟨7, [41], false, 0⟩], 0, 0) := by
  unfold scan
  rw [if_neg (by decide)]
  rw [scan_one _ 0 0 _ ⟨0, [40], false, 0⟩ (by decide) (by decide) (by rfl)]
  rw [scan_one _ _ 1 _ ⟨1, [110, 117, 109], false, 0⟩ (by decide) (by decide) (by rfl)]
  rw [scan_one _ _ 5 _ ⟨5, [45, 53], true, -5⟩ (by decide) (by decide) (by
    show numAt [40, 110, 117, 109, 32, 45, 53, 41] 5 = _
    rw [numAt, show cut [40, 110, 117, 109, 32, 45, 53, 41] 5 (stop digit [40, 110, 117, 109, 32, 45, 53, 41] (5 + 1)) = [45, 53] by decide, longm5]; rfl)]
  rw [scan_one _ _ 7 _ ⟨7, [41], false, 0⟩ (by decide) (by decide) (by rfl)]
  rw [scanFrom_end _ (by decide)]
  rfl
theorem scan_b : scan [40, 53, 120] = ([⟨0, [40], false, 0⟩, ⟨1, [53], true, 5⟩, ⟨2, [120], false, 0⟩], 0, 0) := by
  unfold scan
  rw [if_neg (by decide)]
  rw [scan_one _ 0 0 _ ⟨0, [40], false, 0⟩ (by decide) (by decide) (by rfl)]
  rw [scan_one _ _ 1 _ ⟨1, [53], true, 5⟩ (by decide) (by decide) (by
    show numAt [40, 53, 120] 1 = _
    rw [numAt, show cut [40, 53, 120] 1 (stop digit [40, 53, 120] (1 + 1)) = [53] by decide, long5]; rfl)]
  rw [scan_one _ _ 2 _ ⟨2, [120], false, 0⟩ (by decide) (by decide) (by rfl)]
  rw [scanFrom_end _ (by decide)]
  rfl
theorem scan_c : scan [48, 53] = ([], 7, 0) := by
  unfold scan
  rw [if_neg (by decide)]
  have h : tokAt [48, 53] (stop blank [48, 53] 0) = none := by
    show numAt [48, 53] 0 = _
    rw [numAt, show cut [48, 53] 0 (stop digit [48, 53] (0 + 1)) = [48, 53] by decide, long05]; rfl
  rw [scanFrom_bad _ (by decide) h]
  rfl
theorem begin_a (w : World) (hw : Laid w) : Calls Tryd.prog 6 #[.string ⟨#[40, 110, 117, 109, 32, 45, 53, 41]⟩] w fun e w' => ∃ g cap, e = .returned (.tuple #[.slice (some ⟨g, 0, none⟩) 4 cap, .agg #[.int .i64 0, .int .i64 0]]) ∧ w'.cell? ⟨g, 10, none⟩ = some (.bool true) ∧ w'.cell? ⟨g, 11, none⟩ = some (.int .i64 (-5)) ∧ Quiet w w' := by
  have h := scan_any [40, 110, 117, 109, 32, 45, 53, 41] (by decide) w hw
  rw [scan_a] at h
  refine h.mono ?_
  rintro e w' ⟨v, rfl, hT, q⟩
  obtain ⟨ao, cap, rfl⟩ := hT.shape
  obtain ⟨g, rfl, _, _, d2, d3⟩ := hT.at 2 (by decide)
  exact ⟨g, cap, rfl, d2, d3, q⟩
theorem begin_b (w : World) (hw : Laid w) : Calls Tryd.prog 6 #[.string ⟨#[40, 53, 120]⟩] w fun e w' => ∃ v, e = .returned (.tuple #[v, .agg #[.int .i64 0, .int .i64 0]]) ∧ Quiet w w' := by
  have h := scan_any [40, 53, 120] (by decide) w hw
  rw [scan_b] at h
  refine h.mono ?_
  rintro e w' ⟨v, rfl, hT, q⟩
  exact ⟨v, rfl, q⟩
theorem begin_c (w : World) (hw : Laid w) : Calls Tryd.prog 6 #[.string ⟨#[48, 53]⟩] w fun e w' => ∃ v, e = .returned (.tuple #[v, .agg #[.int .i64 7, .int .i64 0]]) ∧ Quiet w w' := by
  have h := scan_any [48, 53] (by decide) w hw
  rw [scan_c] at h
  refine h.mono ?_
  rintro e w' ⟨v, rfl, hT, q⟩
  exact ⟨v, rfl, q⟩
set_option maxHeartbeats 1000000 in
theorem begun_any (w : World) (hw : Laid w) : Calls Tryd.prog 5 #[] w fun e w' => e = .returned (.bool true) ∧ Quiet w w' := by
  go_enter Tryd.func5, Tryd.ntmps5
  go_wp2_with (first
    | (go_at_call 6; refine (begin_c _ ((((hw.quiet q1).quiet (Kp.alloc _ _)).quiet q2).quiet (Kp.alloc _ _))).mono ?_; rintro e w3 ⟨v3, rfl, q3⟩; have k0 := fun o => (box2 (box_stays (q2.trans ((Kp.alloc _ _).trans (q3.trans (Kp.alloc _ o)))))).1; have k1 := fun o => (box2 (box_stays (q3.trans (Kp.alloc _ o)))).1; have qq := fun o => (Kp.alloc w1 _).trans (q2.trans ((Kp.alloc _ _).trans (q3.trans (Kp.alloc _ o)))); have k2 := fun o => (qq o).cell d2 (fun e => e); have k3 := fun o => (qq o).cell d3 (fun e => e); have QQ := hid qq; clear qq)
    | (go_at_call 6; refine (begin_b _ ((hw.quiet q1).quiet (Kp.alloc _ _))).mono ?_; rintro e w2 ⟨v2, rfl, q2⟩)
    | (go_at_call 6; refine (begin_a _ hw).mono ?_; rintro e w1 ⟨g, cap, rfl, d2, d3, q1⟩))
  go_ret
  exact ⟨rfl, q1.trans (QQ.out _)⟩
end Go.Proofs.YtoadfodpjnhbmacDoor
