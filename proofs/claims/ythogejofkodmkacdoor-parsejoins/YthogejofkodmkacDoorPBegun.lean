/- The statements' beginning: one text. -/
import Derived.Test.YthogejofkodmkacDoorPParse
namespace Go.Proofs.YthogejofkodmkacDoor
open Go.ChangeShapes Go.WideShapes Go.ChangeAt Go.RowKit
def bText : List UInt8 := [102, 117, 110, 32, 40, 98, 105, 110, 32, 97, 100, 100, 32, 40, 110, 117, 109, 32, 49, 41, 32, 40, 97, 114, 103, 41, 41]
theorem dec1 : Lib.decDigits 1 = [49] := by rw [Lib.decDigits, dif_pos (by decide)]; rfl
theorem itoa1 : Lib.itoa 1 = [49] := by rw [Lib.itoa, if_neg (by decide)]; exact dec1
theorem long1 : longOf [49] = some 1 := by
  have h : Lib.parseIntB 64 [49] = .ok 1 := by decide
  rw [longOf, h]; simp only; rw [if_pos itoa1]
theorem scan_next (l : List UInt8) (i j : Nat) (acc : List Tk) (t : Tk) (h0 : stop blank l i = j) (h1 : j < l.length) (h2 : tokAt l j = some t) : scanFrom l i acc = scanFrom l (j + t.text.length) (acc ++ [t]) := by
  subst h0; exact scanFrom_tok acc h1 h2
def bToks : List Tk := [⟨0, [102, 117, 110], false, 0⟩, ⟨4, [40], false, 0⟩, ⟨5, [98, 105, 110], false, 0⟩, ⟨9, [97, 100, 100], false, 0⟩, ⟨13, [40], false, 0⟩, ⟨14, [110, 117, 109], false, 0⟩, ⟨18, [49], true, 1⟩, ⟨19, [41], false, 0⟩, ⟨21, [40], false, 0⟩, ⟨22, [97, 114, 103], false, 0⟩, ⟨25, [41], false, 0⟩, ⟨26, [41], false, 0⟩]
theorem b_scan : scan bText = (bToks, 0, 0) := by
  unfold scan bText
  rw [if_neg (by decide)]
  rw [scan_next _ 0 0 _ ⟨0, [102, 117, 110], false, 0⟩ (by decide) (by decide) (by rfl)]
  rw [scan_next _ _ 4 _ ⟨4, [40], false, 0⟩ (by decide) (by decide) (by rfl)]
  rw [scan_next _ _ 5 _ ⟨5, [98, 105, 110], false, 0⟩ (by decide) (by decide) (by rfl)]
  rw [scan_next _ _ 9 _ ⟨9, [97, 100, 100], false, 0⟩ (by decide) (by decide) (by rfl)]
  rw [scan_next _ _ 13 _ ⟨13, [40], false, 0⟩ (by decide) (by decide) (by rfl)]
  rw [scan_next _ _ 14 _ ⟨14, [110, 117, 109], false, 0⟩ (by decide) (by decide) (by rfl)]
  rw [scan_next _ _ 18 _ ⟨18, [49], true, 1⟩ (by decide) (by decide) (by
    show numAt _ 18 = _
    rw [numAt, show cut [102, 117, 110, 32, 40, 98, 105, 110, 32, 97, 100, 100, 32, 40, 110, 117, 109, 32, 49, 41, 32, 40, 97, 114, 103, 41, 41] 18 (stop digit [102, 117, 110, 32, 40, 98, 105, 110, 32, 97, 100, 100, 32, 40, 110, 117, 109, 32, 49, 41, 32, 40, 97, 114, 103, 41, 41] (18 + 1)) = [49] by decide, long1]; rfl)]
  rw [scan_next _ _ 19 _ ⟨19, [41], false, 0⟩ (by decide) (by decide) (by rfl)]
  rw [scan_next _ _ 21 _ ⟨21, [40], false, 0⟩ (by decide) (by decide) (by rfl)]
  rw [scan_next _ _ 22 _ ⟨22, [97, 114, 103], false, 0⟩ (by decide) (by decide) (by rfl)]
  rw [scan_next _ _ 25 _ ⟨25, [41], false, 0⟩ (by decide) (by decide) (by rfl)]
  rw [scan_next _ _ 26 _ ⟨26, [41], false, 0⟩ (by decide) (by decide) (by rfl)]
  rw [scanFrom_end _ (by decide)]
  rfl
def bMod : List V := [⟨6, 1, 0, [⟨2, 0, 1, []⟩, ⟨3, 0, 0, []⟩]⟩]
theorem b_mod : modFrom 27 [] bToks = .ok (bMod, []) := by rfl
theorem b_fault : (modFault bMod).1 = 0 := by decide
theorem b_parse : parseB bText = (bMod, 0, 0) := by
  rw [parse_of b_scan b_mod, if_pos b_fault]
theorem begin_p (w : World) (hw : Laid w) (hd : Wds w) : Calls Tryd.prog 11 #[.string ⟨#[102, 117, 110, 32, 40, 98, 105, 110, 32, 97, 100, 100, 32, 40, 110, 117, 109, 32, 49, 41, 32, 40, 97, 114, 103, 41, 41]⟩] w fun e' w' => ∃ b off cap ai ci, e' = .returned (.tuple #[.agg #[.slice (some ⟨b, off, none⟩) 1 cap], .agg #[.int .i64 0, .int .i64 0]]) ∧ (w'.cell? ⟨b, off, none⟩ = some (.int .i64 6) ∧ w'.cell? ⟨b, off + 1, none⟩ = some (.int .i64 1) ∧ w'.cell? ⟨b, off + 3, none⟩ = some (.slice ai 2 ci)) ∧ Quiet w w' := by
  have h := parse_any bText (by decide) w hw hd
  rw [b_parse] at h
  refine h.mono ?_
  rintro e' w1 ⟨ao, cap, rfl, hF, q1⟩
  obtain ⟨b, off, rfl, ⟨k0, k1, k2⟩, ai, ci, ks, _⟩ := hF.get 0 (by decide)
  exact ⟨b, off, cap, ai, ci, rfl, ⟨k0, k1, ks⟩, q1⟩
theorem word21 (w : World) (hd : Wds w) : Calls Tryd.prog 14 #[.int .i64 21] w fun e' w' => e' = .returned (.string ⟨#[107, 101, 112, 116]⟩) ∧ w' = w := word_any 21 w hd
theorem bin0 (w : World) (hd : Wds w) : Calls Tryd.prog 16 #[.int .i64 0] w fun e' w' => e' = .returned (.string ⟨#[]⟩) ∧ w' = w := bin_any 0 w hd
set_option maxRecDepth 8000 in
set_option maxHeartbeats 1000000 in
theorem pbegun_any (w : World) (hw : Laid w) (hd : Wds w) : Calls Tryd.prog 10 #[] w fun e' w' => e' = .returned (.bool true) ∧ Quiet w w' := by
  have HP := hid (begin_p w hw hd)
  go_enter Tryd.func10, Tryd.ntmps10
  go_wp2_with (first
    | (go_at_call 16; refine (bin0 _ (hd.quiet (q2 _ _))).mono ?_; rintro e' w9 ⟨rfl, h9⟩; replace h9 := h9.symm; subst h9)
    | (go_at_call 14; refine (word21 _ (hd.quiet (q2 _ _))).mono ?_; rintro e' w9 ⟨rfl, h9⟩; replace h9 := h9.symm; subst h9)
    | (go_at_call 11; refine HP.out.mono ?_; rintro e' w1 ⟨b, off, cap, ai, ci, rfl, ⟨k0, k1, k3⟩, q1⟩; have hbl : b < w1.heap.size := World.block_lt_of_cell? w1 _ k0; have q2 := fun o1 o2 => q1.trans ((Kp.alloc w1 o1).trans (Kp.alloc _ o2))))
  go_ret
  exact ⟨rfl, q2 _ _⟩
end Go.Proofs.YthogejofkodmkacDoor
