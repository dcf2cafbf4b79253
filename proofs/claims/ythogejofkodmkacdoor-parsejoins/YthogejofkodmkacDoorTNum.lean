/- The number, the token that begins at a byte. -/
import Derived.Test.YthogejofkodmkacDoorTLib
import Derived.Laws.ResultCell
namespace Go.Proofs.YthogejofkodmkacDoor
open Go.ChangeShapes Go.WideShapes Go.ChangeAt Go.RowKit
set_option maxRecDepth 8000 in
set_option maxHeartbeats 1000000 in
theorem num_yes (l : List UInt8) (i S : Nat) (n : Int) (hi : i < l.length) (hl : l.length ≤ 9000) (hS : Hid (stop digit l (i + 1) = S)) (s1 : i ≤ S) (s2 : S ≤ l.length) (c : List UInt8) (hc : Hid (cut l i S = c)) (hcl : c.length ≤ 9000)
    (h1 : Hid (Lib.parseIntB 64 c = .ok n)) (h2 : Hid (Lib.itoa n = c)) (w : World) (hw : Laid w) :
    Calls Tryd.prog 38 #[.string ⟨l.toArray⟩, .int .i64 i] w fun e w' => e = .returned (.tuple #[.agg #[.int .i64 i, .string ⟨c.toArray⟩, .bool true, .int .i64 n], .bool true]) ∧ Quiet w w' := by
  have hn := parse_in h1.out
  have E0 : ∀ w, Calls Tryd.prog 19 #[.string ⟨l.toArray⟩, .int .i64 ((i : Int) + 1), .func (.func 37) #[] #[]] w fun e w' => e = .returned (.int .i64 (S : Nat)) ∧ w' = w := by
    intro w
    have := end_digit l (i + 1) w hl (by omega)
    rw [hS.out] at this
    exact_mod_cast this
  have E1 : ∀ w, Calls Tryd.prog 35 #[.string ⟨l.toArray⟩, .int .i64 i, .int .i64 S] w fun e w' => e = .returned (.string ⟨c.toArray⟩) ∧ Quiet w w' := by
    intro w
    have := piece_any l i S s1 s2 hl w
    rw [hc.out] at this
    exact this
  go_enter Tryd.func38, Tryd.ntmps38
  go_wp2_with (first
    | (go_at_call 40; refine (fmt_any n hn _ (((hw.quiet (Kp.alloc _ _)).quiet q1).quiet q2)).mono ?_; rw [h2.out]; rintro e w3 ⟨rfl, q3⟩; have hx := box_stays ((q1.trans q2).trans q3); obtain ⟨c0, c1, c2, c3⟩ := box4 hx; have hf := box_free hx)
    | (go_at_call 39; refine (parse_ok c hcl n h1.out _).mono ?_; rintro e w2 ⟨rfl, q2⟩)
    | (go_at_call 35; refine (E1 _).mono ?_; rintro e w1 ⟨rfl, q1⟩)
    | (go_at_call 19; refine (E0 _).mono ?_; rintro e w0 ⟨rfl, rfl⟩))
  exact bodyPost_ret (v := .tuple #[.agg #[.int .i64 i, .string ⟨c.toArray⟩, .bool true, .int .i64 n], .bool true]) (by simp [results, Tryd.results38, go_sem, c0, c1, c2, c3]) rfl ⟨rfl, set4 ((q1.trans q2).trans q3) _ _ _ _⟩
set_option maxRecDepth 8000 in
set_option maxHeartbeats 1000000 in
theorem num_no (l : List UInt8) (i S : Nat) (hi : i < l.length) (hl : l.length ≤ 9000) (hS : Hid (stop digit l (i + 1) = S)) (s1 : i ≤ S) (s2 : S ≤ l.length) (c : List UInt8) (hc : Hid (cut l i S = c)) (hcl : c.length ≤ 9000)
    (h : Hid (longOf c = none)) (w : World) (hw : Laid w) :
    Calls Tryd.prog 38 #[.string ⟨l.toArray⟩, .int .i64 i] w fun e w' => e = .returned (.tuple #[.agg #[.int .i64 0, .string ⟨#[]⟩, .bool false, .int .i64 0], .bool false]) ∧ Quiet w w' := by
  have E0 : ∀ w, Calls Tryd.prog 19 #[.string ⟨l.toArray⟩, .int .i64 ((i : Int) + 1), .func (.func 37) #[] #[]] w fun e w' => e = .returned (.int .i64 (S : Nat)) ∧ w' = w := by
    intro w
    have := end_digit l (i + 1) w hl (by omega)
    rw [hS.out] at this
    exact_mod_cast this
  have E1 : ∀ w, Calls Tryd.prog 35 #[.string ⟨l.toArray⟩, .int .i64 i, .int .i64 S] w fun e w' => e = .returned (.string ⟨c.toArray⟩) ∧ Quiet w w' := by
    intro w
    have := piece_any l i S s1 s2 hl w
    rw [hc.out] at this
    exact this
  rcases longOf_bad h.out with hb | ⟨n, h1, h2⟩
  · have HB := hid hb
    clear hb
    go_enter Tryd.func38, Tryd.ntmps38
    go_wp2_with (first
      | (go_at_call 39; refine (parse_bad c hcl HB.out _ ((hw.quiet (Kp.alloc _ _)).quiet q1)).mono ?_; rintro e w2 ⟨z, tp, p, rfl, q2⟩; have hx := box_stays (q1.trans q2); obtain ⟨c0, c1, c2, c3⟩ := box4 hx; have hf := box_free hx)
      | (go_at_call 35; refine (E1 _).mono ?_; rintro e w1 ⟨rfl, q1⟩)
      | (go_at_call 19; refine (E0 _).mono ?_; rintro e w0 ⟨rfl, rfl⟩))
    exact bodyPost_ret (v := .tuple #[.agg #[.int .i64 0, .string ⟨#[]⟩, .bool false, .int .i64 0], .bool false]) (by simp [results, Tryd.results38, go_sem, c0, c1, c2, c3]) rfl ⟨rfl, set4 (q1.trans q2) _ _ _ _⟩
  · have hn := parse_in h1
    have H1 := hid h1
    have hne : (Lib.itoa n == c) = false := by simpa using h2
    clear h1 h2
    go_enter Tryd.func38, Tryd.ntmps38
    go_wp2_with (first
      | (go_at_call 40; refine (fmt_any n hn _ (((hw.quiet (Kp.alloc _ _)).quiet q1).quiet q2)).mono ?_; rintro e w3 ⟨rfl, q3⟩; have hx := box_stays ((q1.trans q2).trans q3); obtain ⟨c0, c1, c2, c3⟩ := box4 hx; have hf := box_free hx)
      | (go_at_call 39; refine (parse_ok c hcl n H1.out _).mono ?_; rintro e w2 ⟨rfl, q2⟩)
      | (go_at_call 35; refine (E1 _).mono ?_; rintro e w1 ⟨rfl, q1⟩)
      | (go_at_call 19; refine (E0 _).mono ?_; rintro e w0 ⟨rfl, rfl⟩))
    exact bodyPost_ret (v := .tuple #[.agg #[.int .i64 0, .string ⟨#[]⟩, .bool false, .int .i64 0], .bool false]) (by simp [results, Tryd.results38, go_sem, c0, c1, c2, c3]) rfl ⟨rfl, set4 ((q1.trans q2).trans q3) _ _ _ _⟩
end Go.Proofs.YthogejofkodmkacDoor
