/- The statement TokenBack: what was told is told again. -/
import Derived.Test.YtoadfodpjnhbmacDoorTBegun
import Derived.Test.YtoadfodpjnhbmacDoorBackMath
import Derived.Deep.QuietTactic
namespace Go.Proofs.YtoadfodpjnhbmacDoor
open Go.ChangeShapes Go.WideShapes Go.ChangeAt Go.RowKit
theorem back_long (l : List UInt8) (hl : 2000 < l.length) (hx : l.length ≤ 9223372036854775807) (w : World) (hw : Laid w) : Calls Tryd.prog 4 #[.string ⟨l.toArray⟩] w fun e w' => e = .returned (.bool true) ∧ Quiet w w' := by
  have hz := bytes_size l
  go_enter Tryd.func4, Tryd.ntmps4
  go_wp2_with (go_at_call 5; refine (begun_any _ hw).mono ?_; rintro e w1 ⟨rfl, q1⟩)
  go_ret
  exact ⟨rfl, q1⟩
/-- With a fault there is no list. -/
theorem scanN_fault (l : List UInt8) : ∀ (f i : Nat) (acc : List Tk), (scanN l f i acc).2.1 ≠ 0 → (scanN l f i acc).1 = [] := by
  intro f
  induction f with
  | zero => intro i acc h; exact absurd rfl h
  | succ f ih =>
    intro i acc
    rw [scanN]
    split
    · cases tokAt l (stop blank l i) with
      | none => intro _; rfl
      | some t => exact ih _ _
    · intro h; exact absurd rfl h
theorem scan_fault (l : List UInt8) (h : (scan l).2.1 ≠ 0) : (scan l).1 = [] := by
  unfold scan at *
  split
  · rfl
  · rename_i hx
    rw [if_neg hx] at h
    exact scanN_fault l _ _ _ h
set_option maxHeartbeats 1000000 in
theorem back_fault (l : List UInt8) (hl : l.length ≤ 2000) (h : (scan l).2.1 ≠ 0) (w : World) (hw : Laid w) : Calls Tryd.prog 4 #[.string ⟨l.toArray⟩] w fun e w' => e = .returned (.bool true) ∧ Quiet w w' := by
  have hz := bytes_size l
  have S1 := fun w hw => scan_any l (by omega) w hw
  rw [scan_fault l h] at S1
  generalize (scan l).2.1 = cd at S1 h
  generalize (scan l).2.2 = ca at S1
  have hcd : (cd == 0) = false := by simpa using h
  go_enter Tryd.func4, Tryd.ntmps4
  go_wp2_with (first
    | (go_at_call 6; refine (S1 _ (hw.quiet q1)).mono ?_; rintro e w2 ⟨v2, rfl, T2, q2⟩; obtain ⟨a2, c2, rfl⟩ := T2.shape; clear T2)
    | (go_at_call 5; refine (begun_any _ hw).mono ?_; rintro e w1 ⟨rfl, q1⟩))
  go_ret
  exact ⟨rfl, (q1.trans q2).trans (Kp.alloc _ _)⟩
theorem str_app (a b : List UInt8) : (ByteArray.mk a.toArray) ++ (ByteArray.mk b.toArray) = ⟨(a ++ b).toArray⟩ := by
  ext1
  simp
set_option maxRecDepth 8000 in
set_option maxHeartbeats 2000000 in
theorem back_fine (l : List UInt8) (hl : l.length ≤ 2000) (h : (scan l).2.1 = 0) (w : World) (hw : Laid w) : Calls Tryd.prog 4 #[.string ⟨l.toArray⟩] w fun e w' => e = .returned (.bool true) ∧ Quiet w w' := by
  have hz := bytes_size l
  have S1 := fun w hw => scan_any l (by omega) w hw
  obtain ⟨b1, b2⟩ := scan_of_back l hl
  have S2 := fun w hw => scan_any (back (scan l).1) (by omega) w hw
  rw [b2] at S2
  rw [h] at S1
  have hts : (scan l).1.length ≤ 2000 := by have h1 := total_len (scan_good l); have h2 := scan_total l; omega
  generalize (scan l).2.2 = ca at S1
  generalize (scan l).1 = ts at S1 S2 hts b1
  simp only at S2
  clear h b2
  go_enter Tryd.func4, Tryd.ntmps4
  go_wp2_with (first
    | (go_at_call 6; refine (S1 _ (hw.quiet q1)).mono ?_; rintro e w2 ⟨v2, rfl, T2, q2⟩; obtain ⟨a2, m, c2, rfl, hm, _⟩ := T2.part; have HM := hid hm; have H2 := hid T2; clear hm T2)
    | (go_at_call 5; refine (begun_any _ hw).mono ?_; rintro e w1 ⟨rfl, q1⟩))
  have hm9 : m ≤ 2000 := by have := HM.out; omega
  go_loop [5, 6] (fun s n => ∃ k : Nat, k ≤ m ∧ n = .int .i64 k ∧ s = .string ⟨(back (ts.take k)).toArray⟩) (fun _ n => m - (intOf n).toNat)
  case atStart => exact ⟨0, Nat.zero_le _, rfl, rfl⟩
  case round =>
    obtain ⟨k, hk, rfl, rfl⟩ := hrel
    by_cases hlt : k < m
    · obtain ⟨⟨p, x, b, n⟩, ht⟩ : ∃ t, ts[k]? = some t := ⟨ts[k]'(by have := HM.out; omega), List.getElem?_eq_getElem _⟩
      have HB : Hid (back (ts.take (k + 1)) = back (ts.take k) ++ (x ++ [32, 10])) := by
        rw [List.take_add_one, ht, back_app]; exact hid (congrArg _ (back_one _))
      have hbl : (back (ts.take k)).length + (x.length + 2) ≤ 6000 := by
        have e : back ts = back (ts.take (k + 1)) ++ back (ts.drop (k + 1)) := by rw [← back_app, List.take_append_drop]
        have e2 := congrArg List.length e
        rw [List.length_append, HB.out, List.length_append, List.length_append] at e2
        simp only [List.length_cons, List.length_nil] at e2
        omega
      have hb2 : ¬ 9223372036854775807 < x.length + 2 := by omega
      have hb3 : ¬ 9223372036854775807 < (back (ts.take k)).length + (x.length + 2) := by omega
      obtain ⟨g2, rfl, d0, d1, d2, d3⟩ := (H2.out.quiet (Kp.alloc _ (.cells #[.int .i64 0, .int .i64 ca] 25))).tok HM.out k _ ht
      simp only at d0 d1 d2 d3
      clear ht
      go_wp2_with fail
      exact ⟨⟨k + 1, by omega, by go_num, by rw [HB.out, ← str_app, ← str_app]⟩, by simp [intOf]; omega⟩
    · obtain rfl : k = m := by omega
      have e : ts.take k = ts := List.take_of_length_le (by have := HM.out; omega)
      rw [e]
      clear e
      go_wp2_with (go_at_call 6; refine (S2 _ (((hw.quiet q1).quiet q2).quiet (Kp.alloc _ _))).mono ?_; rintro e w3 ⟨v3, rfl, T3, q3⟩; obtain ⟨a3, m3, c3, rfl, hm3, _⟩ := T3.part; have hm4 := hm3.symm.trans ((shift_len ts 0).trans HM.out); subst hm4; have H3 := hid T3; clear hm3 T3)
      clear S1 S2 hts
      go_loopw [9] (fun n wr => ∃ k : Nat, k ≤ m3 ∧ n = .int .i64 k ∧ Hid (Quiet w3 wr)) (fun n _ => m3 - (intOf n).toNat)
      case atStart => exact ⟨0, Nat.zero_le _, rfl, Kp.alloc _ _⟩
      case round =>
        obtain ⟨k, hk, rfl, hq⟩ := hrel
        by_cases hlt : k < m3
        · have hkt : k < ts.length := by have := HM.out; omega
          have hks : k < (shift 0 ts).length := by rw [shift_len]; exact hkt
          obtain ⟨f1, f2, f3⟩ := shift_get ts 0 k hkt hks
          obtain ⟨g2, rfl, d0, d1, d2, d3⟩ := (H2.out.quiet ((Kp.alloc _ _).trans (q3.trans hq.out))).tok HM.out k _ (List.getElem?_eq_getElem hkt)
          obtain ⟨g3, rfl, e0, e1, e2, e3⟩ := (H3.out.quiet hq.out).tok ((shift_len ts 0).trans HM.out) k _ (List.getElem?_eq_getElem hks)
          rw [f1] at e1
          rw [f2] at e2
          rw [f3] at e3
          clear d0 e0 f1 f2 f3 hks
          generalize ts[k].text = x at d1 e1
          generalize ts[k].num = b at d2 e2
          generalize ts[k].n = n at d3 e3
          go_wp2_with fail
          go_quiet (fail)
          go_wp2_with fail
          exact ⟨⟨k + 1, by omega, by go_num, hq.out.trans (Kp.drewN _ _)⟩, by simp [intOf]; omega⟩
        · go_wp2
          go_ret
          exact ⟨rfl, (q1.trans q2).trans ((Kp.alloc _ _).trans (q3.trans hq.out))⟩
theorem backLaw (l : List UInt8) (hx : l.length ≤ maxLen) (w : World) (hw : Laid w) : Calls Tryd.prog 4 #[.string ⟨l.toArray⟩] w fun e w' => e = .returned (.bool true) ∧ Quiet w w' := by
  unfold maxLen at hx
  by_cases h : l.length ≤ 2000
  · by_cases hc : (scan l).2.1 = 0
    · exact back_fine l h hc w hw
    · exact back_fault l h hc w hw
  · exact back_long l (by omega) hx w hw
end Go.Proofs.YtoadfodpjnhbmacDoor
