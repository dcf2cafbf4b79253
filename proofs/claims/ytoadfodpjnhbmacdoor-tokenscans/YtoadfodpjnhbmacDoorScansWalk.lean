/- The statement TokenScans: both tell the same of every text. -/
import Derived.Test.YtoadfodpjnhbmacDoorTBegun
import Derived.Test.YtoadfodpjnhbmacDoorRScan
import Derived.Test.YtoadfodpjnhbmacDoorBackMath
import Derived.Deep.QuietTactic
namespace Go.Proofs.YtoadfodpjnhbmacDoor
open Go.ChangeShapes Go.WideShapes Go.ChangeAt Go.RowKit
theorem scans_long (l : List UInt8) (hl : 9000 < l.length) (hx : l.length ≤ 9223372036854775807) (w : World) (hw : Laid w) : Calls Tryd.prog 3 #[.string ⟨l.toArray⟩] w fun e w' => e = .returned (.bool true) ∧ Quiet w w' := by
  have hz := bytes_size l
  go_enter Tryd.func3, Tryd.ntmps3
  go_wp2_with (go_at_call 5; refine (begun_any _ hw).mono ?_; rintro e w1 ⟨rfl, q1⟩)
  go_ret
  exact ⟨rfl, q1⟩
set_option maxRecDepth 8000 in
set_option maxHeartbeats 2000000 in
theorem scans_short (l : List UInt8) (hl : l.length ≤ 9000) (w : World) (hw : Laid w) : Calls Tryd.prog 3 #[.string ⟨l.toArray⟩] w fun e w' => e = .returned (.bool true) ∧ Quiet w w' := by
  have hz := bytes_size l
  have S1 := fun w hw => scan_any l hl w hw
  have S2 := fun w hw => rscan_any l hl w hw
  have hts : (scan l).1.length ≤ 9000 := by have h1 := total_len (scan_good l); have h2 := scan_total l; omega
  generalize scan l = sc at S1 S2 hts
  obtain ⟨ts, cd, at_⟩ := sc
  simp only at S1 S2 hts
  go_enter Tryd.func3, Tryd.ntmps3
  go_wp2_with (first
    | (go_at_call 7; refine (S2 _ (((hw.quiet q1).quiet q2).quiet (Kp.alloc _ _))).mono ?_; rintro e w3 ⟨v3, rfl, T3, q3⟩; obtain ⟨a3, m3, c3, rfl, hm3, _⟩ := T3.part; have hm4 := hm3.symm.trans HM.out; subst hm4; have H3 := hid T3; clear hm3 T3; have k0 := fun o => box_stays (q3.trans (Kp.alloc _ o)); have k1 := fun o => (box2 (k0 o)).1; have k2 := fun o => (box2 (k0 o)).2; clear k0)
    | (go_at_call 6; refine (S1 _ (hw.quiet q1)).mono ?_; rintro e w2 ⟨v2, rfl, T2, q2⟩; obtain ⟨a2, m2, c2, rfl, hm2, _⟩ := T2.part; have HM := hid hm2; have H2 := hid T2; clear hm2 T2)
    | (go_at_call 5; refine (begun_any _ hw).mono ?_; rintro e w1 ⟨rfl, q1⟩))
  have hm9 : m3 ≤ 9000 := by have := HM.out; omega
  clear S1 S2 hts
  go_loopw [7] (fun n wr => ∃ k : Nat, k ≤ m3 ∧ n = .int .i64 k ∧ Hid (Quiet w3 wr)) (fun n _ => m3 - (intOf n).toNat)
  case atStart => exact ⟨0, Nat.zero_le _, rfl, Kp.alloc _ _⟩
  case round =>
    obtain ⟨k, hk, rfl, hq⟩ := hrel
    by_cases hlt : k < m3
    · obtain ⟨⟨p, x, b, n⟩, ht⟩ : ∃ t, ts[k]? = some t := ⟨ts[k]'(by have := HM.out; omega), List.getElem?_eq_getElem _⟩
      obtain ⟨g2, rfl, d0, d1, d2, d3⟩ := (H2.out.quiet ((Kp.alloc _ _).trans (q3.trans hq.out))).tok HM.out k _ ht
      obtain ⟨g3, rfl, e0, e1, e2, e3⟩ := (H3.out.quiet hq.out).tok HM.out k _ ht
      simp only at d0 d1 d2 d3 e0 e1 e2 e3
      clear ht
      go_wp2_with fail
      go_quiet (fail)
      go_wp2_with fail
      exact ⟨⟨k + 1, by omega, by go_num, hq.out.trans (Kp.drewN _ _)⟩, by simp [intOf]; omega⟩
    · go_wp2
      go_ret
      exact ⟨rfl, (q1.trans q2).trans ((Kp.alloc _ _).trans (q3.trans hq.out))⟩
theorem scansLaw (l : List UInt8) (hx : l.length ≤ maxLen) (w : World) (hw : Laid w) : Calls Tryd.prog 3 #[.string ⟨l.toArray⟩] w fun e w' => e = .returned (.bool true) ∧ Quiet w w' := by
  unfold maxLen at hx
  by_cases h : l.length ≤ 9000
  · exact scans_short l h w hw
  · exact scans_long l (by omega) hx w hw
end Go.Proofs.YtoadfodpjnhbmacDoor
