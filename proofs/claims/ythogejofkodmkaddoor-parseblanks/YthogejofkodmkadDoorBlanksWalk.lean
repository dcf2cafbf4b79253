/- The law ParseBlanks: the walk. -/
import Derived.Test.YthogejofkodmkadDoorPBegun
import Derived.Test.YthogejofkodmkadDoorRScan
import Derived.Test.YthogejofkodmkadDoorRefSame
namespace Go.Proofs.YthogejofkodmkadDoor
open Go.ChangeShapes Go.WideShapes Go.ChangeAt Go.RowKit
theorem parseB_sizes (l : List UInt8) (hl : l.length ≤ 9000) : sizes (parseB l).1 ≤ 20000 := by
  unfold parseB
  split
  · have h1 := parseT_size (l.length : Int) (scan l).1
    have h2 := scan_few_len l
    omega
  · simp [sizes_nil]
theorem parseT_none {e : Int} {ts : List Tk} (h : (parseT e ts).2.1 ≠ 0) : (parseT e ts).1 = [] := by
  unfold parseT at h ⊢
  cases hm : modFrom e [] ts with
  | error x => rfl
  | ok x =>
    rw [hm] at h
    simp only at h ⊢
    split
    · rename_i h0; rw [if_pos h0] at h; exact absurd rfl h
    · rfl
theorem parseB_none {l : List UInt8} (h : (parseB l).2.1 ≠ 0) : (parseB l).1 = [] := by
  unfold parseB at h ⊢
  split
  · rename_i h0; rw [if_pos h0] at h; exact parseT_none h
  · rfl
theorem str_app (a b : List UInt8) : (ByteArray.mk a.toArray) ++ (ByteArray.mk b.toArray) = ⟨(a ++ b).toArray⟩ := by
  ext1
  simp
set_option maxRecDepth 8000 in
set_option maxHeartbeats 2000000 in
theorem blanks_bad (l : List UInt8) (hl : l.length ≤ 1900) (h : (parseB l).2.1 ≠ 0) (w : World) (hw : Laid w) (hd : Wds w) : Calls Tryd.prog 3 #[.string ⟨l.toArray⟩] w fun e' w' => e' = .returned (.bool true) ∧ Quiet w w' := by
  have hz := bytes_size l
  have hl' : ¬ (1900 : Int) < (l.length : Int) := by omega
  have HB := hid (pbegun_any w hw hd)
  have HP := hid (fun w1 (q : Quiet w w1) => parse_any l (by omega) w1 (hw.quiet q) (hd.quiet q))
  have h0 := parseB_none h
  generalize parseB l = p at *
  obtain ⟨m, c, a⟩ := p
  simp only at h h0
  subst h0
  have hc1 : (c != 0) = true := by simpa using h
  clear hw hd h
  go_enter Tryd.func3, Tryd.ntmps3
  go_wp2_with (first
    | (go_at_call 5; refine (HP.out w1 q1).mono ?_; rintro e' w2 ⟨ma, mc, rfl, hF2, q2⟩)
    | (go_at_call 4; refine HB.out.mono ?_; rintro e' w1 ⟨rfl, q1⟩))
  go_ret
  exact ⟨rfl, (q1.trans q2).trans ((Kp.alloc _ _).trans (Kp.alloc _ _))⟩
theorem blanks_long (l : List UInt8) (hl : ¬ l.length ≤ 1900) (w : World) (hw : Laid w) (hd : Wds w) : Calls Tryd.prog 3 #[.string ⟨l.toArray⟩] w fun e' w' => e' = .returned (.bool true) ∧ Quiet w w' := by
  have hz := bytes_size l
  have hl' : (1900 : Int) < (l.length : Int) := by omega
  have HB := hid (pbegun_any w hw hd)
  clear hl
  go_enter Tryd.func3, Tryd.ntmps3
  go_wp2_with (go_at_call 4; refine HB.out.mono ?_; rintro e' w1 ⟨rfl, q1⟩)
  go_ret
  exact ⟨rfl, q1⟩
set_option maxRecDepth 8000 in
set_option maxHeartbeats 4000000 in
theorem blanks_ok (l : List UInt8) (hl : l.length ≤ 1900) (h : (parseB l).2.1 = 0) (w : World) (hw : Laid w) (hd : Wds w) : Calls Tryd.prog 3 #[.string ⟨l.toArray⟩] w fun e' w' => e' = .returned (.bool true) ∧ Quiet w w' := by
  have hz := bytes_size l
  have hl' : ¬ (1900 : Int) < (l.length : Int) := by omega
  have HB := hid (pbegun_any w hw hd)
  have HP := hid (fun w1 (q : Quiet w w1) => parse_any l (by omega) w1 (hw.quiet q) (hd.quiet q))
  have HR := hid (fun w1 (q : Quiet w w1) => rscan_any l (by omega) w1 (hw.quiet q))
  obtain ⟨b1, b2, b3, b4⟩ := parse_blank l hl h
  have hS := parseB_sizes l (by omega)
  have HA := hid (fun w1 (q : Quiet w w1) => parse_any (9 :: backS [32, 10] (scan l).1) (by omega) w1 (hw.quiet q) (hd.quiet q))
  have HC := hid (fun w1 (q : Quiet w w1) => parse_any (backS [13] (scan l).1) (by omega) w1 (hw.quiet q) (hd.quiet q))
  rw [b3] at HA
  rw [b4] at HC
  obtain ⟨s1, s2, _, s4⟩ := parseB_ok h
  rw [scan_at s1] at HR
  have e1 : parseB l = ((parseB l).1, 0, 0) := Prod.ext rfl (Prod.ext h s4)
  rw [e1] at HP
  generalize (parseB l).1 = m at *
  have hts : (scan l).1.length ≤ 1900 := Nat.le_trans (scan_few_len l) hl
  generalize (scan l).1 = ts at *
  clear b3 b4 s1 s2 s4 e1 h hw hd
  go_enter Tryd.func3, Tryd.ntmps3
  go_wp2_with (first
    | (go_at_call 6; refine (HR.out _ (q2 _ _)).mono ?_; rintro e' w3 ⟨v3, rfl, T3, q3'⟩; obtain ⟨a3, n, c3, rfl, hm, _⟩ := T3.part; have HM := hid hm; have H3 := hid T3; have q3 := fun o => (q2 _ _).trans (q3'.trans (Kp.alloc w3 o)); clear hm T3)
    | (go_at_call 5; refine (HP.out w1 q1).mono ?_; rintro e' w2 ⟨ma, mc, rfl, hF2, q2'⟩; simp only at hF2; have q2 := fun o1 o2 => (q1.trans q2').trans ((Kp.alloc w2 o1).trans (Kp.alloc _ o2)))
    | (go_at_call 4; refine HB.out.mono ?_; rintro e' w1 ⟨rfl, q1⟩))
  have hn9 : n ≤ 1900 := by have := HM.out; omega
  go_loop [7, 8, 9] (fun s t i => ∃ k : Nat, k ≤ n ∧ i = .int .i64 k ∧ s = .string ⟨(9 :: backS [32, 10] (ts.take k)).toArray⟩ ∧ t = .string ⟨(backS [13] (ts.take k)).toArray⟩) (fun _ _ i => n - (intOf i).toNat)
  case atStart => exact ⟨0, Nat.zero_le _, rfl, rfl, rfl⟩
  case round =>
    obtain ⟨k, hk, rfl, rfl, rfl⟩ := hrel
    by_cases hlt : k < n
    · obtain ⟨⟨p, x, b, nn⟩, ht⟩ : ∃ t, ts[k]? = some t := ⟨ts[k]'(by have := HM.out; omega), List.getElem?_eq_getElem _⟩
      have HBA : ∀ s, Hid (backS s (ts.take (k + 1)) = backS s (ts.take k) ++ (x ++ s)) := by
        intro s
        rw [List.take_add_one, ht, backS_app]; exact hid (congrArg _ (backS_one _ _))
      have hlen : ∀ s, (backS s (ts.take k)).length + (x.length + s.length) ≤ (backS s ts).length := by
        intro s
        have e : backS s ts = backS s (ts.take (k + 1)) ++ backS s (ts.drop (k + 1)) := by rw [← backS_app, List.take_append_drop]
        have e2 := congrArg List.length e
        rw [List.length_append, (HBA s).out, List.length_append, List.length_append] at e2
        omega
      have l1 := hlen [32, 10]
      have l2 := hlen [13]
      simp only [List.length_cons, List.length_nil] at l1 l2 b1
      have hb2 : ¬ 9223372036854775807 < x.length + 2 := by omega
      have hb3 : ¬ 9223372036854775807 < (backS [32, 10] (ts.take k)).length + 1 + (x.length + 2) := by omega
      have hb4 : ¬ 9223372036854775807 < x.length + 1 := by omega
      have hb5 : ¬ 9223372036854775807 < (backS [13] (ts.take k)).length + (x.length + 1) := by omega
      have H1 := HBA [32, 10]
      have H2 := HBA [13]
      obtain ⟨g2, rfl, d0, d1, d2, d3⟩ := (H3.out.quiet (Kp.alloc _ (.cells #[.int .i64 0, .int .i64 0] 27))).tok HM.out k _ ht
      simp only at d0 d1 d2 d3
      clear ht HBA hlen
      go_wp2_with fail
      refine ⟨⟨k + 1, by omega, by go_num, ?_, ?_⟩, by simp [intOf]; omega⟩
      · rw [show (ByteArray.mk #[32, 10]) = ⟨[32, 10].toArray⟩ from rfl, str_app, str_app, H1.out]; rfl
      · rw [show (ByteArray.mk #[13]) = ⟨[13].toArray⟩ from rfl, str_app, str_app, H2.out]
    · obtain rfl : k = n := by omega
      have e : ts.take k = ts := List.take_of_length_le (by have := HM.out; omega)
      rw [e]
      clear e
      go_wp2_with (first
        | (go_at_call 7; refine (sameR_any m m ma yaa mc yc _ (hF2.quiet (q25.trans q56)) (hF5.quiet q56) hS).mono ?_; rintro e' w7 ⟨rfl, q7⟩; rw [sames_true rfl]; replace q7 : Quiet w w7 := q6.trans q7)
        | (go_at_call 7; refine (sameR_any m m ma xaa mc xc _ (hF2.quiet (q25.trans ((Kp.alloc w5 _).trans (Kp.alloc _ _)))) (hF4.quiet (q5''.trans ((Kp.alloc w5 _).trans (Kp.alloc _ _)))) hS).mono ?_; rintro e' w6 ⟨rfl, q6'⟩; rw [sames_true rfl]; have q56 := ((Kp.alloc w5 _).trans (Kp.alloc _ _)).trans q6'; have q6 : Quiet w w6 := (q5 _ _).trans q6'; have p0 := q56.cell m0 (fun e => e); have p1 := box1 (two_q q6').1)
        | (go_at_call 5; refine (HC.out _ (q4 _ _)).mono ?_; rintro e' w5 ⟨yaa, yc, rfl, hF5, q5'⟩; simp only at hF5; have q5'' := ((Kp.alloc w4 _).trans (Kp.alloc _ _)).trans q5'; have q25 := (((Kp.alloc w2 _).trans (Kp.alloc _ _)).trans qq).trans q5''; have q5 := fun o1 o2 => (q4 _ _).trans (q5'.trans ((Kp.alloc w5 o1).trans (Kp.alloc _ o2))); obtain ⟨u0, u1⟩ := two_q q5'; have x0 := box1 u0; obtain ⟨g0, g1⟩ := box2 u1; have m0 := q5''.cell n0 (fun e => e); have k0 := lt_of_block u0; have k1 := lt_of_block u1; have k2 : w2.heap.size < w5.heap.size := World.block_lt_of_cell? _ _ m0; clear u0 u1)
        | (go_at_call 5; refine (HA.out _ (q3 _)).mono ?_; rintro e' w4 ⟨xaa, xc, rfl, hF4, q4'⟩; simp only at hF4; have q4 := fun o1 o2 => (q3 _).trans (q4'.trans ((Kp.alloc w4 o1).trans (Kp.alloc _ o2))); have qq := q3'.trans ((Kp.alloc w3 _).trans q4'); obtain ⟨v0, v1⟩ := two_q qq; have n0 := box1 v0; have nl := lt_of_block v0; clear v0 v1))
      go_ret
      exact ⟨rfl, q7⟩
theorem blanksLaw (l : List UInt8) (w : World) (hw : Laid w) (hd : Wds w) : Calls Tryd.prog 3 #[.string ⟨l.toArray⟩] w fun e' w' => e' = .returned (.bool true) ∧ Below w.heap.size w w' := by
  by_cases hl : l.length ≤ 1900
  · by_cases h : (parseB l).2.1 = 0
    · exact (blanks_ok l hl h w hw hd).mono fun e' w' h => ⟨h.1, h.2.low⟩
    · exact (blanks_bad l hl h w hw hd).mono fun e' w' h => ⟨h.1, h.2.low⟩
  · exact (blanks_long l hl w hw hd).mono fun e' w' h => ⟨h.1, h.2.low⟩
end Go.Proofs.YthogejofkodmkadDoor
