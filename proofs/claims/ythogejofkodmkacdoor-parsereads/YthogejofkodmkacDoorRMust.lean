/- The document's reading: what must come, numbers, words. -/
import Derived.Test.YthogejofkodmkacDoorRRead
namespace Go.Proofs.YthogejofkodmkacDoor
open Go.ChangeShapes Go.WideShapes Go.ChangeAt Go.RowKit
def isT (s : List UInt8) (rest : List Tk) : Bool := match rest with
  | [] => false
  | t :: _ => t.text == s
theorem ris_any {w : World} {rb : Nat} {e : Int} {all : List Tk} {ao : Option Addr} {cap : Nat} {j : Nat} {a : Int} (h : QB w rb e all ao cap j 0 a) (hj : j ≤ all.length) (s : List UInt8) (hs : ∀ t ∈ all, t.num = true → t.text ≠ s) : Calls Tryd.prog 44 #[.pointer (some ⟨rb, 0, none⟩), .string ⟨s.toArray⟩] w fun e' w' => e' = .returned (.bool (isT s (all.drop j))) ∧ Quiet w w' := by
  rcases drop_cases all j hj with ⟨h1, rfl⟩ | ⟨t, h1, h2, _⟩
  · rw [h1]; exact ris_end h _
  · rw [h2]
    cases hn : t.num with
    | true =>
      have := hs t (List.mem_of_getElem? h1) hn
      simp only [isT]
      rw [show (t.text == s) = false by simpa using this]
      exact ris_num h t h1 hn _
    | false => exact ris_word h t h1 hn s
theorem must_isT {e : Int} {s : List UInt8} {rest r : List Tk} {u : Unit} (h : mustT e s rest = .ok (u, r)) : isT s rest = true ∧ rest.drop 1 = r := by
  obtain ⟨t, rfl, h1⟩ := must_ok h
  exact ⟨by simpa [isT] using h1, rfl⟩
theorem must_notT {e : Int} {s : List UInt8} {rest : List Tk} {x : Int × Int} (h : mustT e s rest = .error x) : isT s rest = false ∧ x = wrongT 5 e rest := by
  cases rest with
  | nil => cases h; exact ⟨rfl, rfl⟩
  | cons t r =>
    simp only [mustT, nextT, andThen] at h
    split at h
    · cases h
    · cases h; exact ⟨by simpa [isT] using (by assumption), rfl⟩
theorem must_short {e : Int} {s : List UInt8} {all r : List Tk} {j : Nat} {u : Unit} (h : mustT e s (all.drop j) = .ok (u, r)) : all.drop (j + 1) = r ∧ j < all.length := by
  obtain ⟨h1, h2⟩ := must_isT h
  rw [List.drop_drop, Nat.add_comm] at h2
  refine ⟨by rw [Nat.add_comm]; exact h2, ?_⟩
  rcases Nat.lt_or_ge j all.length with h3 | h3
  · exact h3
  · rw [List.drop_of_length_le h3] at h1; cases h1
theorem rmust_not {w : World} {rb : Nat} {e : Int} {all : List Tk} {ao : Option Addr} {cap : Nat} {z c a : Int} (h : QB w rb e all ao cap z c a) (hc : c ≠ 0) (s : ByteArray) : Calls Tryd.prog 29 #[.pointer (some ⟨rb, 0, none⟩), .string s] w fun e' w' => e' = .returned (.tuple #[]) ∧ Quiet w w' := by
  have HI := hid (ris_not h hc s)
  have HW := hid (fun w1 (q : Quiet w w1) => rwrong_not (h.quiet q) hc 5)
  clear h hc
  go_enter Tryd.func29, Tryd.ntmps29
  go_wp2_with (first
    | (go_at_call 45; refine (HW.out w1 q1).mono ?_; rintro e' w2 ⟨rfl, rfl⟩)
    | (go_at_call 44; refine HI.out.mono ?_; rintro e' w1 ⟨rfl, q1⟩))
  go_end0
  exact ⟨rfl, q1⟩
theorem rmust_ok {w : World} {rb : Nat} {e : Int} {all r : List Tk} {ao : Option Addr} {cap : Nat} {j : Nat} {a : Int} {u : Unit} (h : QB w rb e all ao cap j 0 a) (hl : all.length ≤ 9000) (s : List UInt8) (hs : ∀ t ∈ all, t.num = true → t.text ≠ s) (hm : mustT e s (all.drop j) = .ok (u, r)) : Calls Tryd.prog 29 #[.pointer (some ⟨rb, 0, none⟩), .string ⟨s.toArray⟩] w fun e' w' => e' = .returned (.tuple #[]) ∧ QB w' rb e all ao cap ((j + 1 : Nat) : Int) 0 a ∧ Kr rb w w' := by
  have hj := (must_short hm).2
  have HI := hid (ris_any h (by omega) s hs)
  rw [(must_isT hm).1] at HI
  have HQ := hid h
  clear h hs hm
  go_enter Tryd.func29, Tryd.ntmps29
  go_wp2_with (go_at_call 44; refine HI.out.mono ?_; rintro e' w1 ⟨rfl, q1⟩; have hb1 := (HQ.out.quiet q1).box; have b2 := (box5 hb1).2.2.1; have hf := box_free hb1; clear hb1)
  go_end0
  refine ⟨rfl, ?_⟩
  have := (HQ.out.quiet q1).set2 ((j + 1 : Nat) : Int)
  exact ⟨this.1, (Quiet.kr q1).trans this.2⟩
theorem rmust_bad {w : World} {rb : Nat} {e : Int} {all : List Tk} {ao : Option Addr} {cap : Nat} {j : Nat} {a : Int} {x : Int × Int} (h : QB w rb e all ao cap j 0 a) (hl : all.length ≤ 9000) (hj : j ≤ all.length) (s : List UInt8) (hs : ∀ t ∈ all, t.num = true → t.text ≠ s) (hm : mustT e s (all.drop j) = .error x) : Calls Tryd.prog 29 #[.pointer (some ⟨rb, 0, none⟩), .string ⟨s.toArray⟩] w fun e' w' => e' = .returned (.tuple #[]) ∧ QB w' rb e all ao cap j x.1 x.2 ∧ Kr rb w w' := by
  have HI := hid (ris_any h hj s hs)
  rw [(must_notT hm).1] at HI
  have HW := hid (fun w1 (q : Quiet w w1) => rwrong_any (h.quiet q) hl hj 5)
  rw [← (must_notT hm).2] at HW
  clear h hs hm
  go_enter Tryd.func29, Tryd.ntmps29
  go_wp2_with (first
    | (go_at_call 45; refine (HW.out w1 q1).mono ?_; rintro e' w2 ⟨rfl, h2, q2⟩)
    | (go_at_call 44; refine HI.out.mono ?_; rintro e' w1 ⟨rfl, q1⟩))
  go_end0
  exact ⟨rfl, h2, (Quiet.kr q1).trans q2⟩
theorem rnumber_not {w : World} {rb : Nat} {e : Int} {all : List Tk} {ao : Option Addr} {cap : Nat} {z c a : Int} (h : QB w rb e all ao cap z c a) (hc : c ≠ 0) : Calls Tryd.prog 46 #[.pointer (some ⟨rb, 0, none⟩)] w fun e' w' => e' = .returned (.int .i64 0) ∧ w' = w := by
  have HO := hid (rok_no h hc)
  clear h hc
  go_enter Tryd.func46, Tryd.ntmps46
  go_wp2_with (go_at_call 28; refine HO.out.mono ?_; rintro e' w1 ⟨rfl, rfl⟩)
  go_ret
  exact ⟨rfl, rfl⟩
theorem num_short {e : Int} {all r : List Tk} {j : Nat} {t : Tk} (h : numT e (all.drop j) = .ok (t, r)) : all[j]? = some t ∧ t.num = true ∧ all.drop (j + 1) = r ∧ j < all.length := by
  obtain ⟨h1, h2⟩ := num_ok h
  rcases Nat.lt_or_ge j all.length with h3 | h3
  · rw [List.drop_eq_getElem_cons h3] at h1
    cases h1
    exact ⟨List.getElem?_eq_getElem h3, h2, rfl, h3⟩
  · rw [List.drop_of_length_le h3] at h1; cases h1
set_option maxRecDepth 8000 in
set_option maxHeartbeats 1000000 in
theorem rnumber_ok {w : World} {rb : Nat} {e : Int} {all r : List Tk} {ao : Option Addr} {cap : Nat} {j : Nat} {a : Int} {t : Tk} (h : QB w rb e all ao cap j 0 a) (hl : all.length ≤ 9000) (hm : numT e (all.drop j) = .ok (t, r)) : Calls Tryd.prog 46 #[.pointer (some ⟨rb, 0, none⟩)] w fun e' w' => e' = .returned (.int .i64 t.n) ∧ QB w' rb e all ao cap ((j + 1 : Nat) : Int) 0 a ∧ Kr rb w w' := by
  obtain ⟨ht, hn, _, hj⟩ := num_short hm
  obtain ⟨b0, b1, b2, b3, b4⟩ := box5 h.box
  have hf := box_free h.box
  obtain ⟨g, off, rfl, hg, t0, t1, t2, t3⟩ := h.lie j t ht
  rw [hn] at t2
  have hj' : (j : Int) < (all.length : Int) := by omega
  have hj2 : decide ((all.length : Int) ≤ (j : Int)) = false := by simp; omega
  have hj3 : ¬ (all.length : Int) ≤ (j : Int) := by omega
  have hidx : (j : Int) + 1 - 1 = (j : Int) := by omega
  have hgr : ¬ g = rb := by omega
  have HO := hid (rok_yes h)
  have HQ := hid h
  clear h ht hn hm
  go_enter Tryd.func46, Tryd.ntmps46
  go_wp2_with (go_at_call 28; refine HO.out.mono ?_; rintro e' w1 ⟨rfl, hw1⟩; replace hw1 := hw1.symm; subst hw1)
  go_quiet (fail)
  go_wp2_with fail
  go_quiet (fail)
  go_wp2_with fail
  go_ret
  refine ⟨rfl, ?_⟩
  first
    | (have h1 := HQ.out.set2 ((j + 1 : Nat) : Int); exact ⟨h1.1.quiet ((Kp.drewN _ _).trans (Kp.drewN _ _)), h1.2.trans ((Kp.drewN _ _).trans (Kp.drewN _ _))⟩)
    | (have h1 := (HQ.out.quiet (Kp.drewN w _)).set2 ((j + 1 : Nat) : Int); exact ⟨h1.1.quiet (Kp.drewN _ _), (Kp.drewN _ _).trans (h1.2.trans (Kp.drewN _ _))⟩)
set_option maxRecDepth 8000 in
set_option maxHeartbeats 1000000 in
theorem rnumber_bad {w : World} {rb : Nat} {e : Int} {all : List Tk} {ao : Option Addr} {cap : Nat} {j : Nat} {a : Int} {x : Int × Int} (h : QB w rb e all ao cap j 0 a) (hl : all.length ≤ 9000) (hj : j ≤ all.length) (hm : numT e (all.drop j) = .error x) : Calls Tryd.prog 46 #[.pointer (some ⟨rb, 0, none⟩)] w fun e' w' => e' = .returned (.int .i64 0) ∧ QB w' rb e all ao cap j x.1 x.2 ∧ Kr rb w w' := by
  have hx : x = wrongT 5 e (all.drop j) := by
    cases hd : all.drop j with
    | nil => rw [hd] at hm; cases hm; rfl
    | cons t r =>
      rw [hd] at hm
      simp only [numT, nextT, andThen] at hm
      split at hm
      · cases hm
      · cases hm; rfl
  have HW := hid (fun w1 (q : Quiet w w1) => rwrong_any (h.quiet q) hl hj 5)
  rw [← hx] at HW
  obtain ⟨b0, b1, b2, b3, b4⟩ := box5 h.box
  have HO := hid (rok_yes h)
  rcases drop_cases all j hj with ⟨h1, rfl⟩ | ⟨t, h1, h2, hj1⟩
  · clear h hm hx h1
    go_enter Tryd.func46, Tryd.ntmps46
    go_wp2_with (go_at_call 28; refine HO.out.mono ?_; rintro e' w1 ⟨rfl, hw1⟩; replace hw1 := hw1.symm; subst hw1)
    go_quiet (fail)
    go_wp2_with (go_at_call 45; refine (HW.out _ (Kp.drewN w _)).mono ?_; rintro e' w2 ⟨rfl, h2, q2⟩)
    go_ret
    exact ⟨rfl, h2, (Kp.drewN _ _).trans q2⟩
  · rw [h2] at hm
    have hn : t.num = false := by
      cases hn : t.num with
      | false => rfl
      | true => simp [numT, nextT, andThen, hn] at hm
    obtain ⟨g, off, rfl, hg, t0, t1, t2, t3⟩ := h.lie j t h1
    rw [hn] at t2
    have hj' : (j : Int) < (all.length : Int) := by omega
    have hj2 : decide ((all.length : Int) ≤ (j : Int)) = false := by simp; omega
    have hj3 : ¬ (all.length : Int) ≤ (j : Int) := by omega
    clear h hm hx h1 h2 hn
    go_enter Tryd.func46, Tryd.ntmps46
    go_wp2_with (go_at_call 28; refine HO.out.mono ?_; rintro e' w1 ⟨rfl, hw1⟩; replace hw1 := hw1.symm; subst hw1)
    go_quiet (fail)
    go_wp2_with (go_at_call 45; refine (HW.out _ (Kp.drewN w _)).mono ?_; rintro e' w2 ⟨rfl, h2, q2⟩)
    go_ret
    exact ⟨rfl, h2, (Kp.drewN _ _).trans q2⟩
set_option maxRecDepth 8000 in
set_option maxHeartbeats 1000000 in
theorem rfew_ok {w : World} {rb : Nat} {e : Int} {all r : List Tk} {ao : Option Addr} {cap : Nat} {j : Nat} {a k : Int} (h : QB w rb e all ao cap j 0 a) (hl : all.length ≤ 9000) (hm : smallT e (all.drop j) = .ok (k, r)) : Calls Tryd.prog 47 #[.pointer (some ⟨rb, 0, none⟩)] w fun e' w' => e' = .returned (.int .i64 k) ∧ QB w' rb e all ao cap ((j + 1 : Nat) : Int) 0 a ∧ Kr rb w w' := by
  obtain ⟨t, hd, hn, rfl, h0, h9⟩ := small_ok hm
  have hnm : numT e (all.drop j) = .ok (t, r) := by rw [hd]; simp [numT, nextT, andThen, hn]
  obtain ⟨ht, _, _, hj⟩ := num_short hnm
  have HN := hid (fun w1 (q : Quiet w w1) => rnumber_ok (h.quiet q) hl hnm)
  obtain ⟨b0, b1, b2, b3, b4⟩ := box5 h.box
  obtain ⟨g, off, rfl, hg, t0, t1, t2, t3⟩ := h.lie j t ht
  rw [hn] at t2
  have hj' : (j : Int) < (all.length : Int) := by omega
  have hn0 : decide (t.n < 0) = false := by simp; omega
  have hn9 : decide (999 < t.n) = false := by simp; omega
  have HO := hid h
  clear h ht hn hm hd hnm h0 h9
  go_enter Tryd.func47, Tryd.ntmps47
  go_wp2_with fail
  go_quiet ((go_at_call 28; refine Calls.quiet_of_same (rok_yes (HO.out.quiet ?_)); exact Kp.drewN _ _))
  go_wp2_with (go_at_call 46; refine (HN.out _ (Kp.drewN w _)).mono ?_; rintro e' w2 ⟨rfl, h2, q2⟩)
  go_ret
  exact ⟨rfl, h2, (Kp.drewN _ _).trans q2⟩
theorem small_wrong {e : Int} {ts : List Tk} {x : Int × Int} (hm : smallT e ts = .error x) : numT e ts = .error x ∨ ∃ t r, ts = t :: r ∧ numT e ts = .ok (t, r) ∧ (t.n < 0 ∨ (¬ t.n < 0 ∧ 999 < t.n)) ∧ x = (1, (t.pos : Int)) := by
  unfold smallT at hm
  cases hn : numT e ts with
  | error y => rw [hn] at hm; cases hm; exact .inl rfl
  | ok y =>
    obtain ⟨t, r⟩ := y
    rw [hn] at hm
    obtain ⟨rfl, h2⟩ := num_ok hn
    simp only [andThen] at hm
    split at hm
    · cases hm; exact .inr ⟨t, r, rfl, rfl, by omega, rfl⟩
    · cases hm
set_option maxRecDepth 8000 in
set_option maxHeartbeats 2000000 in
theorem rfew_bad {w : World} {rb : Nat} {e : Int} {all : List Tk} {ao : Option Addr} {cap : Nat} {j : Nat} {a : Int} {x : Int × Int} (h : QB w rb e all ao cap j 0 a) (hl : all.length ≤ 9000) (hj : j ≤ all.length) (hm : smallT e (all.drop j) = .error x) : Calls Tryd.prog 47 #[.pointer (some ⟨rb, 0, none⟩)] w fun e' w' => e' = .returned (.int .i64 0) ∧ QB w' rb e all ao cap j x.1 x.2 ∧ Kr rb w w' := by
  obtain ⟨b0, b1, b2, b3, b4⟩ := box5 h.box
  have HO := hid h
  rcases small_wrong hm with hnm | ⟨t, r, hd, hnm, hr, rfl⟩
  · have HN := hid (fun w1 (q : Quiet w w1) => rnumber_bad (h.quiet q) hl hj hnm)
    rcases drop_cases all j hj with ⟨h1, rfl⟩ | ⟨t, h1, h2, hj1⟩
    · have hj' : decide ((all.length : Int) < (all.length : Int)) = false := by simp
      clear h hm hnm h1
      go_enter Tryd.func47, Tryd.ntmps47
      go_wp2_with fail
      go_quiet ((go_at_call 28; refine Calls.quiet_of_same (rok_yes (HO.out.quiet ?_)); exact Kp.drewN _ _))
      go_wp2_with (go_at_call 46; refine (HN.out _ (Kp.drewN w _)).mono ?_; rintro e' w2 ⟨rfl, h2, q2⟩)
      go_ret
      exact ⟨rfl, h2, (Kp.drewN _ _).trans q2⟩
    · rw [h2] at hnm
      have hn : t.num = false := by
        cases hn : t.num with
        | false => rfl
        | true => simp [numT, nextT, andThen, hn] at hnm
      obtain ⟨g, off, rfl, hg, t0, t1, t2, t3⟩ := h.lie j t h1
      rw [hn] at t2
      have hj' : (j : Int) < (all.length : Int) := by omega
      clear h hm hnm h1 h2 hn
      go_enter Tryd.func47, Tryd.ntmps47
      go_wp2_with fail
      go_quiet ((go_at_call 28; refine Calls.quiet_of_same (rok_yes (HO.out.quiet ?_)); exact Kp.drewN _ _))
      go_wp2_with (go_at_call 46; refine (HN.out _ (Kp.drewN w _)).mono ?_; rintro e' w2 ⟨rfl, h2, q2⟩)
      go_ret
      exact ⟨rfl, h2, (Kp.drewN _ _).trans q2⟩
  · obtain ⟨ht, hn, _, hj1⟩ := num_short hnm
    have HW := hid (fun w1 (q : Quiet w w1) => rwrong_at (h.quiet q) hl t ht 1)
    obtain ⟨g, off, rfl, hg, t0, t1, t2, t3⟩ := h.lie j t ht
    rw [hn] at t2
    have hj' : (j : Int) < (all.length : Int) := by omega
    clear h hm hnm ht hd hn
    rcases hr with hr | ⟨hr, hr9⟩
    · have hr1 : decide (t.n < 0) = true := by simpa using hr
      go_enter Tryd.func47, Tryd.ntmps47
      go_wp2_with fail
      go_quiet ((go_at_call 28; refine Calls.quiet_of_same (rok_yes (HO.out.quiet ?_)); exact Kp.drewN _ _))
      go_wp2_with (first
        | (go_at_call 46; refine (rnumber_not h2 (by decide)).mono ?_; rintro e' w3 ⟨rfl, rfl⟩)
        | (go_at_call 45; refine (HW.out _ (Kp.drewN w _)).mono ?_; rintro e' w2 ⟨rfl, h2, q2⟩))
      go_ret
      exact ⟨rfl, h2, (Kp.drewN _ _).trans q2⟩
    · have hr1 : decide (t.n < 0) = false := by simpa using hr
      have hr2 : decide (999 < t.n) = true := by simpa using hr9
      go_enter Tryd.func47, Tryd.ntmps47
      go_wp2_with fail
      go_quiet ((go_at_call 28; refine Calls.quiet_of_same (rok_yes (HO.out.quiet ?_)); exact Kp.drewN _ _))
      go_wp2_with (first
        | (go_at_call 46; refine (rnumber_not h2 (by decide)).mono ?_; rintro e' w3 ⟨rfl, rfl⟩)
        | (go_at_call 45; refine (HW.out _ (Kp.drewN w _)).mono ?_; rintro e' w2 ⟨rfl, h2, q2⟩))
      go_ret
      exact ⟨rfl, h2, (Kp.drewN _ _).trans q2⟩
end Go.Proofs.YthogejofkodmkacDoor
