/- The document's own answer: the first fault of an expression, of a module. -/
import Derived.Test.YtjcniiojcigefadStack
import Derived.Test.YtjcniiojcigefadRefSame
import Derived.Test.YtjcniiojcigefadRefSize
import Derived.Test.YtjcniiojcigefadRefDeep
import Derived.Laws.ResultCell
namespace Go.Proofs.Ytjcniiojcigefad
open Go.ChangeShapes Go.WideShapes Go.ChangeAt Go.RowKit
theorem bads_next (F kind : Int) (l : List V) (j : Nat) (o : Int) (h : j < l.length) : (l[j].bad F (opens kind o j) = 0 → bads F kind (l.drop j) j o = bads F kind (l.drop (j + 1)) (j + 1) o) ∧ (l[j].bad F (opens kind o j) ≠ 0 → bads F kind (l.drop j) j o = l[j].bad F (opens kind o j)) := by
  rw [List.drop_eq_getElem_cons h, bads_cons]
  exact ⟨fun h0 => if_pos h0, fun h0 => if_neg h0⟩
set_option maxRecDepth 8000 in
set_option maxHeartbeats 16000000 in
theorem exprFault_any (F : Nat) (ma : Option Addr) (mc : Nat) (hF : F ≤ 20000) (v : V) : ∀ (ao : Option Addr) (cap : Nat) (o : Int) (w : World), Is w v ao → 0 ≤ o ∧ o ≤ 12 → v.size ≤ 20000 →
    Calls Try.prog 20 #[.agg #[.slice ma F mc], .agg #[.int .i64 v.kind, .int .i64 v.k, .int .i64 v.n, .slice ao v.l.length cap], .int .i64 o] w fun e w' => e = .returned (.int .i64 (v.bad F o)) ∧ Quiet w w' := by
  induction v using V.ind' with
  | h v ih =>
    intro ao cap o w hI ho hS
    obtain ⟨kind, k, n, l⟩ := v
    simp only at ih ⊢
    have q2 : Quiet w ((w.alloc (.cells #[.slice ma F mc] 24)).alloc (.cells #[.int .i64 kind, .int .i64 k, .int .i64 n, .slice ao l.length cap] 38)) := (Kp.alloc _ _).trans (Kp.alloc _ _)
    have HBE := hid (bad_eq F ⟨kind, k, n, l⟩ o)
    have hsz : ∀ j (h : j < l.length), l[j].size ≤ 20000 := fun j h => by have h1 := size_get l j h; have h2 := size_eq ⟨kind, k, n, l⟩; simp only at h2; omega
    have hll : l.length ≤ 20000 := by have h1 := sizes_len l; have h2 := size_eq ⟨kind, k, n, l⟩; simp only at h2; omega
    have HSZ := hid hsz
    have HI := hid (And.intro hI ih)
    clear hsz hS hI ih
    by_cases h1 : partsI kind < 0
    · have hE := hid (show V.bad F ⟨kind, k, n, l⟩ o = 2 by rw [HBE.out]; simp [fault1, h1])
      go_enter Try.func20, Try.ntmps20
      go_wp2_with (go_at_call 26; refine (partsOf_any _ _).mono ?_; rintro e w2 ⟨rfl, rfl⟩)
      go_ret
      exact ⟨by rw [hE.out] <;> rfl, q2⟩
    by_cases h2 : ¬ (l.length : Int) = partsI kind
    · have hE := hid (show V.bad F ⟨kind, k, n, l⟩ o = 5 by rw [HBE.out]; simp [fault1, h1, h2])
      have g1 : decide ((l.length : Int) = partsI kind) = false := by simpa using h2
      have g2 : ((l.length : Int) == partsI kind) = false := by simpa using h2
      have g3 : ((l.length : Int) != partsI kind) = true := by simpa using h2
      go_enter Try.func20, Try.ntmps20
      go_wp2_with (go_at_call 26; refine (partsOf_any _ _).mono ?_; rintro e w2 ⟨rfl, rfl⟩)
      go_ret
      exact ⟨by rw [hE.out] <;> rfl, q2⟩
    have h2 : (l.length : Int) = partsI kind := Decidable.not_not.1 h2
    have g1 : decide ((l.length : Int) = partsI kind) = true := by simpa using h2
    have g2 : ((l.length : Int) == partsI kind) = true := by simpa using h2
    have g3 : ((l.length : Int) != partsI kind) = false := by simpa using h2
    have HL := hid h2
    have HF1 := hid (show fault1 F ⟨kind, k, n, l⟩ o = if n ≠ 0 ∧ kind ≠ 2 then 5 else if faultK F kind k o ≠ 0 then faultK F kind k o else if kind = 5 ∧ 12 ≤ o then 3 else 0 by
      unfold fault1; simp only; rw [if_neg h1, if_neg (by rw [h2]; simp)])
    rename_i h2'
    clear h2 h2'
    by_cases h3 : n ≠ 0 ∧ kind ≠ 2
    · have hE := hid (show V.bad F ⟨kind, k, n, l⟩ o = 5 by rw [HBE.out, HF1.out, if_pos h3]; rfl)
      obtain ⟨h3, h4⟩ := h3
      have e1 : (n != 0) = true := by simpa using h3
      have e2 : (kind != 2) = true := by simpa using h4
      go_enter Try.func20, Try.ntmps20
      go_wp2_with (go_at_call 26; refine (partsOf_any _ _).mono ?_; rintro e w2 ⟨rfl, rfl⟩)
      go_ret
      exact ⟨by rw [hE.out] <;> rfl, q2⟩
    have HF2 := hid (HF1.out.trans (if_neg h3))
    clear HF1
    by_cases h4 : kind = 4
    · subst h4
      have hn0 : n = 0 := by
        by_cases h : n = 0
        · exact h
        · exact absurd ⟨h, by decide⟩ h3
      subst hn0
      clear h3
      by_cases ha : k < 0
      · have hE := hid (show V.bad F ⟨4, k, 0, l⟩ o = 1 by rw [HBE.out, HF2.out]; have hh : faultK F 4 k o = 1 := (by simp only [faultK]; simp; omega); simp [hh])
        go_enter Try.func20, Try.ntmps20
        go_wp2_with (go_at_call 26; refine (partsOf_any _ _).mono ?_; rintro e w2 ⟨rfl, rfl⟩)
        go_ret
        exact ⟨by rw [hE.out] <;> rfl, q2⟩
      have ha' : ¬ k < 0 := ha
      by_cases hb : o - 1 < k
      · have hE := hid (show V.bad F ⟨4, k, 0, l⟩ o = 1 by rw [HBE.out, HF2.out]; have hh : faultK F 4 k o = 1 := (by simp only [faultK]; simp; omega); simp [hh])
        go_enter Try.func20, Try.ntmps20
        go_wp2_with (go_at_call 26; refine (partsOf_any _ _).mono ?_; rintro e w2 ⟨rfl, rfl⟩)
        go_ret
        exact ⟨by rw [hE.out] <;> rfl, q2⟩
      have HZ := hid (show V.bad F ⟨4, k, 0, l⟩ o = bads F 4 l 0 o by rw [HBE.out, HF2.out]; have hh : faultK F 4 k o = 0 := (by simp only [faultK]; simp; omega); simp [hh])
      go_enter Try.func20, Try.ntmps20
      go_wp2_with (go_at_call 26; refine (partsOf_any _ _).mono ?_; rintro e w2 ⟨rfl, rfl⟩)
      go_loopw [10] (fun i wr => ∃ j : Nat, j ≤ l.length ∧ i = .int .i64 j ∧ bads F 4 l 0 o = bads F 4 (l.drop j) j o ∧ Quiet ((w.alloc (.cells #[.slice ma F mc] 24)).alloc (.cells #[.int .i64 4, .int .i64 k, .int .i64 0, .slice ao l.length cap] 38)) wr) (fun i _ => l.length - (intOf i).toNat)
      case atStart => exact ⟨0, Nat.zero_le _, rfl, rfl, Kp.refl _ _⟩
      case round =>
        rename World => wq
        obtain ⟨j, hj, rfl, hbd, q⟩ := hrel
        obtain ⟨hb0, hb1⟩ := two_boxes q
        have m0 := cell_of_one hb0
        obtain ⟨x0, _, _, x3⟩ := box_cells hb1
        have HB := hid hbd
        clear hb0 hb1 hbd
        by_cases hlt : j < l.length
        · have hlt' : (j : Int) < partsI 4 := by rw [← HL.out]; omega
          obtain ⟨b, off, rfl, dh, ai, ci, ds, hci⟩ := (HI.out.1.quiet (q2.trans q)).get j hlt
          obtain ⟨d0, d9, d1⟩ := dh
          have HC := hid (fun o' ho' => HI.out.2 l[j] (List.getElem_mem hlt) ai ci o' wq.drew (hci.quiet (Kp.drew _)) ho' (HSZ.out j hlt))
          have HN := hid (bads_next F 4 l j o hlt)
          simp only at d0 d9 d1 ds
          generalize hcu : l[j] = c at *
          clear hcu hci
          have HO := hid (show opens 4 o j = o by simp [opens])
          by_cases hcz : c.bad F (o) = 0
          · have HCZ := hid hcz
            clear hcz
            go_wp2
            go_still_tail 7, Try.mixed
            go_wp2_with (go_at_call 20; refine (HC.out (o) (by omega)).mono ?_; rintro e w3 ⟨rfl, q3⟩; rw [HCZ.out])
            exact ⟨⟨j + 1, by omega, by go_num, by rw [HB.out, HN.out.1 (by rw [HO.out]; exact HCZ.out)], q.trans ((Kp.drew _).trans q3)⟩, by simp [intOf]; omega⟩
          · have hE := hid (show V.bad F ⟨4, k, 0, l⟩ o = c.bad F (o) by
              rw [HZ.out, HB.out, HN.out.2 (by rw [HO.out]; exact hcz), HO.out])
            have hcb : (c.bad F (o) != 0) = true := by simpa using hcz
            go_wp2
            go_still_tail 7, Try.mixed
            go_wp2_with (go_at_call 20; refine (HC.out (o) (by omega)).mono ?_; rintro e w3 ⟨rfl, q3⟩)
            go_ret
            exact ⟨by rw [hE.out] <;> rfl, q2.trans (q.trans ((Kp.drew _).trans q3))⟩
        · have hlt' : ¬ (j : Int) < partsI 4 := by rw [← HL.out]; omega
          have hE := hid (show V.bad F ⟨4, k, 0, l⟩ o = 0 by
            rw [HZ.out, HB.out, List.drop_of_length_le (by omega), bads_nil])
          go_wp2
          go_ret
          exact ⟨by rw [hE.out] <;> rfl, q2.trans q⟩
    by_cases h6 : kind = 6
    · subst h6
      have hn0 : n = 0 := by
        by_cases h : n = 0
        · exact h
        · exact absurd ⟨h, by decide⟩ h3
      subst hn0
      clear h3
      by_cases ha : k < 1
      · have hE := hid (show V.bad F ⟨6, k, 0, l⟩ o = 1 by rw [HBE.out, HF2.out]; have hh : faultK F 6 k o = 1 := (by simp only [faultK]; simp; omega); simp [hh])
        go_enter Try.func20, Try.ntmps20
        go_wp2_with (go_at_call 26; refine (partsOf_any _ _).mono ?_; rintro e w2 ⟨rfl, rfl⟩)
        go_ret
        exact ⟨by rw [hE.out] <;> rfl, q2⟩
      have ha' : ¬ k < 1 := ha
      by_cases hb : 5 < k
      · have hE := hid (show V.bad F ⟨6, k, 0, l⟩ o = 1 by rw [HBE.out, HF2.out]; have hh : faultK F 6 k o = 1 := (by simp only [faultK]; simp; omega); simp [hh])
        go_enter Try.func20, Try.ntmps20
        go_wp2_with (go_at_call 26; refine (partsOf_any _ _).mono ?_; rintro e w2 ⟨rfl, rfl⟩)
        go_ret
        exact ⟨by rw [hE.out] <;> rfl, q2⟩
      have HZ := hid (show V.bad F ⟨6, k, 0, l⟩ o = bads F 6 l 0 o by rw [HBE.out, HF2.out]; have hh : faultK F 6 k o = 0 := (by simp only [faultK]; simp; omega); simp [hh])
      go_enter Try.func20, Try.ntmps20
      go_wp2_with (go_at_call 26; refine (partsOf_any _ _).mono ?_; rintro e w2 ⟨rfl, rfl⟩)
      go_loopw [10] (fun i wr => ∃ j : Nat, j ≤ l.length ∧ i = .int .i64 j ∧ bads F 6 l 0 o = bads F 6 (l.drop j) j o ∧ Quiet ((w.alloc (.cells #[.slice ma F mc] 24)).alloc (.cells #[.int .i64 6, .int .i64 k, .int .i64 0, .slice ao l.length cap] 38)) wr) (fun i _ => l.length - (intOf i).toNat)
      case atStart => exact ⟨0, Nat.zero_le _, rfl, rfl, Kp.refl _ _⟩
      case round =>
        rename World => wq
        obtain ⟨j, hj, rfl, hbd, q⟩ := hrel
        obtain ⟨hb0, hb1⟩ := two_boxes q
        have m0 := cell_of_one hb0
        obtain ⟨x0, _, _, x3⟩ := box_cells hb1
        have HB := hid hbd
        clear hb0 hb1 hbd
        by_cases hlt : j < l.length
        · have hlt' : (j : Int) < partsI 6 := by rw [← HL.out]; omega
          obtain ⟨b, off, rfl, dh, ai, ci, ds, hci⟩ := (HI.out.1.quiet (q2.trans q)).get j hlt
          obtain ⟨d0, d9, d1⟩ := dh
          have HC := hid (fun o' ho' => HI.out.2 l[j] (List.getElem_mem hlt) ai ci o' wq.drew (hci.quiet (Kp.drew _)) ho' (HSZ.out j hlt))
          have HN := hid (bads_next F 6 l j o hlt)
          simp only at d0 d9 d1 ds
          generalize hcu : l[j] = c at *
          clear hcu hci
          have HO := hid (show opens 6 o j = o by simp [opens])
          by_cases hcz : c.bad F (o) = 0
          · have HCZ := hid hcz
            clear hcz
            go_wp2
            go_still_tail 7, Try.mixed
            go_wp2_with (go_at_call 20; refine (HC.out (o) (by omega)).mono ?_; rintro e w3 ⟨rfl, q3⟩; rw [HCZ.out])
            exact ⟨⟨j + 1, by omega, by go_num, by rw [HB.out, HN.out.1 (by rw [HO.out]; exact HCZ.out)], q.trans ((Kp.drew _).trans q3)⟩, by simp [intOf]; omega⟩
          · have hE := hid (show V.bad F ⟨6, k, 0, l⟩ o = c.bad F (o) by
              rw [HZ.out, HB.out, HN.out.2 (by rw [HO.out]; exact hcz), HO.out])
            have hcb : (c.bad F (o) != 0) = true := by simpa using hcz
            go_wp2
            go_still_tail 7, Try.mixed
            go_wp2_with (go_at_call 20; refine (HC.out (o) (by omega)).mono ?_; rintro e w3 ⟨rfl, q3⟩)
            go_ret
            exact ⟨by rw [hE.out] <;> rfl, q2.trans (q.trans ((Kp.drew _).trans q3))⟩
        · have hlt' : ¬ (j : Int) < partsI 6 := by rw [← HL.out]; omega
          have hE := hid (show V.bad F ⟨6, k, 0, l⟩ o = 0 by
            rw [HZ.out, HB.out, List.drop_of_length_le (by omega), bads_nil])
          go_wp2
          go_ret
          exact ⟨by rw [hE.out] <;> rfl, q2.trans q⟩
    by_cases h15 : kind = 15
    · subst h15
      have hn0 : n = 0 := by
        by_cases h : n = 0
        · exact h
        · exact absurd ⟨h, by decide⟩ h3
      subst hn0
      clear h3
      by_cases ha : k < 0
      · have hE := hid (show V.bad F ⟨15, k, 0, l⟩ o = 1 by rw [HBE.out, HF2.out]; have hh : faultK F 15 k o = 1 := (by simp only [faultK]; simp; omega); simp [hh])
        go_enter Try.func20, Try.ntmps20
        go_wp2_with (go_at_call 26; refine (partsOf_any _ _).mono ?_; rintro e w2 ⟨rfl, rfl⟩)
        go_ret
        exact ⟨by rw [hE.out] <;> rfl, q2⟩
      have ha' : ¬ k < 0 := ha
      by_cases hb : 15 < k
      · have hE := hid (show V.bad F ⟨15, k, 0, l⟩ o = 1 by rw [HBE.out, HF2.out]; have hh : faultK F 15 k o = 1 := (by simp only [faultK]; simp; omega); simp [hh])
        go_enter Try.func20, Try.ntmps20
        go_wp2_with (go_at_call 26; refine (partsOf_any _ _).mono ?_; rintro e w2 ⟨rfl, rfl⟩)
        go_ret
        exact ⟨by rw [hE.out] <;> rfl, q2⟩
      have HZ := hid (show V.bad F ⟨15, k, 0, l⟩ o = bads F 15 l 0 o by rw [HBE.out, HF2.out]; have hh : faultK F 15 k o = 0 := (by simp only [faultK]; simp; omega); simp [hh])
      go_enter Try.func20, Try.ntmps20
      go_wp2_with (go_at_call 26; refine (partsOf_any _ _).mono ?_; rintro e w2 ⟨rfl, rfl⟩)
      go_loopw [10] (fun i wr => ∃ j : Nat, j ≤ l.length ∧ i = .int .i64 j ∧ bads F 15 l 0 o = bads F 15 (l.drop j) j o ∧ Quiet ((w.alloc (.cells #[.slice ma F mc] 24)).alloc (.cells #[.int .i64 15, .int .i64 k, .int .i64 0, .slice ao l.length cap] 38)) wr) (fun i _ => l.length - (intOf i).toNat)
      case atStart => exact ⟨0, Nat.zero_le _, rfl, rfl, Kp.refl _ _⟩
      case round =>
        rename World => wq
        obtain ⟨j, hj, rfl, hbd, q⟩ := hrel
        obtain ⟨hb0, hb1⟩ := two_boxes q
        have m0 := cell_of_one hb0
        obtain ⟨x0, _, _, x3⟩ := box_cells hb1
        have HB := hid hbd
        clear hb0 hb1 hbd
        by_cases hlt : j < l.length
        · have hlt' : (j : Int) < partsI 15 := by rw [← HL.out]; omega
          obtain ⟨b, off, rfl, dh, ai, ci, ds, hci⟩ := (HI.out.1.quiet (q2.trans q)).get j hlt
          obtain ⟨d0, d9, d1⟩ := dh
          have HC := hid (fun o' ho' => HI.out.2 l[j] (List.getElem_mem hlt) ai ci o' wq.drew (hci.quiet (Kp.drew _)) ho' (HSZ.out j hlt))
          have HN := hid (bads_next F 15 l j o hlt)
          simp only at d0 d9 d1 ds
          generalize hcu : l[j] = c at *
          clear hcu hci
          have HO := hid (show opens 15 o j = o by simp [opens])
          by_cases hcz : c.bad F (o) = 0
          · have HCZ := hid hcz
            clear hcz
            go_wp2
            go_still_tail 7, Try.mixed
            go_wp2_with (go_at_call 20; refine (HC.out (o) (by omega)).mono ?_; rintro e w3 ⟨rfl, q3⟩; rw [HCZ.out])
            exact ⟨⟨j + 1, by omega, by go_num, by rw [HB.out, HN.out.1 (by rw [HO.out]; exact HCZ.out)], q.trans ((Kp.drew _).trans q3)⟩, by simp [intOf]; omega⟩
          · have hE := hid (show V.bad F ⟨15, k, 0, l⟩ o = c.bad F (o) by
              rw [HZ.out, HB.out, HN.out.2 (by rw [HO.out]; exact hcz), HO.out])
            have hcb : (c.bad F (o) != 0) = true := by simpa using hcz
            go_wp2
            go_still_tail 7, Try.mixed
            go_wp2_with (go_at_call 20; refine (HC.out (o) (by omega)).mono ?_; rintro e w3 ⟨rfl, q3⟩)
            go_ret
            exact ⟨by rw [hE.out] <;> rfl, q2.trans (q.trans ((Kp.drew _).trans q3))⟩
        · have hlt' : ¬ (j : Int) < partsI 15 := by rw [← HL.out]; omega
          have hE := hid (show V.bad F ⟨15, k, 0, l⟩ o = 0 by
            rw [HZ.out, HB.out, List.drop_of_length_le (by omega), bads_nil])
          go_wp2
          go_ret
          exact ⟨by rw [hE.out] <;> rfl, q2.trans q⟩
    by_cases h18 : kind = 18
    · subst h18
      have hn0 : n = 0 := by
        by_cases h : n = 0
        · exact h
        · exact absurd ⟨h, by decide⟩ h3
      subst hn0
      clear h3
      by_cases ha : k < 0
      · have hE := hid (show V.bad F ⟨18, k, 0, l⟩ o = 1 by rw [HBE.out, HF2.out]; have hh : faultK F 18 k o = 1 := (by simp only [faultK]; simp; omega); simp [hh])
        go_enter Try.func20, Try.ntmps20
        go_wp2_with (go_at_call 26; refine (partsOf_any _ _).mono ?_; rintro e w2 ⟨rfl, rfl⟩)
        go_ret
        exact ⟨by rw [hE.out] <;> rfl, q2⟩
      have ha' : ¬ k < 0 := ha
      by_cases hb : (F : Int) - 1 < k
      · have hE := hid (show V.bad F ⟨18, k, 0, l⟩ o = 1 by rw [HBE.out, HF2.out]; have hh : faultK F 18 k o = 1 := (by simp only [faultK]; simp; omega); simp [hh])
        go_enter Try.func20, Try.ntmps20
        go_wp2_with (go_at_call 26; refine (partsOf_any _ _).mono ?_; rintro e w2 ⟨rfl, rfl⟩)
        go_ret
        exact ⟨by rw [hE.out] <;> rfl, q2⟩
      have HZ := hid (show V.bad F ⟨18, k, 0, l⟩ o = bads F 18 l 0 o by rw [HBE.out, HF2.out]; have hh : faultK F 18 k o = 0 := (by simp only [faultK]; simp; omega); simp [hh])
      go_enter Try.func20, Try.ntmps20
      go_wp2_with (go_at_call 26; refine (partsOf_any _ _).mono ?_; rintro e w2 ⟨rfl, rfl⟩)
      go_loopw [10] (fun i wr => ∃ j : Nat, j ≤ l.length ∧ i = .int .i64 j ∧ bads F 18 l 0 o = bads F 18 (l.drop j) j o ∧ Quiet ((w.alloc (.cells #[.slice ma F mc] 24)).alloc (.cells #[.int .i64 18, .int .i64 k, .int .i64 0, .slice ao l.length cap] 38)) wr) (fun i _ => l.length - (intOf i).toNat)
      case atStart => exact ⟨0, Nat.zero_le _, rfl, rfl, Kp.refl _ _⟩
      case round =>
        rename World => wq
        obtain ⟨j, hj, rfl, hbd, q⟩ := hrel
        obtain ⟨hb0, hb1⟩ := two_boxes q
        have m0 := cell_of_one hb0
        obtain ⟨x0, _, _, x3⟩ := box_cells hb1
        have HB := hid hbd
        clear hb0 hb1 hbd
        by_cases hlt : j < l.length
        · have hlt' : (j : Int) < partsI 18 := by rw [← HL.out]; omega
          obtain ⟨b, off, rfl, dh, ai, ci, ds, hci⟩ := (HI.out.1.quiet (q2.trans q)).get j hlt
          obtain ⟨d0, d9, d1⟩ := dh
          have HC := hid (fun o' ho' => HI.out.2 l[j] (List.getElem_mem hlt) ai ci o' wq.drew (hci.quiet (Kp.drew _)) ho' (HSZ.out j hlt))
          have HN := hid (bads_next F 18 l j o hlt)
          simp only at d0 d9 d1 ds
          generalize hcu : l[j] = c at *
          clear hcu hci
          have HO := hid (show opens 18 o j = o by simp [opens])
          by_cases hcz : c.bad F (o) = 0
          · have HCZ := hid hcz
            clear hcz
            go_wp2
            go_still_tail 7, Try.mixed
            go_wp2_with (go_at_call 20; refine (HC.out (o) (by omega)).mono ?_; rintro e w3 ⟨rfl, q3⟩; rw [HCZ.out])
            exact ⟨⟨j + 1, by omega, by go_num, by rw [HB.out, HN.out.1 (by rw [HO.out]; exact HCZ.out)], q.trans ((Kp.drew _).trans q3)⟩, by simp [intOf]; omega⟩
          · have hE := hid (show V.bad F ⟨18, k, 0, l⟩ o = c.bad F (o) by
              rw [HZ.out, HB.out, HN.out.2 (by rw [HO.out]; exact hcz), HO.out])
            have hcb : (c.bad F (o) != 0) = true := by simpa using hcz
            go_wp2
            go_still_tail 7, Try.mixed
            go_wp2_with (go_at_call 20; refine (HC.out (o) (by omega)).mono ?_; rintro e w3 ⟨rfl, q3⟩)
            go_ret
            exact ⟨by rw [hE.out] <;> rfl, q2.trans (q.trans ((Kp.drew _).trans q3))⟩
        · have hlt' : ¬ (j : Int) < partsI 18 := by rw [← HL.out]; omega
          have hE := hid (show V.bad F ⟨18, k, 0, l⟩ o = 0 by
            rw [HZ.out, HB.out, List.drop_of_length_le (by omega), bads_nil])
          go_wp2
          go_ret
          exact ⟨by rw [hE.out] <;> rfl, q2.trans q⟩
    have c4 : (kind == 4) = false := by simpa using h4
    have c6 : (kind == 6) = false := by simpa using h6
    have c15 : (kind == 15) = false := by simpa using h15
    have c18 : (kind == 18) = false := by simpa using h18
    have hfk : faultK F kind k o = if k = 0 then 0 else 5 := by simp [faultK, h4, h6, h15, h18]
    by_cases hk : ¬ k = 0
    · have hE := hid (show V.bad F ⟨kind, k, n, l⟩ o = 5 by rw [HBE.out, HF2.out, hfk, if_neg hk]; rfl)
      have b1 : (k != 0) = true := by simpa using hk
      by_cases hn0 : n = 0
      · subst hn0
        clear h3
        go_enter Try.func20, Try.ntmps20
        go_wp2_with (go_at_call 26; refine (partsOf_any _ _).mono ?_; rintro e w2 ⟨rfl, rfl⟩)
        go_ret
        exact ⟨by rw [hE.out] <;> rfl, q2⟩
      · have hk2 : kind = 2 := by
          by_cases h : kind = 2
          · exact h
          · exact absurd ⟨hn0, h⟩ h3
        subst hk2
        have b2 : (n != 0) = true := by simpa using hn0
        clear h3
        go_enter Try.func20, Try.ntmps20
        go_wp2_with (go_at_call 26; refine (partsOf_any _ _).mono ?_; rintro e w2 ⟨rfl, rfl⟩)
        go_ret
        exact ⟨by rw [hE.out] <;> rfl, q2⟩
    have hk : k = 0 := Decidable.not_not.1 hk
    subst hk
    rw [if_pos rfl] at hfk
    by_cases h5 : kind = 5
    · subst h5
      have hn0 : n = 0 := by
        by_cases h : n = 0
        · exact h
        · exact absurd ⟨h, by decide⟩ h3
      subst hn0
      clear h3
      by_cases h12 : o = 12
      · subst h12
        have hE := hid (show V.bad F ⟨5, 0, 0, l⟩ 12 = 3 by rw [HBE.out, HF2.out, hfk]; simp)
        go_enter Try.func20, Try.ntmps20
        go_wp2_with (go_at_call 26; refine (partsOf_any _ _).mono ?_; rintro e w2 ⟨rfl, rfl⟩)
        go_ret
        exact ⟨by rw [hE.out] <;> rfl, q2⟩
      have d12 : (o == 12) = false := by simpa using h12
      have d13 : decide (o = 12) = false := by simpa using h12
      have HZ := hid (show V.bad F ⟨5, 0, 0, l⟩ o = bads F 5 l 0 o by rw [HBE.out, HF2.out, hfk]; have : ¬ 12 ≤ o := (by omega); simp [this])
      go_enter Try.func20, Try.ntmps20
      go_wp2_with (go_at_call 26; refine (partsOf_any _ _).mono ?_; rintro e w2 ⟨rfl, rfl⟩)
      go_loopw [10] (fun i wr => ∃ j : Nat, j ≤ l.length ∧ i = .int .i64 j ∧ bads F 5 l 0 o = bads F 5 (l.drop j) j o ∧ Quiet ((w.alloc (.cells #[.slice ma F mc] 24)).alloc (.cells #[.int .i64 5, .int .i64 0, .int .i64 0, .slice ao l.length cap] 38)) wr) (fun i _ => l.length - (intOf i).toNat)
      case atStart => exact ⟨0, Nat.zero_le _, rfl, rfl, Kp.refl _ _⟩
      case round =>
        rename World => wq
        obtain ⟨j, hj, rfl, hbd, q⟩ := hrel
        obtain ⟨hb0, hb1⟩ := two_boxes q
        have m0 := cell_of_one hb0
        obtain ⟨x0, _, _, x3⟩ := box_cells hb1
        have HB := hid hbd
        clear hb0 hb1 hbd
        by_cases hlt : j < l.length
        · have hlt' : (j : Int) < partsI 5 := by rw [← HL.out]; omega
          obtain ⟨b, off, rfl, dh, ai, ci, ds, hci⟩ := (HI.out.1.quiet (q2.trans q)).get j hlt
          obtain ⟨d0, d9, d1⟩ := dh
          have HC := hid (fun o' ho' => HI.out.2 l[j] (List.getElem_mem hlt) ai ci o' wq.drew (hci.quiet (Kp.drew _)) ho' (HSZ.out j hlt))
          have HN := hid (bads_next F 5 l j o hlt)
          simp only at d0 d9 d1 ds
          generalize hcu : l[j] = c at *
          clear hcu hci
          by_cases hj1 : j = 1
          · have HJ1 := hid hj1
            have hj3 : decide ((j : Int) = 1) = true := by simp; omega
            have hj4 : ((j : Int) == 1) = true := by simp; omega
            have HO := hid (show opens 5 o j = o + 1 by simp [opens, hj1])
            clear hj1
            by_cases hcz : c.bad F (o + 1) = 0
            · have HCZ := hid hcz
              clear hcz
              go_wp2
              go_still_tail 7, Try.mixed
              go_wp2_with (go_at_call 20; refine (HC.out (o + 1) (by omega)).mono ?_; rintro e w3 ⟨rfl, q3⟩; rw [HCZ.out])
              exact ⟨⟨j + 1, by omega, by go_num, by rw [HB.out, HN.out.1 (by rw [HO.out]; exact HCZ.out)], q.trans ((Kp.drew _).trans q3)⟩, by simp [intOf]; omega⟩
            · have hE := hid (show V.bad F ⟨5, 0, 0, l⟩ o = c.bad F (o + 1) by
                rw [HZ.out, HB.out, HN.out.2 (by rw [HO.out]; exact hcz), HO.out])
              have hcb : (c.bad F (o + 1) != 0) = true := by simpa using hcz
              go_wp2
              go_still_tail 7, Try.mixed
              go_wp2_with (go_at_call 20; refine (HC.out (o + 1) (by omega)).mono ?_; rintro e w3 ⟨rfl, q3⟩)
              go_ret
              exact ⟨by rw [hE.out] <;> rfl, q2.trans (q.trans ((Kp.drew _).trans q3))⟩
          · have hj2 : ¬ (j : Int) = 1 := by omega
            have hj3 : decide ((j : Int) = 1) = false := by simp; omega
            have hj4 : ((j : Int) == 1) = false := by simp; omega
            have HO := hid (show opens 5 o j = o by simp [opens, hj1])
            by_cases hcz : c.bad F (o) = 0
            · have HCZ := hid hcz
              clear hcz
              go_wp2
              go_still_tail 7, Try.mixed
              go_wp2_with (go_at_call 20; refine (HC.out (o) (by omega)).mono ?_; rintro e w3 ⟨rfl, q3⟩; rw [HCZ.out])
              exact ⟨⟨j + 1, by omega, by go_num, by rw [HB.out, HN.out.1 (by rw [HO.out]; exact HCZ.out)], q.trans ((Kp.drew _).trans q3)⟩, by simp [intOf]; omega⟩
            · have hE := hid (show V.bad F ⟨5, 0, 0, l⟩ o = c.bad F (o) by
                rw [HZ.out, HB.out, HN.out.2 (by rw [HO.out]; exact hcz), HO.out])
              have hcb : (c.bad F (o) != 0) = true := by simpa using hcz
              go_wp2
              go_still_tail 7, Try.mixed
              go_wp2_with (go_at_call 20; refine (HC.out (o) (by omega)).mono ?_; rintro e w3 ⟨rfl, q3⟩)
              go_ret
              exact ⟨by rw [hE.out] <;> rfl, q2.trans (q.trans ((Kp.drew _).trans q3))⟩
        · have hlt' : ¬ (j : Int) < partsI 5 := by rw [← HL.out]; omega
          have hE := hid (show V.bad F ⟨5, 0, 0, l⟩ o = 0 by
            rw [HZ.out, HB.out, List.drop_of_length_le (by omega), bads_nil])
          go_wp2
          go_ret
          exact ⟨by rw [hE.out] <;> rfl, q2.trans q⟩
    have c5 : (kind == 5) = false := by simpa using h5
    have c55 : decide (kind = 5) = false := by simpa using h5
    have HZ := hid (show V.bad F ⟨kind, 0, n, l⟩ o = bads F kind l 0 o by rw [HBE.out, HF2.out, hfk]; simp [h5])
    by_cases hn0 : n = 0
    · subst hn0
      clear h3
      go_enter Try.func20, Try.ntmps20
      go_wp2_with (go_at_call 26; refine (partsOf_any _ _).mono ?_; rintro e w2 ⟨rfl, rfl⟩)
      go_loopw [10] (fun i wr => ∃ j : Nat, j ≤ l.length ∧ i = .int .i64 j ∧ bads F kind l 0 o = bads F kind (l.drop j) j o ∧ Quiet ((w.alloc (.cells #[.slice ma F mc] 24)).alloc (.cells #[.int .i64 kind, .int .i64 0, .int .i64 0, .slice ao l.length cap] 38)) wr) (fun i _ => l.length - (intOf i).toNat)
      case atStart => exact ⟨0, Nat.zero_le _, rfl, rfl, Kp.refl _ _⟩
      case round =>
        rename World => wq
        obtain ⟨j, hj, rfl, hbd, q⟩ := hrel
        obtain ⟨hb0, hb1⟩ := two_boxes q
        have m0 := cell_of_one hb0
        obtain ⟨x0, _, _, x3⟩ := box_cells hb1
        have HB := hid hbd
        clear hb0 hb1 hbd
        by_cases hlt : j < l.length
        · have hlt' : (j : Int) < partsI kind := by rw [← HL.out]; omega
          obtain ⟨b, off, rfl, dh, ai, ci, ds, hci⟩ := (HI.out.1.quiet (q2.trans q)).get j hlt
          obtain ⟨d0, d9, d1⟩ := dh
          have HC := hid (fun o' ho' => HI.out.2 l[j] (List.getElem_mem hlt) ai ci o' wq.drew (hci.quiet (Kp.drew _)) ho' (HSZ.out j hlt))
          have HN := hid (bads_next F kind l j o hlt)
          simp only at d0 d9 d1 ds
          generalize hcu : l[j] = c at *
          clear hcu hci
          have HO := hid (show opens kind o j = o by simp [opens, h5])
          by_cases hcz : c.bad F (o) = 0
          · have HCZ := hid hcz
            clear hcz
            go_wp2
            go_still_tail 7, Try.mixed
            go_wp2_with (go_at_call 20; refine (HC.out (o) (by omega)).mono ?_; rintro e w3 ⟨rfl, q3⟩; rw [HCZ.out])
            exact ⟨⟨j + 1, by omega, by go_num, by rw [HB.out, HN.out.1 (by rw [HO.out]; exact HCZ.out)], q.trans ((Kp.drew _).trans q3)⟩, by simp [intOf]; omega⟩
          · have hE := hid (show V.bad F ⟨kind, 0, 0, l⟩ o = c.bad F (o) by
              rw [HZ.out, HB.out, HN.out.2 (by rw [HO.out]; exact hcz), HO.out])
            have hcb : (c.bad F (o) != 0) = true := by simpa using hcz
            go_wp2
            go_still_tail 7, Try.mixed
            go_wp2_with (go_at_call 20; refine (HC.out (o) (by omega)).mono ?_; rintro e w3 ⟨rfl, q3⟩)
            go_ret
            exact ⟨by rw [hE.out] <;> rfl, q2.trans (q.trans ((Kp.drew _).trans q3))⟩
        · have hlt' : ¬ (j : Int) < partsI kind := by rw [← HL.out]; omega
          have hE := hid (show V.bad F ⟨kind, 0, 0, l⟩ o = 0 by
            rw [HZ.out, HB.out, List.drop_of_length_le (by omega), bads_nil])
          go_wp2
          go_ret
          exact ⟨by rw [hE.out] <;> rfl, q2.trans q⟩
    · have hk2 : kind = 2 := by
        by_cases h : kind = 2
        · exact h
        · exact absurd ⟨hn0, h⟩ h3
      subst hk2
      have b2 : (n != 0) = true := by simpa using hn0
      clear h3
      go_enter Try.func20, Try.ntmps20
      go_wp2_with (go_at_call 26; refine (partsOf_any _ _).mono ?_; rintro e w2 ⟨rfl, rfl⟩)
      go_loopw [10] (fun i wr => ∃ j : Nat, j ≤ l.length ∧ i = .int .i64 j ∧ bads F 2 l 0 o = bads F 2 (l.drop j) j o ∧ Quiet ((w.alloc (.cells #[.slice ma F mc] 24)).alloc (.cells #[.int .i64 2, .int .i64 0, .int .i64 n, .slice ao l.length cap] 38)) wr) (fun i _ => l.length - (intOf i).toNat)
      case atStart => exact ⟨0, Nat.zero_le _, rfl, rfl, Kp.refl _ _⟩
      case round =>
        rename World => wq
        obtain ⟨j, hj, rfl, hbd, q⟩ := hrel
        obtain ⟨hb0, hb1⟩ := two_boxes q
        have m0 := cell_of_one hb0
        obtain ⟨x0, _, _, x3⟩ := box_cells hb1
        have HB := hid hbd
        clear hb0 hb1 hbd
        by_cases hlt : j < l.length
        · have hlt' : (j : Int) < partsI 2 := by rw [← HL.out]; omega
          obtain ⟨b, off, rfl, dh, ai, ci, ds, hci⟩ := (HI.out.1.quiet (q2.trans q)).get j hlt
          obtain ⟨d0, d9, d1⟩ := dh
          have HC := hid (fun o' ho' => HI.out.2 l[j] (List.getElem_mem hlt) ai ci o' wq.drew (hci.quiet (Kp.drew _)) ho' (HSZ.out j hlt))
          have HN := hid (bads_next F 2 l j o hlt)
          simp only at d0 d9 d1 ds
          generalize hcu : l[j] = c at *
          clear hcu hci
          have HO := hid (show opens 2 o j = o by simp [opens])
          by_cases hcz : c.bad F (o) = 0
          · have HCZ := hid hcz
            clear hcz
            go_wp2
            go_still_tail 7, Try.mixed
            go_wp2_with (go_at_call 20; refine (HC.out (o) (by omega)).mono ?_; rintro e w3 ⟨rfl, q3⟩; rw [HCZ.out])
            exact ⟨⟨j + 1, by omega, by go_num, by rw [HB.out, HN.out.1 (by rw [HO.out]; exact HCZ.out)], q.trans ((Kp.drew _).trans q3)⟩, by simp [intOf]; omega⟩
          · have hE := hid (show V.bad F ⟨2, 0, n, l⟩ o = c.bad F (o) by
              rw [HZ.out, HB.out, HN.out.2 (by rw [HO.out]; exact hcz), HO.out])
            have hcb : (c.bad F (o) != 0) = true := by simpa using hcz
            go_wp2
            go_still_tail 7, Try.mixed
            go_wp2_with (go_at_call 20; refine (HC.out (o) (by omega)).mono ?_; rintro e w3 ⟨rfl, q3⟩)
            go_ret
            exact ⟨by rw [hE.out] <;> rfl, q2.trans (q.trans ((Kp.drew _).trans q3))⟩
        · have hlt' : ¬ (j : Int) < partsI 2 := by rw [← HL.out]; omega
          have hE := hid (show V.bad F ⟨2, 0, n, l⟩ o = 0 by
            rw [HZ.out, HB.out, List.drop_of_length_le (by omega), bads_nil])
          go_wp2
          go_ret
          exact ⟨by rw [hE.out] <;> rfl, q2.trans q⟩
end Go.Proofs.Ytjcniiojcigefad
