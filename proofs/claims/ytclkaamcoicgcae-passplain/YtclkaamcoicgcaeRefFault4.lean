/- The document's own answers: how many parts (as far as one too many), the first fault. -/
import Derived.Test.YtclkaamcoicgcaeJSize
import Derived.Test.YtclkaamcoicgcaeJSmall
namespace Go.Proofs.Ytclkaamcoicgcae
open Go.ChangeShapes Go.WideShapes Go.ChangeAt Go.RowKit
theorem great_any (v : V) (ao : Option Addr) (cap : Nat) (w : World) (hI : Is w v ao) :
    Calls Try.prog 7 #[.agg #[.int .i64 v.kind, .int .i64 v.n, .slice ao v.l.length cap]] w fun e w' => e = .returned (.bool (decide (500 < v.size))) ∧ Quiet w w' := by
  have q1 : Quiet w (w.alloc (.cells #[.int .i64 v.kind, .int .i64 v.n, .slice ao v.l.length cap] 25)) := Kp.alloc _ _
  have hm := hid (size_any 501 v ao cap 500 _ (by omega) (by omega) (hI.quiet q1))
  go_enter Try.func7, Try.ntmps7
  go_wp2_with (go_at_call 27; refine hm.out.mono ?_; rintro e w2 ⟨r, rfl, k1, k2, k3, k4, q2⟩; have HK := hid (And.intro k3 k4); clear k3 k4)
  go_ret
  refine ⟨?_, q1.trans q2⟩
  have h := HK.out
  simp only [Ending.returned.injEq]
  by_cases hb : 500 < v.size
  · simp [hb, h.2 hb]
  · simp [hb, h.1 (by omega)]; omega
theorem first_take0 (l : List V) : first (pres (l.take 0)) = 0 := by simp [pres_nil, first]
/-- The numbers of a part that is as it should be, by itself. -/
theorem fault1_zero {k n : Int} {l : List V} (h : (V.mk k n l).fault1 = 0) : ∃ p, partsB k = some p ∧ l.length = p ∧ ¬ ((k = 0 ∨ k = 2) ∧ n ≠ 0) ∧ ¬ ((k = 3 ∨ k = 4 ∨ k = 5) ∧ n < 0) := by
  unfold V.fault1 at h
  cases hp : partsB k with
  | none => simp [hp] at h
  | some p =>
    simp only [hp] at h
    refine ⟨p, rfl, ?_⟩
    by_cases h1 : l.length = p
    · by_cases h2 : (k = 0 ∨ k = 2) ∧ n ≠ 0
      · simp [h1, h2] at h
      · by_cases h3 : (k = 3 ∨ k = 4 ∨ k = 5) ∧ n < 0
        · rw [if_neg (by simp [h1]), if_neg h2, if_pos h3] at h; simp at h
        · exact ⟨h1, h2, h3⟩
    · simp [h1] at h
set_option maxRecDepth 8000 in
set_option maxHeartbeats 2000000 in
theorem faultR_any (v : V) : ∀ (ao : Option Addr) (cap : Nat) (w : World), Is w v ao → v.size ≤ 500 →
    Calls Try.prog 61 #[.agg #[.int .i64 v.kind, .int .i64 v.n, .slice ao v.l.length cap]] w fun e w' => e = .returned (.int .i64 v.fault) ∧ Quiet w w' := by
  induction v using V.ind with
  | h k n l ih =>
    intro ao cap w hI hS
    by_cases hz : (V.mk k n l).fault1 = 0
    · have hE := hid (show (V.mk k n l).fault = first (pres l) by rw [fault_eq, if_pos hz])
      obtain ⟨p, hp, hl, hn1, hn2⟩ := fault1_zero hz
      have hp2 : p ≤ 2 := by rcases parts_cases hp with h | h | h | h | h | h <;> omega
      have hsz : ∀ j (h : j < l.length), l[j].size ≤ 500 := fun j h => by have := size_get l j h; rw [size_mk] at hS; omega
      have h0 := first_take0 l
      have HI := hid (And.intro hI ih)
      have HSZ := hid hsz
      have hb0 := heap_alloc_new w (.cells #[.int .i64 k, .int .i64 n, .slice ao l.length cap] 25)
      clear hz hsz hI ih hS
      have main : ∀ (wr : World) (j : Nat), j < l.length → Quiet w wr → first (pres (l.take j)) = 0 → ∃ b off ai ci, ao = some ⟨b, off, none⟩ ∧ wr.cell? ⟨b, off + j * 3, none⟩ = some (.int .i64 (l.getD j ⟨0, 0, []⟩).kind) ∧ wr.cell? ⟨b, off + j * 3 + 1, none⟩ = some (.int .i64 (l.getD j ⟨0, 0, []⟩).n) ∧ wr.cell? ⟨b, off + j * 3 + 2, none⟩ = some (.slice ai (l.getD j ⟨0, 0, []⟩).l.length ci) ∧ (Calls Try.prog 61 #[.agg #[.int .i64 (l.getD j ⟨0, 0, []⟩).kind, .int .i64 (l.getD j ⟨0, 0, []⟩).n, .slice ai (l.getD j ⟨0, 0, []⟩).l.length ci]] wr fun e w' => e = .returned (.int .i64 (l.getD j ⟨0, 0, []⟩).fault) ∧ Quiet wr w') ∧ first (pres (l.take (j + 1))) = (l.getD j ⟨0, 0, []⟩).fault ∧ ((l.getD j ⟨0, 0, []⟩).fault ≠ 0 → first (pres l) = (l.getD j ⟨0, 0, []⟩).fault) := by
        intro wr j hj q hf
        obtain ⟨b, off, e, d0, d1, ai, ci, d2, hi⟩ := (HI.out.1.quiet q).get3 j hj
        have eq : l.getD j ⟨0, 0, []⟩ = l[j] := by simp [List.getD_eq_getElem?_getD, hj]
        rw [eq]
        exact ⟨b, off, ai, ci, e, d0, d1, d2, HI.out.2 l[j] (List.getElem_mem hj) ai ci wr hi (HSZ.out j hj), first_pres l j hj hf, first_stop l j hj hf⟩
      have HM := hid main
      have h0H := hid h0
      clear main h0
      have hll := hid hl
      rcases parts_cases hp with ⟨rfl, rfl⟩ | ⟨rfl, rfl⟩ | ⟨rfl, rfl⟩ | ⟨rfl, rfl⟩ | ⟨rfl, rfl⟩ | ⟨rfl, rfl⟩
      all_goals
        rw [hl] at hb0
        rw [show (V.mk _ n l).l.length = _ from hl]
        clear hl hp hp2
        have hn0 : _ := hn1
        have hn3 : _ := hn2
        simp at hn0 hn3
        clear hn1 hn2
        try subst hn0
        go_enter Try.func61, Try.ntmps61
        go_wp2
        go_loopw [4] (fun i wr => ∃ j : Nat, j ≤ l.length ∧ i = .int .i64 j ∧ first (pres (l.take j)) = 0 ∧ Quiet w wr ∧ wr.cell? ⟨w.heap.size, 2, none⟩ = some (.slice ao l.length cap)) (fun i _ => l.length - (intOf i).toNat)
        case atStart => exact ⟨0, Nat.zero_le _, rfl, h0H.out, Kp.alloc _ _, by rw [hll.out]; simp⟩
        case round =>
          obtain ⟨j, hj, rfl, hf, q, hc⟩ := hrel
          have hj' : j ≤ _ := hll.out ▸ hj
          have HF := hid hf
          have HC := hid hc
          rw [hll.out] at hc
          clear hj
          by_cases hlt : j < l.length
          · first
            | (exfalso; have h9 := hll.out; omega)
            | (have hlt' : j < _ := hll.out ▸ hlt
               have HLT := hid hlt
               obtain ⟨b, off, ai, ci, rfl, d0, d1, d2, hcall, hnx, hst⟩ := HM.out wr j hlt q hf
               have HN := hid (And.intro hnx hst)
               have HCA := hid hcall
               clear hlt hf hnx hst hcall
               generalize l.getD j ⟨0, 0, []⟩ = u at *
               by_cases huz : u.fault = 0
               · have HU := hid huz
                 clear huz
                 go_wp2_with (go_at_call 61; refine HCA.out.mono ?_; rintro e w3 ⟨rfl, q3⟩; rw [HU.out])
                 refine ⟨⟨j + 1, HLT.out, by go_num, by rw [HN.out.1, HU.out], q.trans q3, q3.cell HC.out fun e => e⟩, ?_⟩
                 have := HLT.out
                 simp [intOf]; omega
               · have hu2 : (u.fault != 0) = true := by simpa using huz
                 go_wp2_with (go_at_call 61; refine HCA.out.mono ?_; rintro e w3 ⟨rfl, q3⟩)
                 go_ret
                 exact ⟨by rw [hE.out, HN.out.2 huz]; rfl, q.trans q3⟩)
          · have hlt' : ¬ j < _ := hll.out ▸ hlt
            have HLT := hid hlt
            clear hlt hf
            go_wp2
            go_ret
            refine ⟨?_, q⟩
            have h5 := HF.out
            rw [List.take_of_length_le (by have := HLT.out; omega)] at h5
            rw [hE.out, h5]; rfl
    · have hE := hid (show (V.mk k n l).fault = (V.mk k n l).fault1 by rw [fault_eq, if_neg hz])
      clear ih hI
      cases hp : partsB k with
      | none =>
        have hF := hid (show (V.mk k n l).fault1 = 2 by simp [V.fault1, hp])
        obtain ⟨h2, h3, h0, h1, h4, h5⟩ := parts_none hp
        clear hz
        go_enter Try.func61, Try.ntmps61
        go_wp2
        go_ret
        exact ⟨by rw [hE.out, hF.out]; rfl, Kp.alloc _ _⟩
      | some p =>
        by_cases hl : l.length = p
        · have hF := hid (show (V.mk k n l).fault1 = if (k = 0 ∨ k = 2) ∧ n ≠ 0 then 5 else if (k = 3 ∨ k = 4 ∨ k = 5) ∧ n < 0 then 1 else 0 by simp [V.fault1, hp, hl])
          have hz' := hid hz
          clear hz
          generalize l.length = ll at *
          subst hl
          have hnz : ((k = 0 ∨ k = 2) ∧ n ≠ 0) ∨ ((k = 3 ∨ k = 4 ∨ k = 5) ∧ n < 0) := by
            by_cases a : (k = 0 ∨ k = 2) ∧ n ≠ 0
            · exact .inl a
            · by_cases b : (k = 3 ∨ k = 4 ∨ k = 5) ∧ n < 0
              · exact .inr b
              · have h1 := hz'.out; rw [hF.out, if_neg a, if_neg b] at h1; exact absurd rfl h1
          have hG : Hid ((V.mk k n l).fault1 = if (k = 0 ∨ k = 2) then 5 else 1) := by
            rw [hF.out]
            rcases hnz with h | h
            · rw [if_pos h, if_pos h.1]; exact rfl
            · rw [if_neg (by omega), if_pos h, if_neg (by omega)]; exact rfl
          clear hF hz'
          rcases parts_cases hp with ⟨rfl, rfl⟩ | ⟨rfl, rfl⟩ | ⟨rfl, rfl⟩ | ⟨rfl, rfl⟩ | ⟨rfl, rfl⟩ | ⟨rfl, rfl⟩
          · have h1 : n ≠ 0 := by omega
            have h2 : (n != 0) = true := by simpa using h1
            clear hnz
            go_enter Try.func61, Try.ntmps61
            go_wp2
            go_ret
            exact ⟨by rw [hE.out, hG.out]; rfl, Kp.alloc _ _⟩
          · have h1 : n < 0 := by omega
            clear hnz
            go_enter Try.func61, Try.ntmps61
            go_wp2
            go_ret
            exact ⟨by rw [hE.out, hG.out]; rfl, Kp.alloc _ _⟩
          · have h1 : n ≠ 0 := by omega
            have h2 : (n != 0) = true := by simpa using h1
            clear hnz
            go_enter Try.func61, Try.ntmps61
            go_wp2
            go_ret
            exact ⟨by rw [hE.out, hG.out]; rfl, Kp.alloc _ _⟩
          · omega
          all_goals
            have h1 : n < 0 := by omega
            clear hnz
            go_enter Try.func61, Try.ntmps61
            go_wp2
            go_ret
            exact ⟨by rw [hE.out, hG.out]; rfl, Kp.alloc _ _⟩
        · have hF := hid (show (V.mk k n l).fault1 = 5 by simp [V.fault1, hp, hl])
          clear hz
          rcases parts_cases hp with ⟨rfl, rfl⟩ | ⟨rfl, rfl⟩ | ⟨rfl, rfl⟩ | ⟨rfl, rfl⟩ | ⟨rfl, rfl⟩ | ⟨rfl, rfl⟩
          all_goals
            go_enter Try.func61, Try.ntmps61
            go_wp2
            go_ret
            exact ⟨by rw [hE.out, hF.out]; rfl, Kp.alloc _ _⟩
theorem valFault_any (v : V) (ao : Option Addr) (cap : Nat) (w : World) (hI : Is w v ao) (hS : v.size ≤ 500) :
    Calls Try.prog 33 #[.agg #[.int .i64 v.kind, .int .i64 v.n, .slice ao v.l.length cap]] w fun e w' => e = .returned (.int .i64 v.check) ∧ Quiet w w' := by
  have q1 : Quiet w (w.alloc (.cells #[.int .i64 v.kind, .int .i64 v.n, .slice ao v.l.length cap] 25)) := Kp.alloc _ _
  have hm := hid (size_any 41 v ao cap 40 _ (by omega) (by omega) (hI.quiet q1))
  have hs : ∀ w2, Quiet w w2 → _ := fun w2 q2 => faultR_any v ao cap w2 (hI.quiet q2) hS
  by_cases hb : 40 < v.size
  · have hE := hid (show v.check = 3 by unfold V.check; rw [if_pos hb])
    have HB := hid hb
    clear hb
    go_enter Try.func33, Try.ntmps33
    go_wp2_with (go_at_call 27; refine hm.out.mono ?_; rintro e w2 ⟨r, rfl, k1, k2, k3, k4, q2⟩; obtain rfl := k4 HB.out; clear k3 k4)
    go_ret
    exact ⟨by rw [hE.out]; rfl, q1.trans q2⟩
  · have hE := hid (show v.check = v.fault by unfold V.check; rw [if_neg hb])
    have HB := hid hb
    clear hb
    go_enter Try.func33, Try.ntmps33
    go_wp2_with (first
      | (go_at_call 27; refine hm.out.mono ?_; rintro e w2 ⟨r, rfl, k1, k2, k3, k4, q2⟩; have hr := k3 (by have := HB.out; omega); have hr4 : r ≤ 40 := (by have := HB.out; omega); clear k3 k4 hr; have q12 := q1.trans q2; have c0 : w2.cell? ⟨w.heap.size, 0, none⟩ = some (.int .i64 v.kind) := q2.cell (by simp) (fun e => e); have c1 : w2.cell? ⟨w.heap.size, 1, none⟩ = some (.int .i64 v.n) := q2.cell (by simp) (fun e => e); have c2 : w2.cell? ⟨w.heap.size, 2, none⟩ = some (.slice ao v.l.length cap) := q2.cell (by simp) (fun e => e))
      | (go_at_call 61; refine (hs w2 q12).mono ?_; rintro e w3 ⟨rfl, q3⟩))
    go_ret
    exact ⟨by rw [hE.out]; rfl, q12.trans q3⟩
end Go.Proofs.Ytclkaamcoicgcae
