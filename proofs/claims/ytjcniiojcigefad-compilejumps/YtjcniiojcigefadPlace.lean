/- The contracts of package code on an expression where it stands: its fault, what is in it. -/
import Derived.Test.YtjcniiojcigefadSmall
namespace Go.Proofs.Ytjcniiojcigefad
open Go.ChangeShapes Go.WideShapes Go.ChangeAt Go.RowKit
set_option maxRecDepth 8000 in
set_option maxHeartbeats 8000000 in
theorem fault_any (v : V) (ao : Option Addr) (cap : Nat) (o F : Int) (w : World) : Calls Try.prog 33 #[.agg #[.int .i64 v.kind, .int .i64 v.k, .int .i64 v.n, .slice ao v.l.length cap, .int .i64 o, .int .i64 F]] w fun e w' => e = .returned (.int .i64 (fault1 F v o)) ∧ Quiet w w' := by
  have q1 : Quiet w (w.alloc (.cells #[.int .i64 v.kind, .int .i64 v.k, .int .i64 v.n, .slice ao v.l.length cap, .int .i64 o, .int .i64 F] 61)) := Kp.alloc _ _
  have HK := hid (faultK_any v ao cap o F)
  by_cases h1 : partsI v.kind < 0
  · have hE := hid (show fault1 F v o = 2 by simp [fault1, h1])
    go_enter Try.func33, Try.ntmps33
    go_wp2_with (go_at_call 35; refine (parts_any _ _).mono ?_; rintro e w2 ⟨rfl, rfl⟩)
    go_ret
    exact ⟨by rw [hE.out]; rfl, q1⟩
  by_cases h2 : ¬ (v.l.length : Int) = partsI v.kind
  · have hE := hid (show fault1 F v o = 5 by simp [fault1, h1, h2])
    have hd : decide ((v.l.length : Int) = partsI v.kind) = false := by simpa using h2
    have hd1 : ((v.l.length : Int) == partsI v.kind) = false := by simpa using h2
    have hd2 : ((v.l.length : Int) != partsI v.kind) = true := by simpa using h2
    go_enter Try.func33, Try.ntmps33
    go_wp2_with (go_at_call 35; refine (parts_any _ _).mono ?_; rintro e w2 ⟨rfl, rfl⟩)
    go_ret
    exact ⟨by rw [hE.out]; rfl, q1⟩
  have h2 : (v.l.length : Int) = partsI v.kind := Decidable.not_not.1 h2
  have g1 : decide ((v.l.length : Int) = partsI v.kind) = true := by simpa using h2
  have g2 : ((v.l.length : Int) == partsI v.kind) = true := by simpa using h2
  have g3 : ((v.l.length : Int) != partsI v.kind) = false := by simpa using h2
  have H2 := hid h2
  clear h2
  have hfl : fault1 F v o = if v.n ≠ 0 ∧ v.kind ≠ 2 then 5 else if faultK F v.kind v.k o ≠ 0 then faultK F v.kind v.k o else if v.kind = 5 ∧ 12 ≤ o then 3 else 0 := by
    unfold fault1; rw [if_neg h1, if_neg (by rw [H2.out]; simp)]
  obtain ⟨fk, hfk⟩ : ∃ fk, fk = faultK F v.kind v.k o := ⟨_, rfl⟩
  rw [← hfk] at hfl
  have hK := hid hfk.symm
  clear hfk
  have HF := hid hfl
  clear hfl
  by_cases h3 : v.n ≠ 0 ∧ v.kind ≠ 2
  · obtain ⟨h3, h4⟩ := h3
    have hE := hid (show fault1 F v o = 5 by rw [HF.out, if_pos ⟨h3, h4⟩])
    have b1 : (v.n != 0) = true := by simpa using h3
    have b2 : (v.kind != 2) = true := by simpa using h4
    go_enter Try.func33, Try.ntmps33
    go_wp2_with (go_at_call 35; refine (parts_any _ _).mono ?_; rintro e w2 ⟨rfl, rfl⟩)
    go_ret
    exact ⟨by rw [hE.out]; rfl, q1⟩
  have HF2 := hid (HF.out.trans (if_neg h3))
  clear HF
  by_cases h4 : fk = 0
  · subst h4
    by_cases h5 : v.kind = 5
    · have h6 : v.n = 0 := by
        by_cases h : v.n = 0
        · exact h
        · exact absurd ⟨h, by omega⟩ h3
      by_cases h7 : 12 ≤ o
      · have hE := hid (show fault1 F v o = 3 by rw [HF2.out]; simp [h5, h7])
        obtain ⟨kind, k, n, l⟩ := v
        simp only at h5 h6
        subst h5 h6
        clear h3
        go_enter Try.func33, Try.ntmps33
        go_wp2_with (first | (go_at_call 36; refine (HK.out _).mono ?_; rintro e w3 ⟨rfl, q3⟩; rw [hK.out]; have c0 : w3.cell? ⟨w.heap.size, 0, none⟩ = some (.int .i64 5) := q3.cell (by simp) (fun e => e); have c4 : w3.cell? ⟨w.heap.size, 4, none⟩ = some (.int .i64 o) := q3.cell (by simp) (fun e => e)) | (go_at_call 35; refine (parts_any _ _).mono ?_; rintro e w2 ⟨rfl, rfl⟩))
        go_ret
        exact ⟨by rw [hE.out] <;> rfl, q1.trans q3⟩
      · have hd : decide (12 ≤ o) = false := by simpa using h7
        have hE := hid (show fault1 F v o = 0 by rw [HF2.out]; simp [h7])
        obtain ⟨kind, k, n, l⟩ := v
        simp only at h5 h6
        subst h5 h6
        clear h3
        go_enter Try.func33, Try.ntmps33
        go_wp2_with (first | (go_at_call 36; refine (HK.out _).mono ?_; rintro e w3 ⟨rfl, q3⟩; rw [hK.out]; have c0 : w3.cell? ⟨w.heap.size, 0, none⟩ = some (.int .i64 5) := q3.cell (by simp) (fun e => e); have c4 : w3.cell? ⟨w.heap.size, 4, none⟩ = some (.int .i64 o) := q3.cell (by simp) (fun e => e)) | (go_at_call 35; refine (parts_any _ _).mono ?_; rintro e w2 ⟨rfl, rfl⟩))
        go_ret
        exact ⟨by rw [hE.out] <;> rfl, q1.trans q3⟩
    · have hE := hid (show fault1 F v o = 0 by rw [HF2.out]; simp [h5])
      have b5 : (v.kind == 5) = false := by simpa using h5
      have b6 : decide (v.kind = 5) = false := by simpa using h5
      by_cases h6 : v.n = 0
      · obtain ⟨kind, k, n, l⟩ := v
        simp only at h6 b5 b6 h5
        subst h6
        clear h3 HF2
        simp only at *
        go_enter Try.func33, Try.ntmps33
        go_wp2_with (first | (go_at_call 36; refine (HK.out _).mono ?_; rintro e w3 ⟨rfl, q3⟩; rw [hK.out]; have c0 : w3.cell? ⟨w.heap.size, 0, none⟩ = some (.int .i64 kind) := q3.cell (by simp) (fun e => e); have c4 : w3.cell? ⟨w.heap.size, 4, none⟩ = some (.int .i64 o) := q3.cell (by simp) (fun e => e)) | (go_at_call 35; refine (parts_any _ _).mono ?_; rintro e w2 ⟨rfl, rfl⟩))
        go_ret
        exact ⟨by rw [hE.out] <;> rfl, q1.trans q3⟩
      · have h8 : v.kind = 2 := by
          by_cases h : v.kind = 2
          · exact h
          · exact absurd ⟨h6, h⟩ h3
        obtain ⟨kind, k, n, l⟩ := v
        simp only at h8
        subst h8
        clear h3 h5
        have b1 : (n != 0) = true := by simpa using h6
        go_enter Try.func33, Try.ntmps33
        go_wp2_with (first | (go_at_call 36; refine (HK.out _).mono ?_; rintro e w3 ⟨rfl, q3⟩; rw [hK.out]; have c0 : w3.cell? ⟨w.heap.size, 0, none⟩ = some (.int .i64 2) := q3.cell (by simp) (fun e => e); have c4 : w3.cell? ⟨w.heap.size, 4, none⟩ = some (.int .i64 o) := q3.cell (by simp) (fun e => e)) | (go_at_call 35; refine (parts_any _ _).mono ?_; rintro e w2 ⟨rfl, rfl⟩))
        go_ret
        exact ⟨by rw [hE.out] <;> rfl, q1.trans q3⟩
  · have hE := hid (show fault1 F v o = fk by rw [HF2.out, if_pos h4])
    have b4 : (fk != 0) = true := by simpa using h4
    by_cases h6 : v.n = 0
    · obtain ⟨kind, k, n, l⟩ := v
      simp only at h6
      subst h6
      clear h3 HF2
      simp only at *
      go_enter Try.func33, Try.ntmps33
      go_wp2_with (first | (go_at_call 36; refine (HK.out _).mono ?_; rintro e w3 ⟨rfl, q3⟩; rw [hK.out]; have c0 : w3.cell? ⟨w.heap.size, 0, none⟩ = some (.int .i64 kind) := q3.cell (by simp) (fun e => e); have c4 : w3.cell? ⟨w.heap.size, 4, none⟩ = some (.int .i64 o) := q3.cell (by simp) (fun e => e)) | (go_at_call 35; refine (parts_any _ _).mono ?_; rintro e w2 ⟨rfl, rfl⟩))
      go_ret
      exact ⟨by rw [hE.out] <;> rfl, q1.trans q3⟩
    · have h8 : v.kind = 2 := by
        by_cases h : v.kind = 2
        · exact h
        · exact absurd ⟨h6, h⟩ h3
      obtain ⟨kind, k, n, l⟩ := v
      simp only at h8
      subst h8
      clear h3
      have b1 : (n != 0) = true := by simpa using h6
      go_enter Try.func33, Try.ntmps33
      go_wp2_with (first | (go_at_call 36; refine (HK.out _).mono ?_; rintro e w3 ⟨rfl, q3⟩; rw [hK.out]; have c0 : w3.cell? ⟨w.heap.size, 0, none⟩ = some (.int .i64 2) := q3.cell (by simp) (fun e => e); have c4 : w3.cell? ⟨w.heap.size, 4, none⟩ = some (.int .i64 o) := q3.cell (by simp) (fun e => e)) | (go_at_call 35; refine (parts_any _ _).mono ?_; rintro e w2 ⟨rfl, rfl⟩))
      go_ret
      exact ⟨by rw [hE.out] <;> rfl, q1.trans q3⟩
end Go.Proofs.Ytjcniiojcigefad
