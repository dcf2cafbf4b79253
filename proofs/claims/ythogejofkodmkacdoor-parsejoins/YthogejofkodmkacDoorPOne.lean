/- One of the words: of the kinds, of the arithmetics. -/
import Derived.Test.YthogejofkodmkacDoorGNext
import Derived.BigQuiet
import Derived.Deep.QuietTactic
namespace Go.Proofs.YthogejofkodmkacDoor
open Go.ChangeShapes Go.WideShapes Go.ChangeAt Go.RowKit
/-- The tables, and that the reader's box is none of them. -/
structure Rd (w : World) (rb : Nat) : Prop where
  tab : Wds w
  gw : 0 < rb
  gb : 1 < rb
theorem var_kr {w w' : World} {rb g : Nat} {n : String} {cs : Array Value} (hg : Tryd.prog.globalNamed n = some g) (hr : g < rb) (h : w.var? Tryd.prog n = some cs) (q : Kr rb w w') : w'.var? Tryd.prog n = some cs := by
  unfold World.var? at *
  simp only [hg, Option.bind_some] at h ⊢
  have hlt : g < w.heap.size := by
    rcases Nat.lt_or_ge g w.heap.size with h' | h'
    · exact h'
    · rw [Array.getElem?_eq_none h'] at h; simp at h
  rw [q.block g hlt (by omega)]
  exact h
theorem Rd.kr {w w' : World} {rb : Nat} (h : Rd w rb) (q : Kr rb w w') : Rd w' rb := ⟨⟨var_kr Tryd.gW h.gw h.tab.words q, var_kr Tryd.gB h.gb h.tab.bins q⟩, h.gw, h.gb⟩
theorem Rd.quiet {w w' : World} {rb : Nat} (h : Rd w rb) (q : Quiet w w') : Rd w' rb := h.kr (Quiet.kr q)
theorem one_cases {L : List (List UInt8)} {e : Int} {ts : List Tk} {x : Int × Int} (hm : oneT L e ts = .error x) : (ts = [] ∧ x = (6, e)) ∨ ∃ t r, ts = t :: r ∧ kindIn L t.text = 0 ∧ x = (5, (t.pos : Int)) := by
  cases ts with
  | nil => cases hm; exact .inl ⟨rfl, rfl⟩
  | cons t r =>
    simp only [oneT, nextT, andThen] at hm
    split at hm
    · cases hm; exact .inr ⟨t, r, rfl, by assumption, rfl⟩
    · cases hm

theorem oneW_none (e : Int) (rb : Nat) (w : World) (h : RS w rb e []) : Calls Tryd.prog 88 #[.pointer (some ⟨rb, 0, none⟩), .func (.func 14) #[] #[]] w fun e' w' => e' = .panicked (gave (6, e)) ∧ Kr rb w w' := by
  have HN := hid (next_none e rb w h)
  clear h
  go_enter Tryd.func88, Tryd.ntmps88
  go_wp2_with (go_at_call 72; refine HN.out.mono ?_; rintro e' w1 ⟨rfl, q1⟩)
  exact ⟨rfl, rfl, Quiet.kr q1⟩
set_option maxRecDepth 8000 in
set_option maxHeartbeats 1000000 in
theorem oneW_ok (e : Int) (rb : Nat) (k : Int) (ts r : List Tk) (w : World) (h : RS w rb e ts) (hw : Rd w rb) (hm : oneT wordL e ts = .ok (k, r)) : Calls Tryd.prog 88 #[.pointer (some ⟨rb, 0, none⟩), .func (.func 14) #[] #[]] w fun e' w' => e' = .returned (.int .i64 k) ∧ RS w' rb e r ∧ Kr rb w w' := by
  obtain ⟨t, rfl, hk0, rfl⟩ := one_ok hm
  have hkl := kind_le wordL t.text
  rw [wordL_len] at hkl
  obtain ⟨K, hK⟩ : ∃ K, K = kindIn wordL t.text := ⟨_, rfl⟩
  have HN := hid (next_some e rb t r w h)
  have HK := hid hK
  rw [← hK] at hkl hk0 ⊢
  clear h hm hK
  go_enter Tryd.func88, Tryd.ntmps88
  go_wp2_with (go_at_call 72; refine HN.out.mono ?_; rintro e' w1 ⟨rfl, h1, q1⟩)
  have HW := hid (And.intro h1 (And.intro q1 (hw.kr q1)))
  clear h1 q1 hw
  go_loopw [6] (fun n wr => ∃ k : Nat, n = .int .i64 k ∧ 1 ≤ k ∧ k ≤ K ∧ Quiet (w1.alloc (.cells #[.int .i64 t.pos, .string ⟨t.text.toArray⟩, .bool t.num, .int .i64 t.n] 32)) wr) (fun n _ => 22 - (intOf n).toNat)
  case atStart => exact ⟨1, rfl, Nat.le_refl _, by omega, Kp.refl _ _⟩
  case round =>
    rename World => wq
    obtain ⟨k, rfl, hk1, hkK, q⟩ := hrel
    have hb := box_stays q
    obtain ⟨d0, d1, d2, d3⟩ := box4 hb
    have hwq := (HW.out.2.2.quiet ((Kp.alloc _ _).trans q)).tab
    have HQ := hid q
    clear hb q
    by_cases hE : k = K
    · have hn : nameIn wordL (k : Int) = t.text := (name_iff wordL_nodup t.text k hk1 (by rw [wordL_len]; omega)).2 (by rw [hE]; exact HK.out.symm)
      subst hE
      have hn1 : (nameIn wordL (k : Int) == t.text) = true := by simpa using hn
      have hn2 : (nameIn wordL (k : Int) != t.text) = false := by simpa using hn
      go_wp2_with fail
      go_quiet ((go_at_call 14; refine Calls.quiet_of_same (word_any (k : Int) _ ?_); exact hwq.quiet (Kp.drewN _ _)))
      go_wp2_with fail
      go_ret
      exact ⟨rfl, HW.out.1.quiet ((Kp.alloc _ _).trans (HQ.out.trans (Kp.drewN _ _))), HW.out.2.1.trans (Quiet.kr ((Kp.alloc _ _).trans (HQ.out.trans (Kp.drewN _ _))))⟩
    · have hn : ¬ nameIn wordL (k : Int) = t.text := fun e => hE (by have := (name_iff wordL_nodup t.text k hk1 (by rw [wordL_len]; omega)).1 e; have := HK.out; omega)
      have hf : ¬ nameIn wordL (k : Int) = [] := name_full wordL_full k hk1 (by rw [wordL_len]; omega)
      have hn1 : (nameIn wordL (k : Int) == t.text) = false := by simpa using hn
      have hn2 : (nameIn wordL (k : Int) != t.text) = true := by simpa using hn
      have hf1 : (nameIn wordL (k : Int) == []) = false := by simpa using hf
      go_wp2_with fail
      go_quiet ((go_at_call 14; refine Calls.quiet_of_same (word_any (k : Int) _ ?_); exact hwq.quiet (Kp.drewN _ _)))
      go_wp2_with (go_at_call 14; refine (word_any (k : Int) _ (hwq.quiet (Kp.drewN _ _))).mono ?_; rintro e' w3 ⟨rfl, rfl⟩)
      exact ⟨⟨k + 1, by go_num, by omega, by omega, HQ.out.trans (Kp.drewN _ _)⟩, by simp [intOf]; omega⟩
set_option maxRecDepth 8000 in
set_option maxHeartbeats 1000000 in
theorem oneW_wrong (e : Int) (rb : Nat) (t : Tk) (r : List Tk) (w : World) (h : RS w rb e (t :: r)) (hw : Rd w rb) (hm : kindIn wordL t.text = 0) (ht : t.text ≠ []) : Calls Tryd.prog 88 #[.pointer (some ⟨rb, 0, none⟩), .func (.func 14) #[] #[]] w fun e' w' => e' = .panicked (gave (5, (t.pos : Int))) ∧ Kr rb w w' := by
  have HN := hid (next_some e rb t r w h)
  have HK := hid (And.intro hm ht)
  clear h hm ht
  go_enter Tryd.func88, Tryd.ntmps88
  go_wp2_with (go_at_call 72; refine HN.out.mono ?_; rintro e' w1 ⟨rfl, h1, q1⟩)
  have HW := hid (And.intro h1 (And.intro q1 (hw.kr q1)))
  clear h1 q1 hw
  go_loopw [6] (fun n wr => ∃ k : Nat, n = .int .i64 k ∧ 1 ≤ k ∧ k ≤ wordL.length + 1 ∧ Quiet (w1.alloc (.cells #[.int .i64 t.pos, .string ⟨t.text.toArray⟩, .bool t.num, .int .i64 t.n] 32)) wr) (fun n _ => 23 - (intOf n).toNat)
  case atStart => exact ⟨1, rfl, Nat.le_refl _, by omega, Kp.refl _ _⟩
  case round =>
    rename World => wq
    obtain ⟨k, rfl, hk1, hkK, q⟩ := hrel
    rw [wordL_len] at hkK
    have hb := box_stays q
    obtain ⟨d0, d1, d2, d3⟩ := box4 hb
    have hwq := (HW.out.2.2.quiet ((Kp.alloc _ _).trans q)).tab
    have HQ := hid q
    clear hb q
    by_cases hE : k = wordL.length + 1
    · have hf : nameIn wordL (k : Int) = [] := name_past wordL k (.inr (by rw [wordL_len] at hE ⊢; omega))
      have hn : ¬ nameIn wordL (k : Int) = t.text := fun e => HK.out.2 (by rw [← e, hf])
      have hn1 : (nameIn wordL (k : Int) == t.text) = false := by simpa using hn
      have hn2 : (nameIn wordL (k : Int) != t.text) = true := by simpa using hn
      have hf1 : (nameIn wordL (k : Int) == []) = true := by simpa using hf
      clear hE hf
      go_wp2_with fail
      go_quiet ((go_at_call 14; refine Calls.quiet_of_same (word_any (k : Int) _ ?_); exact hwq.quiet (Kp.drewN _ _)))
      go_wp2_with (first
        | (go_at_call 14; refine (word_any (k : Int) _ (hwq.quiet (Kp.drewN _ _))).mono ?_; rintro e' w3 ⟨rfl, rfl⟩)
        | (go_at_call 73; refine (give_any 5 (t.pos : Int) _).mono ?_; rintro e' w4 ⟨rfl, rfl⟩))
      exact ⟨rfl, rfl, HW.out.2.1.trans (Quiet.kr ((Kp.alloc _ _).trans (HQ.out.trans (Kp.drewN _ _))))⟩
    · rw [wordL_len] at hE
      have hn : ¬ nameIn wordL (k : Int) = t.text := fun e => by
        have h1 := (name_iff wordL_nodup t.text k hk1 (by rw [wordL_len]; omega)).1 e
        have h2 := HK.out.1
        omega
      have hf : ¬ nameIn wordL (k : Int) = [] := name_full wordL_full k hk1 (by rw [wordL_len]; omega)
      have hn1 : (nameIn wordL (k : Int) == t.text) = false := by simpa using hn
      have hn2 : (nameIn wordL (k : Int) != t.text) = true := by simpa using hn
      have hf1 : (nameIn wordL (k : Int) == []) = false := by simpa using hf
      go_wp2_with fail
      go_quiet ((go_at_call 14; refine Calls.quiet_of_same (word_any (k : Int) _ ?_); exact hwq.quiet (Kp.drewN _ _)))
      go_wp2_with (go_at_call 14; refine (word_any (k : Int) _ (hwq.quiet (Kp.drewN _ _))).mono ?_; rintro e' w3 ⟨rfl, rfl⟩)
      exact ⟨⟨k + 1, by go_num, by omega, by rw [wordL_len]; omega, HQ.out.trans (Kp.drewN _ _)⟩, by simp [intOf]; omega⟩
theorem oneW_bad (e : Int) (rb : Nat) (ts : List Tk) (x : Int × Int) (w : World) (h : RS w rb e ts) (hw : Rd w rb) (hg : ∀ t ∈ ts, good t) (hm : oneT wordL e ts = .error x) : Calls Tryd.prog 88 #[.pointer (some ⟨rb, 0, none⟩), .func (.func 14) #[] #[]] w fun e' w' => e' = .panicked (gave x) ∧ Kr rb w w' := by
  rcases one_cases hm with ⟨rfl, rfl⟩ | ⟨t, r, rfl, h1, rfl⟩
  · exact oneW_none e rb w h
  · exact oneW_wrong e rb t r w h hw h1 (fun e => by have := good_len (hg t (by simp)); rw [e] at this; simp at this)

theorem oneB_none (e : Int) (rb : Nat) (w : World) (h : RS w rb e []) : Calls Tryd.prog 88 #[.pointer (some ⟨rb, 0, none⟩), .func (.func 16) #[] #[]] w fun e' w' => e' = .panicked (gave (6, e)) ∧ Kr rb w w' := by
  have HN := hid (next_none e rb w h)
  clear h
  go_enter Tryd.func88, Tryd.ntmps88
  go_wp2_with (go_at_call 72; refine HN.out.mono ?_; rintro e' w1 ⟨rfl, q1⟩)
  exact ⟨rfl, rfl, Quiet.kr q1⟩
set_option maxRecDepth 8000 in
set_option maxHeartbeats 1000000 in
theorem oneB_ok (e : Int) (rb : Nat) (k : Int) (ts r : List Tk) (w : World) (h : RS w rb e ts) (hw : Rd w rb) (hm : oneT binL e ts = .ok (k, r)) : Calls Tryd.prog 88 #[.pointer (some ⟨rb, 0, none⟩), .func (.func 16) #[] #[]] w fun e' w' => e' = .returned (.int .i64 k) ∧ RS w' rb e r ∧ Kr rb w w' := by
  obtain ⟨t, rfl, hk0, rfl⟩ := one_ok hm
  have hkl := kind_le binL t.text
  rw [binL_len] at hkl
  obtain ⟨K, hK⟩ : ∃ K, K = kindIn binL t.text := ⟨_, rfl⟩
  have HN := hid (next_some e rb t r w h)
  have HK := hid hK
  rw [← hK] at hkl hk0 ⊢
  clear h hm hK
  go_enter Tryd.func88, Tryd.ntmps88
  go_wp2_with (go_at_call 72; refine HN.out.mono ?_; rintro e' w1 ⟨rfl, h1, q1⟩)
  have HW := hid (And.intro h1 (And.intro q1 (hw.kr q1)))
  clear h1 q1 hw
  go_loopw [6] (fun n wr => ∃ k : Nat, n = .int .i64 k ∧ 1 ≤ k ∧ k ≤ K ∧ Quiet (w1.alloc (.cells #[.int .i64 t.pos, .string ⟨t.text.toArray⟩, .bool t.num, .int .i64 t.n] 32)) wr) (fun n _ => 22 - (intOf n).toNat)
  case atStart => exact ⟨1, rfl, Nat.le_refl _, by omega, Kp.refl _ _⟩
  case round =>
    rename World => wq
    obtain ⟨k, rfl, hk1, hkK, q⟩ := hrel
    have hb := box_stays q
    obtain ⟨d0, d1, d2, d3⟩ := box4 hb
    have hwq := (HW.out.2.2.quiet ((Kp.alloc _ _).trans q)).tab
    have HQ := hid q
    clear hb q
    by_cases hE : k = K
    · have hn : nameIn binL (k : Int) = t.text := (name_iff binL_nodup t.text k hk1 (by rw [binL_len]; omega)).2 (by rw [hE]; exact HK.out.symm)
      subst hE
      have hn1 : (nameIn binL (k : Int) == t.text) = true := by simpa using hn
      have hn2 : (nameIn binL (k : Int) != t.text) = false := by simpa using hn
      go_wp2_with fail
      go_quiet ((go_at_call 16; refine Calls.quiet_of_same (bin_any (k : Int) _ ?_); exact hwq.quiet (Kp.drewN _ _)))
      go_wp2_with fail
      go_ret
      exact ⟨rfl, HW.out.1.quiet ((Kp.alloc _ _).trans (HQ.out.trans (Kp.drewN _ _))), HW.out.2.1.trans (Quiet.kr ((Kp.alloc _ _).trans (HQ.out.trans (Kp.drewN _ _))))⟩
    · have hn : ¬ nameIn binL (k : Int) = t.text := fun e => hE (by have := (name_iff binL_nodup t.text k hk1 (by rw [binL_len]; omega)).1 e; have := HK.out; omega)
      have hf : ¬ nameIn binL (k : Int) = [] := name_full binL_full k hk1 (by rw [binL_len]; omega)
      have hn1 : (nameIn binL (k : Int) == t.text) = false := by simpa using hn
      have hn2 : (nameIn binL (k : Int) != t.text) = true := by simpa using hn
      have hf1 : (nameIn binL (k : Int) == []) = false := by simpa using hf
      go_wp2_with fail
      go_quiet ((go_at_call 16; refine Calls.quiet_of_same (bin_any (k : Int) _ ?_); exact hwq.quiet (Kp.drewN _ _)))
      go_wp2_with (go_at_call 16; refine (bin_any (k : Int) _ (hwq.quiet (Kp.drewN _ _))).mono ?_; rintro e' w3 ⟨rfl, rfl⟩)
      exact ⟨⟨k + 1, by go_num, by omega, by omega, HQ.out.trans (Kp.drewN _ _)⟩, by simp [intOf]; omega⟩
set_option maxRecDepth 8000 in
set_option maxHeartbeats 1000000 in
theorem oneB_wrong (e : Int) (rb : Nat) (t : Tk) (r : List Tk) (w : World) (h : RS w rb e (t :: r)) (hw : Rd w rb) (hm : kindIn binL t.text = 0) (ht : t.text ≠ []) : Calls Tryd.prog 88 #[.pointer (some ⟨rb, 0, none⟩), .func (.func 16) #[] #[]] w fun e' w' => e' = .panicked (gave (5, (t.pos : Int))) ∧ Kr rb w w' := by
  have HN := hid (next_some e rb t r w h)
  have HK := hid (And.intro hm ht)
  clear h hm ht
  go_enter Tryd.func88, Tryd.ntmps88
  go_wp2_with (go_at_call 72; refine HN.out.mono ?_; rintro e' w1 ⟨rfl, h1, q1⟩)
  have HW := hid (And.intro h1 (And.intro q1 (hw.kr q1)))
  clear h1 q1 hw
  go_loopw [6] (fun n wr => ∃ k : Nat, n = .int .i64 k ∧ 1 ≤ k ∧ k ≤ binL.length + 1 ∧ Quiet (w1.alloc (.cells #[.int .i64 t.pos, .string ⟨t.text.toArray⟩, .bool t.num, .int .i64 t.n] 32)) wr) (fun n _ => 23 - (intOf n).toNat)
  case atStart => exact ⟨1, rfl, Nat.le_refl _, by omega, Kp.refl _ _⟩
  case round =>
    rename World => wq
    obtain ⟨k, rfl, hk1, hkK, q⟩ := hrel
    rw [binL_len] at hkK
    have hb := box_stays q
    obtain ⟨d0, d1, d2, d3⟩ := box4 hb
    have hwq := (HW.out.2.2.quiet ((Kp.alloc _ _).trans q)).tab
    have HQ := hid q
    clear hb q
    by_cases hE : k = binL.length + 1
    · have hf : nameIn binL (k : Int) = [] := name_past binL k (.inr (by rw [binL_len] at hE ⊢; omega))
      have hn : ¬ nameIn binL (k : Int) = t.text := fun e => HK.out.2 (by rw [← e, hf])
      have hn1 : (nameIn binL (k : Int) == t.text) = false := by simpa using hn
      have hn2 : (nameIn binL (k : Int) != t.text) = true := by simpa using hn
      have hf1 : (nameIn binL (k : Int) == []) = true := by simpa using hf
      clear hE hf
      go_wp2_with fail
      go_quiet ((go_at_call 16; refine Calls.quiet_of_same (bin_any (k : Int) _ ?_); exact hwq.quiet (Kp.drewN _ _)))
      go_wp2_with (first
        | (go_at_call 16; refine (bin_any (k : Int) _ (hwq.quiet (Kp.drewN _ _))).mono ?_; rintro e' w3 ⟨rfl, rfl⟩)
        | (go_at_call 73; refine (give_any 5 (t.pos : Int) _).mono ?_; rintro e' w4 ⟨rfl, rfl⟩))
      exact ⟨rfl, rfl, HW.out.2.1.trans (Quiet.kr ((Kp.alloc _ _).trans (HQ.out.trans (Kp.drewN _ _))))⟩
    · rw [binL_len] at hE
      have hn : ¬ nameIn binL (k : Int) = t.text := fun e => by
        have h1 := (name_iff binL_nodup t.text k hk1 (by rw [binL_len]; omega)).1 e
        have h2 := HK.out.1
        omega
      have hf : ¬ nameIn binL (k : Int) = [] := name_full binL_full k hk1 (by rw [binL_len]; omega)
      have hn1 : (nameIn binL (k : Int) == t.text) = false := by simpa using hn
      have hn2 : (nameIn binL (k : Int) != t.text) = true := by simpa using hn
      have hf1 : (nameIn binL (k : Int) == []) = false := by simpa using hf
      go_wp2_with fail
      go_quiet ((go_at_call 16; refine Calls.quiet_of_same (bin_any (k : Int) _ ?_); exact hwq.quiet (Kp.drewN _ _)))
      go_wp2_with (go_at_call 16; refine (bin_any (k : Int) _ (hwq.quiet (Kp.drewN _ _))).mono ?_; rintro e' w3 ⟨rfl, rfl⟩)
      exact ⟨⟨k + 1, by go_num, by omega, by rw [binL_len]; omega, HQ.out.trans (Kp.drewN _ _)⟩, by simp [intOf]; omega⟩
theorem oneB_bad (e : Int) (rb : Nat) (ts : List Tk) (x : Int × Int) (w : World) (h : RS w rb e ts) (hw : Rd w rb) (hg : ∀ t ∈ ts, good t) (hm : oneT binL e ts = .error x) : Calls Tryd.prog 88 #[.pointer (some ⟨rb, 0, none⟩), .func (.func 16) #[] #[]] w fun e' w' => e' = .panicked (gave x) ∧ Kr rb w w' := by
  rcases one_cases hm with ⟨rfl, rfl⟩ | ⟨t, r, rfl, h1, rfl⟩
  · exact oneB_none e rb w h
  · exact oneB_wrong e rb t r w h hw h1 (fun e => by have := good_len (hg t (by simp)); rw [e] at this; simp at this)
end Go.Proofs.YthogejofkodmkacDoor
