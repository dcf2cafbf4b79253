/- The tokens of a text, as the document tells them. -/
import Derived.Test.YthogejofkodmkadDoorTScan
namespace Go.Proofs.YthogejofkodmkadDoor
open Go.ChangeShapes Go.WideShapes Go.ChangeAt Go.RowKit
theorem Tryd.infoRTok : (Tryd.prog.info? 34).map (fun i => (i.zero, i.size, i.bytes)) = some (some (.agg #[.int .i64 0, .string ⟨#[]⟩, .bool false, .int .i64 0]), 4, 40) := by kernel_rfl
theorem Tryd.undRTok : Tryd.prog.underlying 30 = some (.slice 34) := by kernel_rfl
/-- The document's tokens so far, at a place; what is told in the end is known. -/
structure RD (w : World) (l : List UInt8) (wr : World) (k : Nat) (v : Value) (acc : List Tk) : Prop where
  le : k ≤ l.length
  few : acc.length ≤ k
  row : Toks wr (w.heap.size + 1) 34 v acc
  quiet : Quiet (w.alloc (.cells #[.int .i64 0, .int .i64 0] 27)) wr
  same : scanFrom l k acc = scanFrom l 0 []
theorem RD.step {w wr : World} {l : List UInt8} {k : Nat} {v : Value} {acc : List Tk} (h : RD w l wr k v acc) (hk : k < l.length) (hb : blank l[k] = true) : RD w l wr (k + 1) v acc :=
  ⟨hk, by have := h.few; omega, h.row, h.quiet, by rw [← scanFrom_blank acc hk hb]; exact h.same⟩
theorem RD.push {w wr w1 w2 : World} {l : List UInt8} {k k' m : Nat} {v : Value} {acc : List Tk} {t : Tk} {g cap : Nat} {o : Obj} (h : RD w l wr k v acc) (hm : acc.length = m) (hb : ∀ h, blank (l[k]'h) = false) (ht : tokAt l k = some t) (hk' : k + t.text.length = k') (q : Quiet wr w1)
    (hr : w2.ownsRow (w.heap.size + 1) 34 4 (.slice (some ⟨g, 0, none⟩) (m + 1) cap) (m + 1) (cellsOf acc ++ t.cells)) (hg : (w1.alloc o).grownBy w2 v.ownBlock) :
    RD w l w2 k' (.slice (some ⟨g, 0, none⟩) (m + 1) cap) (acc ++ [t]) := by
  have h1 := tokAt_some ht
  have hs := stop_no blank l k h1.1 (hb h1.1)
  subst hk'
  refine ⟨h1.2.2.2, ?_, ?_, ?_, ?_⟩
  · have h2 := h.few
    rw [List.length_append, List.length_singleton]; omega
  · subst hm
    unfold Toks
    rw [cellsOf_app, cellsOf_one, List.length_append]
    exact hr
  · refine h.quiet.fresh ?_
    refine (Kp.mono q fun _ _ e => e.elim).trans ((Kp.alloc _ o).trans (Kp.grown hg fun k _ e => ?_))
    have := (h.row.lt k e.symm).1
    simpa using this
  · rw [← h.same, scanFrom_tok acc (by rw [hs]; exact h1.1) (by rw [hs]; exact ht), hs]
theorem RD.bad {w wr : World} {l : List UInt8} {k : Nat} {v : Value} {acc : List Tk} (h : RD w l wr k v acc) (hk : k < l.length) (hb : blank l[k] = false) (ht : tokAt l k = none) : scanFrom l 0 [] = ([], 7, (k : Int)) := by
  have hs := stop_no blank l k hk hb
  rw [← h.same, scanFrom_bad acc (by rw [hs]; exact hk) (by rw [hs]; exact ht), hs]
theorem RD.done {w wr : World} {l : List UInt8} {k : Nat} {v : Value} {acc : List Tk} (h : RD w l wr k v acc) (hk : ¬ k < l.length) : scanFrom l 0 [] = (acc, 0, 0) := by
  rw [← h.same, scanFrom_end acc (by rw [stop_end blank l k (by omega)]; omega)]
theorem RD.told {w wr : World} {l : List UInt8} {k : Nat} {v a b : Value} {acc : List Tk} (h : RD w l wr k v acc) : Toks ((wr.setCell ⟨w.heap.size, 0, none⟩ a).setCell ⟨w.heap.size, 1, none⟩ b) w.heap.size 34 v acc := by
  have hk : Kp (fun i => i = w.heap.size) wr ((wr.setCell ⟨w.heap.size, 0, none⟩ a).setCell ⟨w.heap.size, 1, none⟩ b) := (Kp.setCell (F := fun i => i = w.heap.size) wr ⟨w.heap.size, 0, none⟩ a rfl).trans (Kp.setCell (F := fun i => i = w.heap.size) _ ⟨w.heap.size, 1, none⟩ b rfl)
  refine owns_mono (hk.row h.row fun k hk e => ?_) (Nat.le_succ _)
  have := (h.row.lt k hk).1
  omega
theorem rscan_many (l : List UInt8) (hl : l.length ≤ 9000) (h : 6000 < l.length) (w : World) :
    Calls Tryd.prog 6 #[.string ⟨l.toArray⟩] w fun e w' => e = .returned (.tuple #[.slice none 0 0, .agg #[.int .i64 3, .int .i64 6000]]) ∧ Quiet w w' := by
  have hz := bytes_size l
  go_enter Tryd.func6, Tryd.ntmps6
  go_wp2_with (go_at_call 13; refine (f_any _ _ _).mono ?_; rintro e w1 ⟨rfl, q1⟩; have hx := box_stays q1; obtain ⟨hx0, hx1⟩ := box2 hx; have hf := box_free hx)
  exact bodyPost_ret (v := .tuple #[.slice none 0 0, .agg #[.int .i64 3, .int .i64 6000]]) (by simp [results, Tryd.results6, go_sem, hx0, hx1]) rfl ⟨rfl, set2 q1 _ _⟩
/-- A piece of a text. -/
theorem slice_run (l : List UInt8) (a b : Nat) (j : Int) (hj : j = b) (hab : a ≤ b) (hb : b ≤ l.length) (W : World) : (Instr.slice 9 (.string ⟨l.toArray⟩) (some (.int .i64 (a : Int))) (some (.int .i64 j)) none).run Tryd.prog W = .ok (.string ⟨(cut l a b).toArray⟩) W := by
  subst hj
  have := run_slice_string (P := Tryd.prog) W 9 ⟨l.toArray⟩ .i64 .i64 (a : Int) (b : Int) Tryd.underlying9 (by omega) (by omega) (by rw [bytes_size]; omega)
  rw [this, Int.toNat_natCast, Int.toNat_natCast, cut_bytes]
/-- The sorts of bytes. -/
theorem sorts (c : UInt8) : blank c = true ∨ (blank c = false ∧ ((c.toNat = 40 ∨ c.toNat = 41) ∨ letter c = true ∨ (c.toNat = 45 ∨ digit c = true) ∨ (¬ (c.toNat = 40 ∨ c.toNat = 41) ∧ letter c = false ∧ ¬ (c.toNat = 45 ∨ digit c = true)))) := by
  cases blank c with
  | true => exact .inl rfl
  | false =>
    refine .inr ⟨rfl, ?_⟩
    by_cases h0 : c.toNat = 40 ∨ c.toNat = 41
    · exact .inl h0
    · cases letter c with
      | true => exact .inr (.inl rfl)
      | false =>
        by_cases h1 : c.toNat = 45 ∨ digit c = true
        · exact .inr (.inr (.inl h1))
        · exact .inr (.inr (.inr ⟨h0, rfl, h1⟩))
theorem not_blank {c : UInt8} (h : blank c = false) : ((c.toNat : Int) == 32) = false ∧ ((c.toNat : Int) == 9) = false ∧ ((c.toNat : Int) == 10) = false ∧ ((c.toNat : Int) == 13) = false := by
  simp only [blank, blankZ, Bool.or_eq_false_iff] at h
  exact ⟨h.1.1.1, h.1.1.2, h.1.2, h.2⟩
theorem is_blank {c : UInt8} (h : blank c = true) : (c.toNat : Int) = 32 ∨ (c.toNat : Int) = 9 ∨ (c.toNat : Int) = 10 ∨ (c.toNat : Int) = 13 := by
  simp only [blank, blankZ, Bool.or_eq_true, beq_iff_eq] at h
  omega
set_option maxRecDepth 8000 in
set_option maxRecDepth 8000 in
set_option maxHeartbeats 4000000 in
theorem rscan_few (l : List UInt8) (h : l.length ≤ 6000) (w : World) (hw : Laid w) :
    Calls Tryd.prog 6 #[.string ⟨l.toArray⟩] w fun e w' => ∃ v, e = .returned (.tuple #[v, .agg #[.int .i64 (scanFrom l 0 []).2.1, .int .i64 (scanFrom l 0 []).2.2]]) ∧ Toks w' w.heap.size 34 v (scanFrom l 0 []).1 ∧ Quiet w w' := by
  have hz := bytes_size l
  obtain ⟨i0, hi0, hz0, hz1, hz2⟩ := info_parts' Tryd.infoRTok
  go_enter Tryd.func6, Tryd.ntmps6
  go_wp2
  go_loopw [4, 5] (fun v n wr => ∃ (k : Nat) (acc : List Tk), n = .int .i64 k ∧ Hid (RD w l wr k v acc)) (fun _ n _ => l.length - (intOf n).toNat)
  case atStart => exact ⟨0, [], rfl, Nat.zero_le _, Nat.le_refl _, Toks.nil _ _ _, Kp.refl _ _, rfl⟩
  case round =>
    obtain ⟨k, acc, rfl, hD⟩ := hrel
    have hk := hD.out.le
    by_cases hlt : k < l.length
    · obtain ⟨ao, m, cap, rfl, hm, hr⟩ := hD.out.row.part
      have HR := hid hr
      have HM := hid hm
      have hmk : m ≤ k := by have := hD.out.few; omega
      have hlw := (hw.quiet (Kp.alloc _ _)).quiet hD.out.quiet
      have hsz : w.heap.size + 1 ≤ wr.heap.size := by have := hD.out.quiet.size; simpa using this
      clear hr hm
      have hs : k < (ByteArray.mk l.toArray).size := by omega
      obtain ⟨c, hc⟩ : ∃ c, l[k] = c := ⟨_, rfl⟩
      have hcc : ((ByteArray.mk l.toArray)[k]'hs) = c := hc
      have HC := hid hc
      rcases sorts c with hb | ⟨hb, hy | hy | hy | ⟨h0, h1, h2⟩⟩
      · have HB := hid (hD.out.step hlt (hc ▸ hb))
        have hb2 := is_blank hb
        clear hb hc
        rcases hb2 with hb | hb | hb | hb
        all_goals
          go_wp2
          exact ⟨⟨k + 1, _, by go_num, HB⟩, by simp [intOf]; omega⟩
      · have HT : Hid (tokAt l k = some ⟨k, cut l k (k + 1), false, 0⟩) := hid (by unfold tokAt; rw [List.getElem?_eq_getElem hlt, hc]; simp only; rw [if_pos hy])
        have HB : Hid (∀ h, blank (l[k]'h) = false) := fun _ => hc ▸ hb
        have HK : Hid (k + (cut l k (k + 1)).length = k + 1) := by rw [cut_len l k (k + 1) hlt]; exact hid (by omega)
        have hcb := slice_run l k (k + 1) ((k : Int) + 1) (by omega) (by omega) hlt
        generalize cut l k (k + 1) = t at HT HK hcb
        clear hc hb
        rcases hy with hy | hy
        · have hy2 : (c.toNat : Int) = 40 := by omega
          clear hy
          go_wp2_with (at_builtin; refine wpList_append_lies _ rfl (.tmp 45) (.tmp 52) 30 rfl (w.heap.size + 1) 34 i0 _ 4 40 Tryd.undRTok hi0 hz0 hz1 hz2 rfl (by decide) _ m (cellsOf acc) rfl (HR.out.alloc _) ⟨wr.heap.size, 0, none⟩ 1 1 (Tk.cells ⟨k, t, false, 0⟩) rfl rfl (news_at wr _ 34) (by simp [Value.oneCell', Tk.cells]) (by decide) (by unfold maxLen; omega) (by omega) (by simp; omega) (wr.heap.size + 1) (by simp) ?_; intro g2 cap2 w2 hr2 hg2 hat hlt2; have HP := hid (hD.out.push HM.out HB.out HT.out HK.out (Kp.refl _ wr) hr2 hg2); clear hr2 hg2 hat hlt2)
          exact ⟨⟨k + 1, _, by go_num, HP⟩, by simp [intOf]; omega⟩
        · have hy2 : (c.toNat : Int) = 41 := by omega
          clear hy
          go_wp2_with (at_builtin; refine wpList_append_lies _ rfl (.tmp 45) (.tmp 52) 30 rfl (w.heap.size + 1) 34 i0 _ 4 40 Tryd.undRTok hi0 hz0 hz1 hz2 rfl (by decide) _ m (cellsOf acc) rfl (HR.out.alloc _) ⟨wr.heap.size, 0, none⟩ 1 1 (Tk.cells ⟨k, t, false, 0⟩) rfl rfl (news_at wr _ 34) (by simp [Value.oneCell', Tk.cells]) (by decide) (by unfold maxLen; omega) (by omega) (by simp; omega) (wr.heap.size + 1) (by simp) ?_; intro g2 cap2 w2 hr2 hg2 hat hlt2; have HP := hid (hD.out.push HM.out HB.out HT.out HK.out (Kp.refl _ wr) hr2 hg2); clear hr2 hg2 hat hlt2)
          exact ⟨⟨k + 1, _, by go_num, HP⟩, by simp [intOf]; omega⟩
      · have HB : Hid (∀ h, blank (l[k]'h) = false) := fun _ => hc ▸ hb
        have HT : Hid (tokAt l k = some ⟨k, cut l k (stop letter l k), false, 0⟩) := hid (by unfold tokAt; rw [List.getElem?_eq_getElem hlt, hc]; simp only; rw [if_neg (by simp [letter, letterZ] at hy; omega), if_pos hy])
        have s1 := stop_yes letter l k hlt (hc ▸ hy)
        have s2 := le_stop letter l (k + 1)
        have s3 := stop_le letter l k (by omega)
        have HK : Hid (k + (cut l k (stop letter l k)).length = stop letter l k) := by rw [cut_len _ _ _ s3]; exact hid (by omega)
        have hsl := slice_run l k (stop letter l k) (stop letter l k : Nat) rfl (by omega) s3
        generalize cut l k (stop letter l k) = t at HT HK hsl
        generalize stop letter l k = S at HT HK hsl s1 s3
        have HS := hid s1.symm
        have s4 : k < S := by omega
        clear s1 s2
        obtain ⟨n1, n2, n3, n4⟩ := not_blank hb
        have n5 : ((c.toNat : Int) == 40) = false := by simp [letter, letterZ] at hy; simp; omega
        have n6 : ((c.toNat : Int) == 41) = false := by simp [letter, letterZ] at hy; simp; omega
        have n7 : letterZ (c.toNat : Int) = true := hy
        clear hc hb hy
        go_wp2_with (go_at_call 14; refine (rletter_any _ _).mono ?_; rintro e w' ⟨rfl, hw'⟩; replace hw' := hw'.symm; subst hw')
        go_loop [7] (fun n => ∃ j : Nat, k < j ∧ j ≤ S ∧ n = .int .i64 j ∧ Hid (stop letter l j = S)) (fun n => l.length - (intOf n).toNat)
        case atStart => exact ⟨k + 1, by omega, by omega, by go_num, HS⟩
        case round =>
          obtain ⟨j, hj1, hj2, rfl, hj3⟩ := hrel
          by_cases hjl : j < l.length
          · have hjs : j < (ByteArray.mk l.toArray).size := by omega
            cases hjb : letter l[j] with
            | true =>
              have hb2 : letterZ (((ByteArray.mk l.toArray)[j]'hjs).toNat : Int) = true := hjb
              have e1 := hid ((stop_yes letter l j hjl hjb).symm.trans hj3.out)
              have e2 := le_stop letter l (j + 1)
              rw [e1.out] at e2
              clear hjb
              go_wp2_with (go_at_call 14; refine (rletter_any _ _).mono ?_; rintro e w' ⟨rfl, hw'⟩; replace hw' := hw'.symm; subst hw')
              go_round
              case rel => exact ⟨j + 1, by omega, e2, by go_num, e1⟩
              case measure => simp [intOf]; omega
            | false =>
              have hb2 : letterZ (((ByteArray.mk l.toArray)[j]'hjs).toNat : Int) = false := hjb
              have e1 := hj3.out
              rw [stop_no letter l j hjl hjb] at e1
              subst e1
              clear hjb
              go_wp2_with (first
                | (at_builtin; refine wpList_append_lies _ rfl (.tmp 68) (.tmp 75) 30 rfl (w.heap.size + 1) 34 i0 _ 4 40 Tryd.undRTok hi0 hz0 hz1 hz2 rfl (by decide) _ m (cellsOf acc) rfl (HR.out.alloc _) ⟨wr.heap.size, 0, none⟩ 1 1 (Tk.cells ⟨k, t, false, 0⟩) rfl rfl (news_at wr _ 34) (by simp [Value.oneCell', Tk.cells]) (by decide) (by unfold maxLen; omega) (by omega) (by simp; omega) (wr.heap.size + 1) (by simp) ?_; intro g2 cap2 w2 hr2 hg2 hat hlt2; have HP := hid (hD.out.push HM.out HB.out HT.out HK.out (Kp.refl _ wr) hr2 hg2); clear hr2 hg2 hat hlt2)
                | (go_at_call 14; refine (rletter_any _ _).mono ?_; rintro e w' ⟨rfl, hw'⟩; replace hw' := hw'.symm; subst hw'))
              exact ⟨⟨j, _, rfl, HP⟩, by simp [intOf]; omega⟩
          · have e1 := hj3.out
            rw [stop_end letter l j (by omega)] at e1
            subst e1
            go_wp2_with (at_builtin; refine wpList_append_lies _ rfl (.tmp 68) (.tmp 75) 30 rfl (w.heap.size + 1) 34 i0 _ 4 40 Tryd.undRTok hi0 hz0 hz1 hz2 rfl (by decide) _ m (cellsOf acc) rfl (HR.out.alloc _) ⟨wr.heap.size, 0, none⟩ 1 1 (Tk.cells ⟨k, t, false, 0⟩) rfl rfl (news_at wr _ 34) (by simp [Value.oneCell', Tk.cells]) (by decide) (by unfold maxLen; omega) (by omega) (by simp; omega) (wr.heap.size + 1) (by simp) ?_; intro g2 cap2 w2 hr2 hg2 hat hlt2; have HP := hid (hD.out.push HM.out HB.out HT.out HK.out (Kp.refl _ wr) hr2 hg2); clear hr2 hg2 hat hlt2)
            exact ⟨⟨j, _, rfl, HP⟩, by simp [intOf]; omega⟩
      · have HB : Hid (∀ h, blank (l[k]'h) = false) := fun _ => hc ▸ hb
        have hx : 45 ≤ c.toNat ∧ c.toNat ≤ 57 := by
          rcases hy with h | h
          · omega
          · simp [digit, digitZ] at h; omega
        have HT0 : Hid (tokAt l k = numAt l k) := hid (by unfold tokAt; rw [List.getElem?_eq_getElem hlt, hc]; simp only; rw [if_neg (by omega), if_neg (by simp [letter, letterZ]; omega), if_pos hy])
        unfold numAt at HT0
        have s2 := le_stop digit l (k + 1)
        have s3 := stop_le digit l (k + 1) (by omega)
        have HK : Hid (k + (cut l k (stop digit l (k + 1))).length = stop digit l (k + 1)) := by rw [cut_len _ _ _ s3]; exact hid (by omega)
        have htl : (cut l k (stop digit l (k + 1))).length ≤ 9000 := by rw [cut_len _ _ _ s3]; omega
        have hsl := slice_run l k (stop digit l (k + 1)) (stop digit l (k + 1) : Nat) rfl (by omega) s3
        generalize cut l k (stop digit l (k + 1)) = t at HT0 HK hsl htl
        obtain ⟨S, hS⟩ : ∃ S, stop digit l (k + 1) = S := ⟨_, rfl⟩
        rw [hS] at HK hsl s2 s3
        have HS := hid hS
        have s4 : k < S := by omega
        clear hS s2
        obtain ⟨n1, n2, n3, n4⟩ := not_blank hb
        have n5 : ((c.toNat : Int) == 40) = false := by simp; omega
        have n6 : ((c.toNat : Int) == 41) = false := by simp; omega
        have n7 : letterZ (c.toNat : Int) = false := by simp [letterZ]; omega
        cases hL : longOf t with
        | some n =>
          have HL := hid hL
          have HT : Hid (tokAt l k = some ⟨k, t, true, n⟩) := hid (by rw [HT0.out, hL]; rfl)
          clear hL hc hb hx
          cases hdz : digitZ (c.toNat : Int) with
          | true =>
            clear hy
            go_wp2_with (first
              | (go_at_call 15; refine (rdigit_any _ _).mono ?_; rintro e w' ⟨rfl, hw'⟩; replace hw' := hw'.symm; subst hw')
              | (go_at_call 14; refine (rletter_any _ _).mono ?_; rintro e w' ⟨rfl, hw'⟩; replace hw' := hw'.symm; subst hw'))
            go_loop [7] (fun n => ∃ j : Nat, k < j ∧ j ≤ S ∧ n = .int .i64 j ∧ Hid (stop digit l j = S)) (fun n => l.length - (intOf n).toNat)
            case atStart => exact ⟨k + 1, by omega, by omega, by go_num, HS⟩
            case round =>
              obtain ⟨j, hj1, hj2, rfl, hj3⟩ := hrel
              by_cases hjl : j < l.length
              · have hjs : j < (ByteArray.mk l.toArray).size := by omega
                cases hjb : digit l[j] with
                | true =>
                  have hb2 : digitZ (((ByteArray.mk l.toArray)[j]'hjs).toNat : Int) = true := hjb
                  have e1 := hid ((stop_yes digit l j hjl hjb).symm.trans hj3.out)
                  have e2 := le_stop digit l (j + 1)
                  rw [e1.out] at e2
                  clear hjb
                  go_wp2_with (go_at_call 15; refine (rdigit_any _ _).mono ?_; rintro e w' ⟨rfl, hw'⟩; replace hw' := hw'.symm; subst hw')
                  go_round
                  case rel => exact ⟨j + 1, by omega, e2, by go_num, e1⟩
                  case measure => simp [intOf]; omega
                | false =>
                  have hb2 : digitZ (((ByteArray.mk l.toArray)[j]'hjs).toNat : Int) = false := hjb
                  have e1 := hj3.out
                  rw [stop_no digit l j hjl hjb] at e1
                  subst e1
                  clear hjb
                  go_wp2_with (first
                    | (at_builtin; refine wpList_append_lies _ rfl (.tmp 107) (.tmp 115) 30 rfl (w.heap.size + 1) 34 i0 _ 4 40 Tryd.undRTok hi0 hz0 hz1 hz2 rfl (by decide) _ m (cellsOf acc) rfl ((q1.row HR.out (fun _ _ e => e)).alloc _) ⟨w1.heap.size, 0, none⟩ 1 1 (Tk.cells ⟨k, t, true, n⟩) rfl rfl (news_at w1 _ 34) (by simp [Value.oneCell', Tk.cells]) (by decide) (by unfold maxLen; omega) (by omega) (by have := q1.size; simp; omega) (w1.heap.size + 1) (by simp) ?_; intro g2 cap2 w2 hr2 hg2 hat hlt2; have HP := hid (hD.out.push HM.out HB.out HT.out HK.out q1 hr2 hg2); clear hr2 hg2 hat hlt2)
                    | (go_at_call 16; refine (long_some t htl n HL.out _ hlw).mono ?_; rintro e w1 ⟨rfl, q1⟩)
                    | (go_at_call 15; refine (rdigit_any _ _).mono ?_; rintro e w' ⟨rfl, hw'⟩; replace hw' := hw'.symm; subst hw'))
                  exact ⟨⟨j, _, rfl, HP⟩, by simp [intOf]; omega⟩
              · have e1 := hj3.out
                rw [stop_end digit l j (by omega)] at e1
                subst e1
                go_wp2_with (first
                  | (at_builtin; refine wpList_append_lies _ rfl (.tmp 107) (.tmp 115) 30 rfl (w.heap.size + 1) 34 i0 _ 4 40 Tryd.undRTok hi0 hz0 hz1 hz2 rfl (by decide) _ m (cellsOf acc) rfl ((q1.row HR.out (fun _ _ e => e)).alloc _) ⟨w1.heap.size, 0, none⟩ 1 1 (Tk.cells ⟨k, t, true, n⟩) rfl rfl (news_at w1 _ 34) (by simp [Value.oneCell', Tk.cells]) (by decide) (by unfold maxLen; omega) (by omega) (by have := q1.size; simp; omega) (w1.heap.size + 1) (by simp) ?_; intro g2 cap2 w2 hr2 hg2 hat hlt2; have HP := hid (hD.out.push HM.out HB.out HT.out HK.out q1 hr2 hg2); clear hr2 hg2 hat hlt2)
                  | (go_at_call 16; refine (long_some t htl n HL.out _ hlw).mono ?_; rintro e w1 ⟨rfl, q1⟩))
                exact ⟨⟨j, _, rfl, HP⟩, by simp [intOf]; omega⟩
          | false =>
            have n8 : (c.toNat : Int) = 45 := by
              rcases hy with h | h
              · omega
              · rw [show digit c = digitZ (c.toNat : Int) from rfl, hdz] at h; cases h
            have n9 : digitZ 45 = false := rfl
            have n10 : letterZ 45 = false := rfl
            clear hy hdz n1 n2 n3 n4 n5 n6 n7
            go_wp2_with (first
              | (go_at_call 15; refine (rdigit_any _ _).mono ?_; rintro e w' ⟨rfl, hw'⟩; replace hw' := hw'.symm; subst hw')
              | (go_at_call 14; refine (rletter_any _ _).mono ?_; rintro e w' ⟨rfl, hw'⟩; replace hw' := hw'.symm; subst hw'))
            go_loop [7] (fun n => ∃ j : Nat, k < j ∧ j ≤ S ∧ n = .int .i64 j ∧ Hid (stop digit l j = S)) (fun n => l.length - (intOf n).toNat)
            case atStart => exact ⟨k + 1, by omega, by omega, by go_num, HS⟩
            case round =>
              obtain ⟨j, hj1, hj2, rfl, hj3⟩ := hrel
              by_cases hjl : j < l.length
              · have hjs : j < (ByteArray.mk l.toArray).size := by omega
                cases hjb : digit l[j] with
                | true =>
                  have hb2 : digitZ (((ByteArray.mk l.toArray)[j]'hjs).toNat : Int) = true := hjb
                  have e1 := hid ((stop_yes digit l j hjl hjb).symm.trans hj3.out)
                  have e2 := le_stop digit l (j + 1)
                  rw [e1.out] at e2
                  clear hjb
                  go_wp2_with (go_at_call 15; refine (rdigit_any _ _).mono ?_; rintro e w' ⟨rfl, hw'⟩; replace hw' := hw'.symm; subst hw')
                  go_round
                  case rel => exact ⟨j + 1, by omega, e2, by go_num, e1⟩
                  case measure => simp [intOf]; omega
                | false =>
                  have hb2 : digitZ (((ByteArray.mk l.toArray)[j]'hjs).toNat : Int) = false := hjb
                  have e1 := hj3.out
                  rw [stop_no digit l j hjl hjb] at e1
                  subst e1
                  clear hjb
                  go_wp2_with (first
                    | (at_builtin; refine wpList_append_lies _ rfl (.tmp 107) (.tmp 115) 30 rfl (w.heap.size + 1) 34 i0 _ 4 40 Tryd.undRTok hi0 hz0 hz1 hz2 rfl (by decide) _ m (cellsOf acc) rfl ((q1.row HR.out (fun _ _ e => e)).alloc _) ⟨w1.heap.size, 0, none⟩ 1 1 (Tk.cells ⟨k, t, true, n⟩) rfl rfl (news_at w1 _ 34) (by simp [Value.oneCell', Tk.cells]) (by decide) (by unfold maxLen; omega) (by omega) (by have := q1.size; simp; omega) (w1.heap.size + 1) (by simp) ?_; intro g2 cap2 w2 hr2 hg2 hat hlt2; have HP := hid (hD.out.push HM.out HB.out HT.out HK.out q1 hr2 hg2); clear hr2 hg2 hat hlt2)
                    | (go_at_call 16; refine (long_some t htl n HL.out _ hlw).mono ?_; rintro e w1 ⟨rfl, q1⟩)
                    | (go_at_call 15; refine (rdigit_any _ _).mono ?_; rintro e w' ⟨rfl, hw'⟩; replace hw' := hw'.symm; subst hw'))
                  exact ⟨⟨j, _, rfl, HP⟩, by simp [intOf]; omega⟩
              · have e1 := hj3.out
                rw [stop_end digit l j (by omega)] at e1
                subst e1
                go_wp2_with (first
                  | (at_builtin; refine wpList_append_lies _ rfl (.tmp 107) (.tmp 115) 30 rfl (w.heap.size + 1) 34 i0 _ 4 40 Tryd.undRTok hi0 hz0 hz1 hz2 rfl (by decide) _ m (cellsOf acc) rfl ((q1.row HR.out (fun _ _ e => e)).alloc _) ⟨w1.heap.size, 0, none⟩ 1 1 (Tk.cells ⟨k, t, true, n⟩) rfl rfl (news_at w1 _ 34) (by simp [Value.oneCell', Tk.cells]) (by decide) (by unfold maxLen; omega) (by omega) (by have := q1.size; simp; omega) (w1.heap.size + 1) (by simp) ?_; intro g2 cap2 w2 hr2 hg2 hat hlt2; have HP := hid (hD.out.push HM.out HB.out HT.out HK.out q1 hr2 hg2); clear hr2 hg2 hat hlt2)
                  | (go_at_call 16; refine (long_some t htl n HL.out _ hlw).mono ?_; rintro e w1 ⟨rfl, q1⟩))
                exact ⟨⟨j, _, rfl, HP⟩, by simp [intOf]; omega⟩
        | none =>
          have HL := hid hL
          have HE := hid (hD.out.bad hlt (hc ▸ hb) (by rw [HT0.out, hL]; rfl))
          clear hL hc hb hx
          cases hdz : digitZ (c.toNat : Int) with
          | true =>
            clear hy
            go_wp2_with (first
              | (go_at_call 15; refine (rdigit_any _ _).mono ?_; rintro e w' ⟨rfl, hw'⟩; replace hw' := hw'.symm; subst hw')
              | (go_at_call 14; refine (rletter_any _ _).mono ?_; rintro e w' ⟨rfl, hw'⟩; replace hw' := hw'.symm; subst hw'))
            go_loop [7] (fun n => ∃ j : Nat, k < j ∧ j ≤ S ∧ n = .int .i64 j ∧ Hid (stop digit l j = S)) (fun n => l.length - (intOf n).toNat)
            case atStart => exact ⟨k + 1, by omega, by omega, by go_num, HS⟩
            case round =>
              obtain ⟨j, hj1, hj2, rfl, hj3⟩ := hrel
              by_cases hjl : j < l.length
              · have hjs : j < (ByteArray.mk l.toArray).size := by omega
                cases hjb : digit l[j] with
                | true =>
                  have hb2 : digitZ (((ByteArray.mk l.toArray)[j]'hjs).toNat : Int) = true := hjb
                  have e1 := hid ((stop_yes digit l j hjl hjb).symm.trans hj3.out)
                  have e2 := le_stop digit l (j + 1)
                  rw [e1.out] at e2
                  clear hjb
                  go_wp2_with (go_at_call 15; refine (rdigit_any _ _).mono ?_; rintro e w' ⟨rfl, hw'⟩; replace hw' := hw'.symm; subst hw')
                  go_round
                  case rel => exact ⟨j + 1, by omega, e2, by go_num, e1⟩
                  case measure => simp [intOf]; omega
                | false =>
                  have hb2 : digitZ (((ByteArray.mk l.toArray)[j]'hjs).toNat : Int) = false := hjb
                  have e1 := hj3.out
                  rw [stop_no digit l j hjl hjb] at e1
                  subst e1
                  clear hjb
                  go_wp2_with (first
                    | (go_at_call 13; refine (f_any _ _ _).mono ?_; rintro e w2 ⟨rfl, q2⟩; have hx := box_stays (hD.out.quiet.trans (q1.trans q2)); obtain ⟨hx0, hx1⟩ := box2 hx; have hf := box_free hx)
                    | (go_at_call 16; refine (long_none t htl HL.out _ hlw).mono ?_; rintro e w1 ⟨rfl, q1⟩)
                    | (go_at_call 15; refine (rdigit_any _ _).mono ?_; rintro e w' ⟨rfl, hw'⟩; replace hw' := hw'.symm; subst hw'))
                  refine bodyPost_ret (v := .tuple #[.slice none 0 0, .agg #[.int .i64 7, .int .i64 k]]) (by simp [results, Tryd.results6, go_sem, hx0, hx1]) rfl ⟨.slice none 0 0, ?_, ?_, ?_⟩
                  · rw [HE.out]
                  · rw [HE.out]; exact Toks.nil _ _ _
                  · exact set2 (hD.out.quiet.trans (q1.trans q2)) _ _
              · have e1 := hj3.out
                rw [stop_end digit l j (by omega)] at e1
                subst e1
                go_wp2_with (first
                  | (go_at_call 13; refine (f_any _ _ _).mono ?_; rintro e w2 ⟨rfl, q2⟩; have hx := box_stays (hD.out.quiet.trans (q1.trans q2)); obtain ⟨hx0, hx1⟩ := box2 hx; have hf := box_free hx)
                  | (go_at_call 16; refine (long_none t htl HL.out _ hlw).mono ?_; rintro e w1 ⟨rfl, q1⟩))
                refine bodyPost_ret (v := .tuple #[.slice none 0 0, .agg #[.int .i64 7, .int .i64 k]]) (by simp [results, Tryd.results6, go_sem, hx0, hx1]) rfl ⟨.slice none 0 0, ?_, ?_, ?_⟩
                · rw [HE.out]
                · rw [HE.out]; exact Toks.nil _ _ _
                · exact set2 (hD.out.quiet.trans (q1.trans q2)) _ _
          | false =>
            have n8 : (c.toNat : Int) = 45 := by
              rcases hy with h | h
              · omega
              · rw [show digit c = digitZ (c.toNat : Int) from rfl, hdz] at h; cases h
            have n9 : digitZ 45 = false := rfl
            have n10 : letterZ 45 = false := rfl
            clear hy hdz n1 n2 n3 n4 n5 n6 n7
            go_wp2_with (first
              | (go_at_call 15; refine (rdigit_any _ _).mono ?_; rintro e w' ⟨rfl, hw'⟩; replace hw' := hw'.symm; subst hw')
              | (go_at_call 14; refine (rletter_any _ _).mono ?_; rintro e w' ⟨rfl, hw'⟩; replace hw' := hw'.symm; subst hw'))
            go_loop [7] (fun n => ∃ j : Nat, k < j ∧ j ≤ S ∧ n = .int .i64 j ∧ Hid (stop digit l j = S)) (fun n => l.length - (intOf n).toNat)
            case atStart => exact ⟨k + 1, by omega, by omega, by go_num, HS⟩
            case round =>
              obtain ⟨j, hj1, hj2, rfl, hj3⟩ := hrel
              by_cases hjl : j < l.length
              · have hjs : j < (ByteArray.mk l.toArray).size := by omega
                cases hjb : digit l[j] with
                | true =>
                  have hb2 : digitZ (((ByteArray.mk l.toArray)[j]'hjs).toNat : Int) = true := hjb
                  have e1 := hid ((stop_yes digit l j hjl hjb).symm.trans hj3.out)
                  have e2 := le_stop digit l (j + 1)
                  rw [e1.out] at e2
                  clear hjb
                  go_wp2_with (go_at_call 15; refine (rdigit_any _ _).mono ?_; rintro e w' ⟨rfl, hw'⟩; replace hw' := hw'.symm; subst hw')
                  go_round
                  case rel => exact ⟨j + 1, by omega, e2, by go_num, e1⟩
                  case measure => simp [intOf]; omega
                | false =>
                  have hb2 : digitZ (((ByteArray.mk l.toArray)[j]'hjs).toNat : Int) = false := hjb
                  have e1 := hj3.out
                  rw [stop_no digit l j hjl hjb] at e1
                  subst e1
                  clear hjb
                  go_wp2_with (first
                    | (go_at_call 13; refine (f_any _ _ _).mono ?_; rintro e w2 ⟨rfl, q2⟩; have hx := box_stays (hD.out.quiet.trans (q1.trans q2)); obtain ⟨hx0, hx1⟩ := box2 hx; have hf := box_free hx)
                    | (go_at_call 16; refine (long_none t htl HL.out _ hlw).mono ?_; rintro e w1 ⟨rfl, q1⟩)
                    | (go_at_call 15; refine (rdigit_any _ _).mono ?_; rintro e w' ⟨rfl, hw'⟩; replace hw' := hw'.symm; subst hw'))
                  refine bodyPost_ret (v := .tuple #[.slice none 0 0, .agg #[.int .i64 7, .int .i64 k]]) (by simp [results, Tryd.results6, go_sem, hx0, hx1]) rfl ⟨.slice none 0 0, ?_, ?_, ?_⟩
                  · rw [HE.out]
                  · rw [HE.out]; exact Toks.nil _ _ _
                  · exact set2 (hD.out.quiet.trans (q1.trans q2)) _ _
              · have e1 := hj3.out
                rw [stop_end digit l j (by omega)] at e1
                subst e1
                go_wp2_with (first
                  | (go_at_call 13; refine (f_any _ _ _).mono ?_; rintro e w2 ⟨rfl, q2⟩; have hx := box_stays (hD.out.quiet.trans (q1.trans q2)); obtain ⟨hx0, hx1⟩ := box2 hx; have hf := box_free hx)
                  | (go_at_call 16; refine (long_none t htl HL.out _ hlw).mono ?_; rintro e w1 ⟨rfl, q1⟩))
                refine bodyPost_ret (v := .tuple #[.slice none 0 0, .agg #[.int .i64 7, .int .i64 k]]) (by simp [results, Tryd.results6, go_sem, hx0, hx1]) rfl ⟨.slice none 0 0, ?_, ?_, ?_⟩
                · rw [HE.out]
                · rw [HE.out]; exact Toks.nil _ _ _
                · exact set2 (hD.out.quiet.trans (q1.trans q2)) _ _
      · have HE := hid (hD.out.bad hlt (hc ▸ hb) (by unfold tokAt; rw [List.getElem?_eq_getElem hlt, hc]; simp only; rw [if_neg h0, if_neg (by simp [h1]), if_neg h2]))
        obtain ⟨n1, n2, n3, n4⟩ := not_blank hb
        have n5 : ((c.toNat : Int) == 40) = false := by simp; omega
        have n6 : ((c.toNat : Int) == 41) = false := by simp; omega
        have n7 : letterZ (c.toNat : Int) = false := h1
        have n8 : ((c.toNat : Int) == 45) = false := by simp; omega
        have n9 : digitZ (c.toNat : Int) = false := Bool.eq_false_iff.2 fun e => h2 (.inr e)
        clear hc hb h0 h1 h2
        go_wp2_with (first
          | (go_at_call 13; refine (f_any _ _ _).mono ?_; rintro e w2 ⟨rfl, q2⟩; have hx := box_stays (hD.out.quiet.trans q2); obtain ⟨hx0, hx1⟩ := box2 hx; have hf := box_free hx)
          | (go_at_call 15; refine (rdigit_any _ _).mono ?_; rintro e w' ⟨rfl, hw'⟩; replace hw' := hw'.symm; subst hw')
          | (go_at_call 14; refine (rletter_any _ _).mono ?_; rintro e w' ⟨rfl, hw'⟩; replace hw' := hw'.symm; subst hw'))
        refine bodyPost_ret (v := .tuple #[.slice none 0 0, .agg #[.int .i64 7, .int .i64 k]]) (by simp [results, Tryd.results6, go_sem, hx0, hx1]) rfl ⟨.slice none 0 0, ?_, ?_, ?_⟩
        · rw [HE.out]
        · rw [HE.out]; exact Toks.nil _ _ _
        · exact set2 (hD.out.quiet.trans q2) _ _
    · have hx := box_stays hD.out.quiet
      obtain ⟨hx0, hx1⟩ := box2 hx
      have hf := box_free hx
      have HE := hid (hD.out.done hlt)
      go_wp2
      refine bodyPost_ret (v := .tuple #[u4, .agg #[.int .i64 0, .int .i64 0]]) (by simp [results, Tryd.results6, go_sem, hx0, hx1]) rfl ⟨u4, ?_, ?_, ?_⟩
      · rw [HE.out]
      · rw [HE.out]; exact hD.out.told
      · exact set2 hD.out.quiet _ _
/-- What is told of a text, by the document. -/
theorem rscan_any (l : List UInt8) (hl : l.length ≤ 9000) (w : World) (hw : Laid w) :
    Calls Tryd.prog 6 #[.string ⟨l.toArray⟩] w fun e w' => ∃ v, e = .returned (.tuple #[v, .agg #[.int .i64 (scan l).2.1, .int .i64 (scan l).2.2]]) ∧ Toks w' w.heap.size 34 v (scan l).1 ∧ Quiet w w' := by
  unfold scan
  split
  · rename_i h
    refine (rscan_many l hl h w).mono ?_
    rintro e w' ⟨rfl, q⟩
    exact ⟨_, rfl, Toks.nil _ _ _, q⟩
  · exact rscan_few l (by omega) w hw
end Go.Proofs.YthogejofkodmkadDoor
