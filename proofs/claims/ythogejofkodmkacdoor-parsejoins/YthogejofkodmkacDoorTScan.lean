/- The tokens of a text, as the program tells them. -/
import Derived.Test.YthogejofkodmkacDoorTTok
namespace Go.Proofs.YthogejofkodmkacDoor
open Go.ChangeShapes Go.WideShapes Go.ChangeAt Go.RowKit
theorem Tryd.infoTok : (Tryd.prog.info? 32).map (fun i => (i.zero, i.size, i.bytes)) = some (some (.agg #[.int .i64 0, .string ⟨#[]⟩, .bool false, .int .i64 0]), 4, 40) := by kernel_rfl
theorem Tryd.undTok : Tryd.prog.underlying 23 = some (.slice 32) := by kernel_rfl
/-- The program's tokens so far, at a place; what is told in the end is known. -/
structure SD (w : World) (l : List UInt8) (wr : World) (k : Nat) (v : Value) (acc : List Tk) : Prop where
  le : k ≤ l.length
  few : acc.length ≤ k
  stopped : stop blank l k = k
  row : Toks wr (w.heap.size + 1) 32 v acc
  quiet : Quiet (w.alloc (.cells #[.int .i64 0, .int .i64 0] 25)) wr
  same : scanFrom l k acc = scanFrom l 0 []
theorem scan_many (l : List UInt8) (hl : l.length ≤ 9000) (h : 6000 < l.length) (w : World) :
    Calls Tryd.prog 8 #[.string ⟨l.toArray⟩] w fun e w' => e = .returned (.tuple #[.slice none 0 0, .agg #[.int .i64 3, .int .i64 6000]]) ∧ Quiet w w' := by
  have hz := bytes_size l
  go_enter Tryd.func8, Tryd.ntmps8
  go_wp2
  exact bodyPost_ret (v := .tuple #[.slice none 0 0, .agg #[.int .i64 3, .int .i64 6000]]) (by simp [results, Tryd.results8, go_sem]) rfl ⟨rfl, Kp.alloc _ _⟩
theorem SD.push {w wr w1 w2 : World} {l : List UInt8} {k m : Nat} {v : Value} {acc : List Tk} {t : Tk} {g cap : Nat} {o1 o2 : Obj} (h : SD w l wr k v acc) (hm : acc.length = m) (ht : tokAt l k = some t) (q : Quiet wr w1)
    (hr : w2.ownsRow (w.heap.size + 1) 32 4 (.slice (some ⟨g, 0, none⟩) (m + 1) cap) (m + 1) (cellsOf acc ++ t.cells)) (hg : ((w1.alloc o1).alloc o2).grownBy w2 v.ownBlock) :
    SD w l w2 (stop blank l (k + t.text.length)) (.slice (some ⟨g, 0, none⟩) (m + 1) cap) (acc ++ [t]) := by
  have h1 := tokAt_some ht
  refine ⟨stop_le blank l _ h1.2.2.2, ?_, stop_stop blank l _, ?_, ?_, ?_⟩
  · have h2 := h.few
    have h3 := le_stop blank l (k + t.text.length)
    rw [List.length_append, List.length_singleton]; omega
  · subst hm
    unfold Toks
    rw [cellsOf_app, cellsOf_one, List.length_append]
    exact hr
  · refine h.quiet.fresh ?_
    refine ((Kp.mono q fun _ _ e => e.elim).trans (Kp.alloc _ o1)).trans ((Kp.alloc _ o2).trans (Kp.grown hg fun k _ e => ?_))
    have := (h.row.lt k e.symm).1
    simpa using this
  · rw [scanFrom_stop, ← h.same, scanFrom_tok acc (by rw [h.stopped]; exact h1.1) (by rw [h.stopped]; exact ht), h.stopped]
theorem SD.bad {w wr : World} {l : List UInt8} {k : Nat} {v : Value} {acc : List Tk} (h : SD w l wr k v acc) (hk : k < l.length) (ht : tokAt l k = none) : scanFrom l 0 [] = ([], 7, (k : Int)) := by
  rw [← h.same, scanFrom_bad acc (by rw [h.stopped]; exact hk) (by rw [h.stopped]; exact ht), h.stopped]
theorem SD.done {w wr : World} {l : List UInt8} {k : Nat} {v : Value} {acc : List Tk} (h : SD w l wr k v acc) (hk : ¬ k < l.length) : scanFrom l 0 [] = (acc, 0, 0) := by
  rw [← h.same, scanFrom_end acc (by rw [h.stopped]; omega)]
theorem box_grown {wr w1 w2 : World} {o1 o2 : Obj} {v : Value} {B n : Nat} {e : TypeId} {xs : List Value} (q : Quiet wr w1) (hr : wr.ownsRow B e 4 v n xs) (hg : ((w1.alloc o1).alloc o2).grownBy w2 v.ownBlock) : w2.heap[w1.heap.size]? = some o1 := by
  rw [hg.block w1.heap.size (by simp; omega) (fun e => by have := (hr.lt _ e.symm).2; have := q.size; omega)]
  rw [Below.heap_alloc _ _ _ (by simp)]
  exact heap_alloc_new w1 o1
theorem SD.told {w wr : World} {l : List UInt8} {k : Nat} {v a b : Value} {acc : List Tk} (h : SD w l wr k v acc) : Toks ((wr.setCell ⟨w.heap.size, 0, none⟩ a).setCell ⟨w.heap.size, 1, none⟩ b) w.heap.size 32 v acc := by
  have hk : Kp (fun i => i = w.heap.size) wr ((wr.setCell ⟨w.heap.size, 0, none⟩ a).setCell ⟨w.heap.size, 1, none⟩ b) := (Kp.setCell (F := fun i => i = w.heap.size) wr ⟨w.heap.size, 0, none⟩ a rfl).trans (Kp.setCell (F := fun i => i = w.heap.size) _ ⟨w.heap.size, 1, none⟩ b rfl)
  refine owns_mono (hk.row h.row fun k hk e => ?_) (Nat.le_succ _)
  have := (h.row.lt k hk).1
  omega
set_option maxRecDepth 8000 in
set_option maxHeartbeats 2000000 in
theorem scan_few (l : List UInt8) (h : l.length ≤ 6000) (w : World) (hw : Laid w) :
    Calls Tryd.prog 8 #[.string ⟨l.toArray⟩] w fun e w' => ∃ v, e = .returned (.tuple #[v, .agg #[.int .i64 (scanFrom l 0 []).2.1, .int .i64 (scanFrom l 0 []).2.2]]) ∧ Toks w' w.heap.size 32 v (scanFrom l 0 []).1 ∧ Quiet w w' := by
  have hz := bytes_size l
  obtain ⟨i0, hi0, hz0, hz1, hz2⟩ := info_parts' Tryd.infoTok
  have E0 := fun w => end_blank l 0 w (by omega) (by omega)
  go_enter Tryd.func8, Tryd.ntmps8
  go_wp2_with (go_at_call 19; refine (E0 _).mono ?_; rintro e w' ⟨rfl, rfl⟩)
  go_loopw [4, 5] (fun v n wr => ∃ (k : Nat) (acc : List Tk), n = .int .i64 k ∧ Hid (SD w l wr k v acc)) (fun _ n _ => l.length - (intOf n).toNat)
  case atStart => exact ⟨_, [], rfl, stop_le blank l 0 (by omega), Nat.zero_le _, stop_stop blank l 0, Toks.nil _ _ _, Kp.refl _ _, scanFrom_stop l 0 []⟩
  case round =>
    obtain ⟨k, acc, rfl, hD⟩ := hrel
    have hk := hD.out.le
    by_cases hlt : k < l.length
    · obtain ⟨ao, m, cap, rfl, hm, hr⟩ := hD.out.row.part
      have HR := hid hr
      have HM := hid hm
      have hmk : m ≤ k := by have := hD.out.few; omega
      have hlw := (hw.quiet (Kp.alloc _ _)).quiet hD.out.quiet
      have hsz : w.heap.size + 1 ≤ wr.heap.size := by have := hD.out.quiet.size; simpa using this
      clear hr hm
      cases ht : tokAt l k with
      | none =>
        have HT := hid ht
        have HE := hid (hD.out.bad hlt ht)
        clear ht
        go_wp2_with (go_at_call 21; refine (tok_none l k hlt (by omega) HT.out _ hlw).mono ?_; rintro e w1 ⟨rfl, q1⟩; have hx := fun o => box_stays (hD.out.quiet.trans (q1.trans (Kp.alloc _ o))); have hx0 := fun o => (box2 (hx o)).1; have hx1 := fun o => (box2 (hx o)).2; have hf := fun o => box_free (hx o))
        refine bodyPost_ret (v := .tuple #[.slice none 0 0, .agg #[.int .i64 7, .int .i64 k]]) (by simp [results, Tryd.results8, go_sem, hx0, hx1]) rfl ⟨.slice none 0 0, ?_, ?_, ?_⟩
        · rw [HE.out]
        · rw [HE.out]; exact Toks.nil _ _ _
        · exact set2 (hD.out.quiet.trans (q1.trans (Kp.alloc _ _))) _ _
      | some t =>
        have HT := hid ht
        obtain ⟨pos, text, num, n⟩ := t
        obtain ⟨_, hp, h2, h3⟩ := tokAt_some ht
        simp only at h2 h3 hp
        have hp2 := hp.symm
        subst hp2
        clear ht hp
        have E1 := fun w => end_blank l (k + text.length) w (by omega) (by omega)
        go_wp2_with (first
          | (at_builtin; refine wpList_append_lies _ rfl (.tmp 31) (.tmp 33) 23 rfl (w.heap.size + 1) 32 i0 _ 4 40 Tryd.undTok hi0 hz0 hz1 hz2 rfl (by decide) _ m (cellsOf acc) rfl ((q1.row HR.out (fun _ _ e => e)).alloc _ |>.alloc _) ⟨w1.heap.size + 1, 0, none⟩ 1 1 (Tk.cells ⟨k, text, num, n⟩) rfl rfl (news_from (t := 32) (heap_two w1 _ _)) (by simp [Value.oneCell', Tk.cells]) (by decide) (by unfold maxLen; omega) (by omega) (by have := q1.size; simp; omega) (w1.heap.size + 2) (by simp) ?_; intro g2 cap2 w2 hr2 hg2 hat hlt2; have HP := hid (hD.out.push HM.out HT.out q1 hr2 hg2); have hy := (box4 (box_grown q1 HR.out hg2)).2.1; clear hr2 hg2 hat hlt2)
          | (go_at_call 19; refine (E1 _).mono ?_; rintro e w3 ⟨rfl, rfl⟩)
          | (go_at_call 21; refine (tok_some l k hlt (by omega) ⟨k, text, num, n⟩ HT.out _ hlw).mono ?_; rintro e w1 ⟨rfl, q1⟩))
        have h4 := le_stop blank l (k + text.length)
        exact ⟨⟨_, _, rfl, HP⟩, by simp [intOf]; omega⟩
    · have hx := box_stays hD.out.quiet
      obtain ⟨hx0, hx1⟩ := box2 hx
      have hf := box_free hx
      have HE := hid (hD.out.done hlt)
      go_wp2
      refine bodyPost_ret (v := .tuple #[u4, .agg #[.int .i64 0, .int .i64 0]]) (by simp [results, Tryd.results8, go_sem, hx0, hx1]) rfl ⟨u4, ?_, ?_, ?_⟩
      · rw [HE.out]
      · rw [HE.out]; exact hD.out.told
      · exact set2 hD.out.quiet _ _
/-- What is told of a text, by the program. -/
theorem scan_any (l : List UInt8) (hl : l.length ≤ 9000) (w : World) (hw : Laid w) :
    Calls Tryd.prog 8 #[.string ⟨l.toArray⟩] w fun e w' => ∃ v, e = .returned (.tuple #[v, .agg #[.int .i64 (scan l).2.1, .int .i64 (scan l).2.2]]) ∧ Toks w' w.heap.size 32 v (scan l).1 ∧ Quiet w w' := by
  unfold scan
  split
  · rename_i h
    refine (scan_many l hl h w).mono ?_
    rintro e w' ⟨rfl, q⟩
    exact ⟨_, rfl, Toks.nil _ _ _, q⟩
  · exact scan_few l (by omega) w hw
end Go.Proofs.YthogejofkodmkacDoor
