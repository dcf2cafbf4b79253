/- An expression's word, and its number or arithmetic. -/
import Derived.Test.YthogejofkodmkacDoorPOne
namespace Go.Proofs.YthogejofkodmkacDoor
open Go.ChangeShapes Go.WideShapes Go.ChangeAt Go.RowKit
theorem box_told {w w1 w2 : World} {o0 o1 : Obj} {rb j : Nat} {y : Value} {e : Int} {ts : List Tk} (hr : rb < w.heap.size) (q1 : Kr rb (w.alloc o0) w1) (q2 : Kr rb (w1.alloc o1) w2) (h : RS w2 rb e ts) (a b c d : Value) :
    RS (((((w2.setCell ⟨w1.heap.size, j, none⟩ y).setCell ⟨w.heap.size, 0, none⟩ a).setCell ⟨w.heap.size, 1, none⟩ b).setCell ⟨w.heap.size, 2, none⟩ c).setCell ⟨w.heap.size, 3, none⟩ d) rb e ts ∧ Kr rb w (((((w2.setCell ⟨w1.heap.size, j, none⟩ y).setCell ⟨w.heap.size, 0, none⟩ a).setCell ⟨w.heap.size, 1, none⟩ b).setCell ⟨w.heap.size, 2, none⟩ c).setCell ⟨w.heap.size, 3, none⟩ d) := by
  have hs : w.heap.size + 1 ≤ w1.heap.size := by have := q1.size; simpa using this
  refine told4 hr (((q1.trans (Kp.alloc _ _)).trans q2).fresh ?_) (rs_set h (by omega) rfl) a b c d
  exact Kp.setCell w2 ⟨w1.heap.size, j, none⟩ y (by simpa using hs)
theorem kinds4 (kd : Int) : kd = 2 ∨ (kd = 4 ∨ kd = 18 ∨ kd = 15) ∨ kd = 6 ∨ (kd ≠ 2 ∧ kd ≠ 4 ∧ kd ≠ 18 ∧ kd ≠ 15 ∧ kd ≠ 6) := by omega
theorem tail2 {e : Int} {r1 r : List Tk} {x : Int × Int} (h : tailT e 2 r1 = .ok (x, r)) : ∃ t, numT e r1 = .ok (t, r) ∧ x = (0, t.n) := by
  rw [tailT, if_pos rfl] at h
  obtain ⟨t, r2, h1, h2⟩ := then_ok h
  cases h2
  exact ⟨t, h1, rfl⟩
theorem tail4 {e kd : Int} {r1 r : List Tk} {x : Int × Int} (hk : kd = 4 ∨ kd = 18 ∨ kd = 15) (h : tailT e kd r1 = .ok (x, r)) : ∃ k, smallT e r1 = .ok (k, r) ∧ x = (k, 0) := by
  rw [tailT, if_neg (by omega), if_pos hk] at h
  obtain ⟨t, r2, h1, h2⟩ := then_ok h
  cases h2
  exact ⟨t, h1, rfl⟩
theorem tail6 {e : Int} {r1 r : List Tk} {x : Int × Int} (h : tailT e 6 r1 = .ok (x, r)) : ∃ k, oneT binL e r1 = .ok (k, r) ∧ x = (k, 0) := by
  rw [tailT, if_neg (by decide), if_neg (by decide), if_pos rfl] at h
  obtain ⟨t, r2, h1, h2⟩ := then_ok h
  cases h2
  exact ⟨t, h1, rfl⟩
theorem tail0 {e kd : Int} {r1 r : List Tk} {x : Int × Int} (hk : kd ≠ 2 ∧ kd ≠ 4 ∧ kd ≠ 18 ∧ kd ≠ 15 ∧ kd ≠ 6) (h : tailT e kd r1 = .ok (x, r)) : x = (0, 0) ∧ r1 = r := by
  rw [tailT, if_neg (by omega), if_neg (by omega), if_neg (by omega)] at h
  cases h
  exact ⟨rfl, rfl⟩
theorem head_parts {e : Int} {ts r : List Tk} {x : Int × Int × Int} (h : headT e ts = .ok (x, r)) : ∃ r1, oneT wordL e ts = .ok (x.1, r1) ∧ tailT e x.1 r1 = .ok (x.2, r) := by
  unfold headT at h
  obtain ⟨kd, r1, h1, h2⟩ := then_ok h
  obtain ⟨y, r2, h3, h4⟩ := then_ok h2
  cases h4
  exact ⟨r1, h1, h3⟩
theorem fieldN (a n : Int) (s : ByteArray) (b : Bool) (w : World) : (Instr.field 32 (.agg #[.int .i64 a, .string s, .bool b, .int .i64 n]) 3).run Tryd.prog w = .ok (.int .i64 n) w := by
  unfold Instr.field
  simp [run_underlying Tryd.underlying32, part, asAgg, go_sem, Result.andThen]
set_option maxRecDepth 8000 in
set_option maxHeartbeats 2000000 in
theorem headR_ok (e : Int) (rb : Nat) (x : Int × Int × Int) (ts r : List Tk) (w : World) (h : RS w rb e ts) (hw : Rd w rb) (hm : headT e ts = .ok (x, r)) : Calls Tryd.prog 75 #[.pointer (some ⟨rb, 0, none⟩)] w fun e' w' => e' = .returned (.agg #[.int .i64 x.1, .int .i64 x.2.1, .int .i64 x.2.2, .slice none 0 0]) ∧ RS w' rb e r ∧ Kr rb w w' := by
  obtain ⟨kd, kk, kn⟩ := x
  obtain ⟨r1, h1, h2⟩ := head_parts hm
  simp only at h1 h2 ⊢
  have hlt := h.lt
  have HO := hid (fun o => oneW_ok e rb kd ts r1 (w.alloc o) (h.quiet (Kp.alloc _ _)) (hw.quiet (Kp.alloc _ _)) h1)
  have HW := hid (fun (o : Obj) (w1 : World) (q : Kr rb (w.alloc o) w1) => (hw.quiet (Kp.alloc _ _)).kr q)
  clear h hw hm h1
  rcases kinds4 kd with rfl | hk | rfl | hk
  · obtain ⟨t, h3, h4⟩ := tail2 h2
    cases h4
    obtain ⟨pos, text, num, n⟩ := t
    have HT := hid (fun (w1 : World) (h1 : RS w1 rb e r1) (o : Obj) => number_ok e rb _ r1 r (w1.alloc o) (h1.quiet (Kp.alloc _ _)) h3)
    have hfd := fieldN
    clear h2 h3 HW
    go_enter Tryd.func75, Tryd.ntmps75
    go_wp2_with (first
      | (go_at_call 89; refine (HT.out w1 h1 _).mono ?_; rintro e' w2 ⟨rfl, h2, q2⟩; have hb1 := box_kr hl1 q2; have hb0 := box_kr hlt ((q1.trans (Kp.alloc _ _)).trans q2); obtain ⟨c0, c1, c2, c3⟩ := box4 hb1; obtain ⟨d0, d1, d2, d3⟩ := box4 hb0; have hf1 := box_free hb1; have hf0 := box_free hb0; have hne : ¬ w.heap.size = w1.heap.size := (by omega); have hne2 : ¬ w1.heap.size = w.heap.size := (by omega); clear hb0 hb1)
      | (go_at_call 88; refine (HO.out _).mono ?_; rintro e' w1 ⟨rfl, h1, q1⟩; have hl0 : w.heap.size + 1 ≤ w1.heap.size := (by have := q1.size; simpa using this); have hl1 : rb < w1.heap.size := (by omega)))
    refine bodyPost_ret (v := .agg #[.int .i64 2, .int .i64 0, .int .i64 n, .slice none 0 0]) (by simp [results, Tryd.results75, go_sem, d0, d1, d2, d3]) rfl ?_
    exact ⟨rfl, box_told hlt q1 q2 h2 _ _ _ _⟩
  · obtain ⟨k, h3, h4⟩ := tail4 hk h2
    cases h4
    have HT := hid (fun (w1 : World) (h1 : RS w1 rb e r1) (o : Obj) => small_ok' e rb _ r1 r (w1.alloc o) (h1.quiet (Kp.alloc _ _)) h3)
    clear h2 h3 HW
    rcases hk with rfl | rfl | rfl
    all_goals
      go_enter Tryd.func75, Tryd.ntmps75
      go_wp2_with (first
        | (go_at_call 90; refine (HT.out w1 h1 _).mono ?_; rintro e' w2 ⟨rfl, h2, q2⟩; have hb1 := box_kr hl1 q2; have hb0 := box_kr hlt ((q1.trans (Kp.alloc _ _)).trans q2); obtain ⟨c0, c1, c2, c3⟩ := box4 hb1; obtain ⟨d0, d1, d2, d3⟩ := box4 hb0; have hf1 := box_free hb1; have hf0 := box_free hb0; have hne : ¬ w.heap.size = w1.heap.size := (by omega); have hne2 : ¬ w1.heap.size = w.heap.size := (by omega); clear hb0 hb1)
        | (go_at_call 88; refine (HO.out _).mono ?_; rintro e' w1 ⟨rfl, h1, q1⟩; have hl0 : w.heap.size + 1 ≤ w1.heap.size := (by have := q1.size; simpa using this); have hl1 : rb < w1.heap.size := (by omega)))
      refine bodyPost_ret (v := .agg #[.int .i64 _, .int .i64 kk, .int .i64 0, .slice none 0 0]) (by simp [results, Tryd.results75, go_sem, d0, d1, d2, d3]; rfl) rfl ?_
      exact ⟨rfl, box_told hlt q1 q2 h2 _ _ _ _⟩
  · obtain ⟨k, h3, h4⟩ := tail6 h2
    cases h4
    have HT := hid (fun (w1 : World) (h1 : RS w1 rb e r1) (o : Obj) (hd : Rd w1 rb) => oneB_ok e rb kk r1 r (w1.alloc o) (h1.quiet (Kp.alloc _ _)) (hd.quiet (Kp.alloc _ _)) h3)
    clear h2 h3
    go_enter Tryd.func75, Tryd.ntmps75
    go_wp2_with (first
      | (go_at_call 88; refine (HT.out w1 h1 _ (HW.out _ _ q1)).mono ?_; rintro e' w2 ⟨rfl, h2, q2⟩; have hb1 := box_kr hl1 q2; have hb0 := box_kr hlt ((q1.trans (Kp.alloc _ _)).trans q2); obtain ⟨c0, c1, c2, c3⟩ := box4 hb1; obtain ⟨d0, d1, d2, d3⟩ := box4 hb0; have hf1 := box_free hb1; have hf0 := box_free hb0; have hne : ¬ w.heap.size = w1.heap.size := (by omega); have hne2 : ¬ w1.heap.size = w.heap.size := (by omega); clear hb0 hb1)
      | (go_at_call 88; refine (HO.out _).mono ?_; rintro e' w1 ⟨rfl, h1, q1⟩; have hl0 : w.heap.size + 1 ≤ w1.heap.size := (by have := q1.size; simpa using this); have hl1 : rb < w1.heap.size := (by omega)))
    refine bodyPost_ret (v := .agg #[.int .i64 6, .int .i64 kk, .int .i64 0, .slice none 0 0]) (by simp [results, Tryd.results75, go_sem, d0, d1, d2, d3]) rfl ?_
    exact ⟨rfl, box_told hlt q1 q2 h2 _ _ _ _⟩
  · obtain ⟨h4, h3⟩ := tail0 hk h2
    cases h4
    subst h3
    obtain ⟨a1, a2, a3, a4, a5⟩ := hk
    clear h2 HW
    go_enter Tryd.func75, Tryd.ntmps75
    go_wp2_with ((go_at_call 88; refine (HO.out _).mono ?_; rintro e' w1 ⟨rfl, h1, q1⟩; have hl0 : w.heap.size + 1 ≤ w1.heap.size := (by have := q1.size; simpa using this); have hl1 : rb < w1.heap.size := (by omega); have hb0 := fun o => box_kr hlt (q1.trans (Kp.alloc _ o)); have hd := fun o => box4 (hb0 o); have hf0 := fun o => box_free (hb0 o)))
    refine bodyPost_ret (v := .agg #[.int .i64 kd, .int .i64 0, .int .i64 0, .slice none 0 0]) (by simp [results, Tryd.results75, go_sem, hd]) rfl ?_
    exact ⟨rfl, told4 hlt (q1.trans (Kp.alloc _ _)) (h1.quiet (Kp.alloc _ _)) _ _ _ _⟩
theorem then_bad {α β : Type} {g : Got α} {f : α → List Tk → Got β} {x : Int × Int} (h : andThen g f = .error x) : g = .error x ∨ ∃ a r, g = .ok (a, r) ∧ f a r = .error x := by
  cases g with
  | error y => cases h; exact .inl rfl
  | ok y => exact .inr ⟨y.1, y.2, rfl, h⟩
theorem head_wrong {e : Int} {ts : List Tk} {x : Int × Int} (h : headT e ts = .error x) : oneT wordL e ts = .error x ∨ ∃ kd r1, oneT wordL e ts = .ok (kd, r1) ∧ tailT e kd r1 = .error x := by
  unfold headT at h
  rcases then_bad h with h1 | ⟨kd, r1, h1, h2⟩
  · exact .inl h1
  · rcases then_bad h2 with h3 | ⟨y, r2, _, h4⟩
    · exact .inr ⟨kd, r1, h1, h3⟩
    · cases h4
theorem tail_wrong {e kd : Int} {r1 : List Tk} {x : Int × Int} (h : tailT e kd r1 = .error x) : (kd = 2 ∧ numT e r1 = .error x) ∨ ((kd = 4 ∨ kd = 18 ∨ kd = 15) ∧ smallT e r1 = .error x) ∨ (kd = 6 ∧ oneT binL e r1 = .error x) := by
  unfold tailT at h
  split at h
  · rcases then_bad h with h1 | ⟨_, _, _, h2⟩
    · exact .inl ⟨by assumption, h1⟩
    · cases h2
  · split at h
    · rcases then_bad h with h1 | ⟨_, _, _, h2⟩
      · exact .inr (.inl ⟨by assumption, h1⟩)
      · cases h2
    · split at h
      · rcases then_bad h with h1 | ⟨_, _, _, h2⟩
        · exact .inr (.inr ⟨by assumption, h1⟩)
        · cases h2
      · cases h
theorem rest_good {L : List (List UInt8)} {e kd : Int} {ts r : List Tk} (hg : ∀ t ∈ ts, good t) (h : oneT L e ts = .ok (kd, r)) : ∀ t ∈ r, good t := by
  obtain ⟨t, rfl, _⟩ := one_ok h
  exact fun u hu => hg u (by simp [hu])
set_option maxRecDepth 8000 in
set_option maxHeartbeats 2000000 in
theorem headR_bad (e : Int) (rb : Nat) (x : Int × Int) (ts : List Tk) (w : World) (h : RS w rb e ts) (hw : Rd w rb) (hg : ∀ t ∈ ts, good t) (hm : headT e ts = .error x) : Calls Tryd.prog 75 #[.pointer (some ⟨rb, 0, none⟩)] w fun e' w' => e' = .panicked (gave x) ∧ Kr rb w w' := by
  rcases head_wrong hm with h1 | ⟨kd, r1, h1, h2⟩
  · have HO := hid (fun o => oneW_bad e rb ts x (w.alloc o) (h.quiet (Kp.alloc _ _)) (hw.quiet (Kp.alloc _ _)) hg h1)
    clear h hw hg hm h1
    go_enter Tryd.func75, Tryd.ntmps75
    go_wp2_with (go_at_call 88; refine (HO.out _).mono ?_; rintro e' w1 ⟨rfl, q1⟩)
    exact ⟨rfl, rfl, (Kp.alloc _ _).trans q1⟩
  · have hg1 := rest_good hg h1
    have HO := hid (fun o => oneW_ok e rb kd ts r1 (w.alloc o) (h.quiet (Kp.alloc _ _)) (hw.quiet (Kp.alloc _ _)) h1)
    have HW := hid (fun (o : Obj) (w1 : World) (q : Kr rb (w.alloc o) w1) => (hw.quiet (Kp.alloc _ _)).kr q)
    clear h hw hm h1 hg
    rcases tail_wrong h2 with ⟨rfl, h3⟩ | ⟨hk, h3⟩ | ⟨rfl, h3⟩
    · have HT := hid (fun (w1 : World) (h1 : RS w1 rb e r1) (o : Obj) => number_bad e rb r1 x (w1.alloc o) (h1.quiet (Kp.alloc _ _)) h3)
      clear h2 h3 HW hg1
      go_enter Tryd.func75, Tryd.ntmps75
      go_wp2_with (first
        | (go_at_call 89; refine (HT.out w1 h1 _).mono ?_; rintro e' w2 ⟨rfl, q2⟩)
        | (go_at_call 88; refine (HO.out _).mono ?_; rintro e' w1 ⟨rfl, h1, q1⟩))
      exact ⟨rfl, rfl, (Kp.alloc _ _).trans (q1.trans ((Kp.alloc _ _).trans q2))⟩
    · have HT := hid (fun (w1 : World) (h1 : RS w1 rb e r1) (o : Obj) => small_bad e rb r1 x (w1.alloc o) (h1.quiet (Kp.alloc _ _)) h3)
      clear h2 h3 HW hg1
      rcases hk with rfl | rfl | rfl
      all_goals
        go_enter Tryd.func75, Tryd.ntmps75
        go_wp2_with (first
          | (go_at_call 90; refine (HT.out w1 h1 _).mono ?_; rintro e' w2 ⟨rfl, q2⟩)
          | (go_at_call 88; refine (HO.out _).mono ?_; rintro e' w1 ⟨rfl, h1, q1⟩))
        exact ⟨rfl, rfl, (Kp.alloc _ _).trans (q1.trans ((Kp.alloc _ _).trans q2))⟩
    · have HT := hid (fun (w1 : World) (h1 : RS w1 rb e r1) (o : Obj) (hd : Rd w1 rb) => oneB_bad e rb r1 x (w1.alloc o) (h1.quiet (Kp.alloc _ _)) (hd.quiet (Kp.alloc _ _)) hg1 h3)
      clear h2 h3 hg1
      go_enter Tryd.func75, Tryd.ntmps75
      go_wp2_with (first
        | (go_at_call 88; refine (HT.out w1 h1 _ (HW.out _ _ q1)).mono ?_; rintro e' w2 ⟨rfl, q2⟩)
        | (go_at_call 88; refine (HO.out _).mono ?_; rintro e' w1 ⟨rfl, h1, q1⟩))
      exact ⟨rfl, rfl, (Kp.alloc _ _).trans (q1.trans ((Kp.alloc _ _).trans q2))⟩
end Go.Proofs.YthogejofkodmkacDoor
