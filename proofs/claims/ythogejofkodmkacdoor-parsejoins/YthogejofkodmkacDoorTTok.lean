/- The token that begins at a byte. -/
import Derived.Test.YthogejofkodmkacDoorTNum
namespace Go.Proofs.YthogejofkodmkacDoor
open Go.ChangeShapes Go.WideShapes Go.ChangeAt Go.RowKit
/-- What numberAt answers, whatever it is. -/
structure NumIs (l : List UInt8) (i : Nat) (A : Int) (B : List UInt8) (C : Bool) (D : Int) (f : Bool) : Prop where
  does : ∀ w, Laid w → Calls Tryd.prog 38 #[.string ⟨l.toArray⟩, .int .i64 i] w fun e w' => e = .returned (.tuple #[.agg #[.int .i64 A, .string ⟨B.toArray⟩, .bool C, .int .i64 D], .bool f]) ∧ Quiet w w'
set_option maxRecDepth 8000 in
set_option maxHeartbeats 1000000 in
theorem tok_num (l : List UInt8) (i : Nat) (hi : i < l.length) (h : l[i].toNat = 45 ∨ digit l[i] = true) (A : Int) (B : List UInt8) (C : Bool) (D : Int) (f : Bool) (N : NumIs l i A B C D f) (w : World) (hw : Laid w) :
    Calls Tryd.prog 21 #[.string ⟨l.toArray⟩, .int .i64 i] w fun e w' => e = .returned (.tuple #[.agg #[.int .i64 A, .string ⟨B.toArray⟩, .bool C, .int .i64 D], .bool f]) ∧ Quiet w w' := by
  have hz := bytes_size l
  have hs : i < (ByteArray.mk l.toArray).size := by omega
  have hx : 45 ≤ l[i].toNat ∧ l[i].toNat ≤ 57 := by
    rcases h with h | h
    · omega
    · simp [digit, digitZ] at h; omega
  generalize hc : l[i] = c at *
  have hcc : ((ByteArray.mk l.toArray)[i]'hs) = c := hc
  have h0 : ¬ (c.toNat : Int) = 40 := by omega
  have bh0 : ((c.toNat : Int) == 40) = false := by simpa using h0
  have h1 : ¬ (c.toNat : Int) = 41 := by omega
  have bh1 : ((c.toNat : Int) == 41) = false := by simpa using h1
  have h2 : letterZ (c.toNat : Int) = false := by simp [letterZ]; omega
  have HC := hid hc
  clear hc
  rcases h with h | h
  · have h3 : (c.toNat : Int) = 45 := by omega
    have h4 : letterZ 45 = false := rfl
    clear h hx h0 h1 h2 bh0 bh1
    go_enter Tryd.func21, Tryd.ntmps21
    go_wp2_with (first
      | (go_at_call 38; refine (N.does _ (hw.quiet (Kp.alloc _ _))).mono ?_; rintro e w1 ⟨rfl, q1⟩; have hx := box_stays q1; obtain ⟨c0, c1, c2, c3⟩ := box4 hx; have hf := box_free hx)
      | (go_at_call 36; refine (letter_any _ _).mono ?_; rintro e w' ⟨rfl, rfl⟩))
    exact bodyPost_ret (v := .tuple #[.agg #[.int .i64 A, .string ⟨B.toArray⟩, .bool C, .int .i64 D], .bool f]) (by simp [results, Tryd.results21, go_sem, c0, c1, c2, c3]) rfl ⟨rfl, set4 q1 _ _ _ _⟩
  · by_cases h3 : (c.toNat : Int) = 45
    · have h4 : letterZ 45 = false := rfl
      clear h hx h0 h1 h2 bh0 bh1
      go_enter Tryd.func21, Tryd.ntmps21
      go_wp2_with (first
        | (go_at_call 38; refine (N.does _ (hw.quiet (Kp.alloc _ _))).mono ?_; rintro e w1 ⟨rfl, q1⟩; have hx := box_stays q1; obtain ⟨c0, c1, c2, c3⟩ := box4 hx; have hf := box_free hx)
        | (go_at_call 36; refine (letter_any _ _).mono ?_; rintro e w' ⟨rfl, rfl⟩))
      exact bodyPost_ret (v := .tuple #[.agg #[.int .i64 A, .string ⟨B.toArray⟩, .bool C, .int .i64 D], .bool f]) (by simp [results, Tryd.results21, go_sem, c0, c1, c2, c3]) rfl ⟨rfl, set4 q1 _ _ _ _⟩
    · have h5 : digitZ (c.toNat : Int) = true := h
      have bh3 : ((c.toNat : Int) == 45) = false := by simpa using h3
      clear h hx
      go_enter Tryd.func21, Tryd.ntmps21
      go_wp2_with (first
        | (go_at_call 38; refine (N.does _ (hw.quiet (Kp.alloc _ _))).mono ?_; rintro e w1 ⟨rfl, q1⟩; have hx := box_stays q1; obtain ⟨c0, c1, c2, c3⟩ := box4 hx; have hf := box_free hx)
        | (go_at_call 37; refine (digit_any _ _).mono ?_; rintro e w' ⟨rfl, rfl⟩)
        | (go_at_call 36; refine (letter_any _ _).mono ?_; rintro e w' ⟨rfl, rfl⟩))
      exact bodyPost_ret (v := .tuple #[.agg #[.int .i64 A, .string ⟨B.toArray⟩, .bool C, .int .i64 D], .bool f]) (by simp [results, Tryd.results21, go_sem, c0, c1, c2, c3]) rfl ⟨rfl, set4 q1 _ _ _ _⟩
set_option maxRecDepth 8000 in
set_option maxHeartbeats 1000000 in
theorem tok_not (l : List UInt8) (i : Nat) (hi : i < l.length) (h0 : ¬ l[i].toNat = 40) (h1 : ¬ l[i].toNat = 41) (h2 : letter l[i] = false) (h3 : ¬ l[i].toNat = 45) (h4 : digit l[i] = false) (w : World) :
    Calls Tryd.prog 21 #[.string ⟨l.toArray⟩, .int .i64 i] w fun e w' => e = .returned (.tuple #[.agg #[.int .i64 0, .string ⟨#[]⟩, .bool false, .int .i64 0], .bool false]) ∧ Quiet w w' := by
  have hz := bytes_size l
  have hs : i < (ByteArray.mk l.toArray).size := by omega
  generalize hc : l[i] = c at *
  have hcc : ((ByteArray.mk l.toArray)[i]'hs) = c := hc
  have g0 : ¬ (c.toNat : Int) = 40 := by omega
  have bg0 : ((c.toNat : Int) == 40) = false := by simpa using g0
  have g1 : ¬ (c.toNat : Int) = 41 := by omega
  have bg1 : ((c.toNat : Int) == 41) = false := by simpa using g1
  have g2 : letterZ (c.toNat : Int) = false := h2
  have g3 : ¬ (c.toNat : Int) = 45 := by omega
  have bg3 : ((c.toNat : Int) == 45) = false := by simpa using g3
  have g4 : digitZ (c.toNat : Int) = false := h4
  clear hc h0 h1 h2 h3 h4
  go_enter Tryd.func21, Tryd.ntmps21
  go_wp2_with (first
    | (go_at_call 37; refine (digit_any _ _).mono ?_; rintro e w' ⟨rfl, rfl⟩)
    | (go_at_call 36; refine (letter_any _ _).mono ?_; rintro e w' ⟨rfl, rfl⟩))
  exact bodyPost_ret (v := .tuple #[.agg #[.int .i64 0, .string ⟨#[]⟩, .bool false, .int .i64 0], .bool false]) (by simp [results, Tryd.results21, go_sem]) rfl ⟨rfl, Kp.alloc _ _⟩
set_option maxRecDepth 8000 in
set_option maxHeartbeats 1000000 in
theorem tok_bracket (l : List UInt8) (i : Nat) (hi : i < l.length) (hl : l.length ≤ 9000) (h : l[i].toNat = 40 ∨ l[i].toNat = 41) (w : World) :
    Calls Tryd.prog 21 #[.string ⟨l.toArray⟩, .int .i64 i] w fun e w' => e = .returned (.tuple #[.agg #[.int .i64 i, .string ⟨(cut l i (i + 1)).toArray⟩, .bool false, .int .i64 0], .bool true]) ∧ Quiet w w' := by
  have hz := bytes_size l
  have hs : i < (ByteArray.mk l.toArray).size := by omega
  have E1 : ∀ w, Calls Tryd.prog 35 #[.string ⟨l.toArray⟩, .int .i64 i, .int .i64 ((i : Int) + 1)] w fun e w' => e = .returned (.string ⟨(cut l i (i + 1)).toArray⟩) ∧ Quiet w w' := by
    intro w
    have := piece_any l i (i + 1) (by omega) (by omega) hl w
    exact_mod_cast this
  generalize hc : l[i] = c at *
  have hcc : ((ByteArray.mk l.toArray)[i]'hs) = c := hc
  clear hc
  generalize cut l i (i + 1) = t at *
  rcases h with h | h
  · have g0 : (c.toNat : Int) = 40 := by omega
    clear h
    go_enter Tryd.func21, Tryd.ntmps21
    go_wp2_with (go_at_call 35; refine (E1 _).mono ?_; rintro e w1 ⟨rfl, q1⟩; have hx := box_stays q1; obtain ⟨c0, c1, c2, c3⟩ := box4 hx; have hf := box_free hx)
    exact bodyPost_ret (v := .tuple #[.agg #[.int .i64 i, .string ⟨t.toArray⟩, .bool false, .int .i64 0], .bool true]) (by simp [results, Tryd.results21, go_sem, c0, c1, c2, c3]) rfl ⟨rfl, set4 q1 _ _ _ _⟩
  · have g0 : (c.toNat : Int) = 41 := by omega
    clear h
    go_enter Tryd.func21, Tryd.ntmps21
    go_wp2_with (go_at_call 35; refine (E1 _).mono ?_; rintro e w1 ⟨rfl, q1⟩; have hx := box_stays q1; obtain ⟨c0, c1, c2, c3⟩ := box4 hx; have hf := box_free hx)
    exact bodyPost_ret (v := .tuple #[.agg #[.int .i64 i, .string ⟨t.toArray⟩, .bool false, .int .i64 0], .bool true]) (by simp [results, Tryd.results21, go_sem, c0, c1, c2, c3]) rfl ⟨rfl, set4 q1 _ _ _ _⟩
set_option maxRecDepth 8000 in
set_option maxHeartbeats 1000000 in
theorem tok_word (l : List UInt8) (i : Nat) (hi : i < l.length) (hl : l.length ≤ 9000) (h : letter l[i] = true) (w : World) :
    Calls Tryd.prog 21 #[.string ⟨l.toArray⟩, .int .i64 i] w fun e w' => e = .returned (.tuple #[.agg #[.int .i64 i, .string ⟨(cut l i (stop letter l i)).toArray⟩, .bool false, .int .i64 0], .bool true]) ∧ Quiet w w' := by
  have hz := bytes_size l
  have hs : i < (ByteArray.mk l.toArray).size := by omega
  have E0 := fun w => end_letter l i w hl (by omega)
  have E1 := fun w => piece_any l i (stop letter l i) (le_stop letter l i) (stop_le letter l i (by omega)) hl w
  generalize cut l i (stop letter l i) = t at *
  generalize stop letter l i = S at *
  have hx : 97 ≤ l[i].toNat := by simp [letter, letterZ] at h; omega
  generalize hc : l[i] = c at *
  have hcc : ((ByteArray.mk l.toArray)[i]'hs) = c := hc
  clear hc
  have g0 : ¬ (c.toNat : Int) = 40 := by omega
  have bg0 : ((c.toNat : Int) == 40) = false := by simpa using g0
  have g1 : ¬ (c.toNat : Int) = 41 := by omega
  have bg1 : ((c.toNat : Int) == 41) = false := by simpa using g1
  have g2 : letterZ (c.toNat : Int) = true := h
  clear h hx
  go_enter Tryd.func21, Tryd.ntmps21
  go_wp2_with (first
    | (go_at_call 35; refine (E1 _).mono ?_; rintro e w1 ⟨rfl, q1⟩; have hx := box_stays q1; obtain ⟨c0, c1, c2, c3⟩ := box4 hx; have hf := box_free hx)
    | (go_at_call 19; refine (E0 _).mono ?_; rintro e w' ⟨rfl, rfl⟩)
    | (go_at_call 36; refine (letter_any _ _).mono ?_; rintro e w' ⟨rfl, rfl⟩))
  exact bodyPost_ret (v := .tuple #[.agg #[.int .i64 i, .string ⟨t.toArray⟩, .bool false, .int .i64 0], .bool true]) (by simp [results, Tryd.results21, go_sem, c0, c1, c2, c3]) rfl ⟨rfl, set4 q1 _ _ _ _⟩
theorem num_is_some {l : List UInt8} {i : Nat} (hi : i < l.length) (hl : l.length ≤ 9000) {t : Tk} (h : numAt l i = some t) : NumIs l i t.pos t.text t.num t.n true := by
  unfold numAt at h
  have s1 := le_stop digit l (i + 1)
  have s2 := stop_le digit l (i + 1) (by omega)
  obtain ⟨n, hn, rfl⟩ := Option.map_eq_some_iff.1 h
  obtain ⟨h1, h2⟩ := longOf_ok hn
  exact ⟨fun w hw => num_yes l i _ n hi hl rfl (by omega) s2 _ rfl (by rw [cut_len _ _ _ s2]; omega) h1 h2 w hw⟩
theorem num_is_none {l : List UInt8} {i : Nat} (hi : i < l.length) (hl : l.length ≤ 9000) (h : numAt l i = none) : NumIs l i 0 [] false 0 false := by
  unfold numAt at h
  have s1 := le_stop digit l (i + 1)
  have s2 := stop_le digit l (i + 1) (by omega)
  exact ⟨fun w hw => num_no l i _ hi hl rfl (by omega) s2 _ rfl (by rw [cut_len _ _ _ s2]; omega) (hid (by simpa using h)) w hw⟩
/-- The token that begins at a byte. -/
theorem tok_some (l : List UInt8) (i : Nat) (hi : i < l.length) (hl : l.length ≤ 9000) (t : Tk) (h : tokAt l i = some t) (w : World) (hw : Laid w) :
    Calls Tryd.prog 21 #[.string ⟨l.toArray⟩, .int .i64 i] w fun e w' => e = .returned (.tuple #[.agg #[.int .i64 t.pos, .string ⟨t.text.toArray⟩, .bool t.num, .int .i64 t.n], .bool true]) ∧ Quiet w w' := by
  unfold tokAt at h
  rw [List.getElem?_eq_getElem hi] at h
  simp only at h
  split at h
  · rename_i hb
    cases h
    exact tok_bracket l i hi hl hb w
  · split at h
    · rename_i hb
      cases h
      exact tok_word l i hi hl hb w
    · split at h
      · rename_i hb
        exact tok_num l i hi hb _ _ _ _ _ (num_is_some hi hl h) w hw
      · cases h
theorem tok_none (l : List UInt8) (i : Nat) (hi : i < l.length) (hl : l.length ≤ 9000) (h : tokAt l i = none) (w : World) (hw : Laid w) :
    Calls Tryd.prog 21 #[.string ⟨l.toArray⟩, .int .i64 i] w fun e w' => e = .returned (.tuple #[.agg #[.int .i64 0, .string ⟨#[]⟩, .bool false, .int .i64 0], .bool false]) ∧ Quiet w w' := by
  unfold tokAt at h
  rw [List.getElem?_eq_getElem hi] at h
  simp only at h
  split at h
  · cases h
  · rename_i h0
    split at h
    · cases h
    · rename_i h1
      split at h
      · rename_i hb
        exact tok_num l i hi hb _ _ _ _ _ (num_is_none hi hl h) w hw
      · rename_i h2
        exact tok_not l i hi (fun e => h0 (.inl e)) (fun e => h0 (.inr e)) (by simpa using h1) (fun e => h2 (.inl e)) (by simpa using fun e => h2 (.inr e)) w
end Go.Proofs.YthogejofkodmkacDoor
