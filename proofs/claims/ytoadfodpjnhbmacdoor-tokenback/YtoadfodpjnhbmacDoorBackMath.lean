/- The texts of tokens with blanks between are the same tokens again: plain mathematics. -/
import Derived.Test.YtoadfodpjnhbmacDoorTMath
namespace Go.Proofs.YtoadfodpjnhbmacDoor
/-- What a token is. -/
def good (t : Tk) : Prop :=
  ((t.text = [40] ∨ t.text = [41]) ∧ t.num = false ∧ t.n = 0) ∨ (t.text ≠ [] ∧ (∀ c ∈ t.text, letter c = true) ∧ t.num = false ∧ t.n = 0) ∨
  (∃ c ds, t.text = c :: ds ∧ (c.toNat = 45 ∨ digit c = true) ∧ (∀ d ∈ ds, digit d = true) ∧ longOf t.text = some t.n ∧ t.num = true)
theorem while_take {α : Type} (p : α → Bool) (m : List α) : m.take (m.takeWhile p).length = m.takeWhile p := by
  induction m with
  | nil => rfl
  | cons a m ih =>
    rw [List.takeWhile_cons]
    split
    · simp [ih]
    · rfl
theorem while_all {α : Type} (p : α → Bool) (m : List α) : ∀ c ∈ m.takeWhile p, p c = true := by
  induction m with
  | nil => intro c hc; cases hc
  | cons a m ih =>
    rw [List.takeWhile_cons]
    split
    · rename_i h
      intro c hc
      rcases List.mem_cons.1 hc with rfl | hc
      · exact h
      · exact ih c hc
    · intro c hc; cases hc
theorem while_app {α : Type} (p : α → Bool) (m r : List α) (b : α) (h : ∀ c ∈ m, p c = true) (hb : p b = false) : (m ++ b :: r).takeWhile p = m := by
  induction m with
  | nil => simp [hb]
  | cons a m ih =>
    rw [List.cons_append, List.takeWhile_cons, if_pos (h a (by simp)), ih fun c hc => h c (by simp [hc])]
theorem cut_drop (l : List UInt8) (a n : Nat) : cut l a (a + n) = (l.drop a).take n := by
  unfold cut; rw [List.drop_take]; congr 1; omega
theorem cut_stop (p : UInt8 → Bool) (l : List UInt8) (i : Nat) : cut l i (stop p l i) = (l.drop i).takeWhile p := by
  unfold stop; rw [cut_drop, while_take]
theorem cut_stop1 (p : UInt8 → Bool) (l : List UInt8) (i : Nat) (hi : i < l.length) : cut l i (stop p l (i + 1)) = l[i] :: (l.drop (i + 1)).takeWhile p := by
  unfold stop
  rw [show i + 1 + ((l.drop (i + 1)).takeWhile p).length = i + (1 + ((l.drop (i + 1)).takeWhile p).length) by omega, cut_drop, List.drop_eq_getElem_cons hi, Nat.add_comm 1, List.take_succ_cons, while_take]
theorem tokAt_good {l : List UInt8} {i : Nat} {t : Tk} (h : tokAt l i = some t) : good t := by
  have hi := (tokAt_some h).1
  unfold tokAt at h
  rw [List.getElem?_eq_getElem hi] at h
  simp only at h
  split at h
  · rename_i hc
    cases h
    refine .inl ⟨?_, rfl, rfl⟩
    simp only
    rw [cut_drop, List.drop_eq_getElem_cons hi, List.take_succ_cons, List.take_zero]
    rcases hc with hc | hc
    · exact .inl (by rw [show l[i] = 40 from UInt8.toNat_inj.1 hc])
    · exact .inr (by rw [show l[i] = 41 from UInt8.toNat_inj.1 hc])
  · split at h
    · rename_i hc
      cases h
      refine .inr (.inl ⟨?_, ?_, rfl, rfl⟩)
      · simp only
        rw [cut_stop, List.drop_eq_getElem_cons hi, List.takeWhile_cons, if_pos hc]
        simp
      · simp only
        rw [cut_stop]
        exact while_all _ _
    · split at h
      · rename_i hc
        unfold numAt at h
        obtain ⟨n, hn, rfl⟩ := Option.map_eq_some_iff.1 h
        refine .inr (.inr ⟨l[i], (l.drop (i + 1)).takeWhile digit, ?_, hc, while_all _ _, hn, rfl⟩)
        exact cut_stop1 digit l i hi
      · cases h
theorem scanN_good (l : List UInt8) : ∀ (f i : Nat) (acc : List Tk), (∀ t ∈ acc, good t) → ∀ t ∈ (scanN l f i acc).1, good t := by
  intro f
  induction f with
  | zero => intro i acc h; exact h
  | succ f ih =>
    intro i acc h
    rw [scanN]
    split
    · cases ht : tokAt l (stop blank l i) with
      | none => intro t h; cases h
      | some t =>
        refine ih _ _ fun u hu => ?_
        rcases List.mem_append.1 hu with hu | hu
        · exact h u hu
        · rw [List.mem_singleton.1 hu]; exact tokAt_good ht
    · exact h
/-- How long the texts are together. -/
def total (ts : List Tk) : Nat := (ts.map fun t => t.text.length).sum
theorem total_app (a b : List Tk) : total (a ++ b) = total a + total b := by simp [total]
theorem scanN_total (l : List UInt8) : ∀ (f i : Nat) (acc : List Tk), i ≤ l.length → total acc ≤ i → total (scanN l f i acc).1 ≤ l.length := by
  intro f
  induction f with
  | zero => intro i acc h1 h2; exact Nat.le_trans h2 h1
  | succ f ih =>
    intro i acc h1 h2
    rw [scanN]
    split
    · cases ht : tokAt l (stop blank l i) with
      | none => exact Nat.zero_le _
      | some t =>
        have h3 := tokAt_some ht
        have h4 := le_stop blank l i
        refine ih _ _ h3.2.2.2 ?_
        rw [total_app]
        have : total [t] = t.text.length := by simp [total]
        omega
    · exact Nat.le_trans h2 h1
theorem scan_good (l : List UInt8) : ∀ t ∈ (scan l).1, good t := by
  unfold scan
  split
  · intro t h; cases h
  · exact scanN_good l _ _ _ fun t h => by cases h
theorem scan_total (l : List UInt8) : total (scan l).1 ≤ l.length := by
  unfold scan
  split
  · exact Nat.zero_le _
  · exact scanN_total l _ _ _ (Nat.zero_le _) (Nat.le_refl _)
theorem good_len {t : Tk} (h : good t) : 1 ≤ t.text.length := by
  rcases h with ⟨h | h, _⟩ | ⟨h, _⟩ | ⟨c, ds, h, _⟩
  · rw [h]; decide
  · rw [h]; decide
  · exact List.length_pos_iff.2 h
  · rw [h]; simp
/-- With blanks between. -/
def back (ts : List Tk) : List UInt8 := ts.flatMap fun t => t.text ++ [32, 10]
theorem back_app (a b : List Tk) : back (a ++ b) = back a ++ back b := by simp [back]
theorem back_one (t : Tk) : back [t] = t.text ++ [32, 10] := by simp [back]
theorem back_len (ts : List Tk) : (back ts).length = total ts + 2 * ts.length := by
  induction ts with
  | nil => rfl
  | cons t ts ih =>
    rw [show t :: ts = [t] ++ ts from rfl, back_app, List.length_append, ih, total_app, back_one]
    simp [total]; omega
theorem total_len {ts : List Tk} (h : ∀ t ∈ ts, good t) : ts.length ≤ total ts := by
  induction ts with
  | nil => exact Nat.zero_le _
  | cons t ts ih =>
    have h1 := good_len (h t (by simp))
    have h2 := ih fun u hu => h u (by simp [hu])
    rw [show t :: ts = [t] ++ ts from rfl, total_app]
    have : total [t] = t.text.length := by simp [total]
    simp; omega
/-- The same tokens, where they stand then. -/
def shift : Nat → List Tk → List Tk
  | _, [] => []
  | p, t :: ts => ⟨p, t.text, t.num, t.n⟩ :: shift (p + t.text.length + 2) ts
theorem shift_len (ts : List Tk) : ∀ p, (shift p ts).length = ts.length := by
  induction ts with
  | nil => intro p; rfl
  | cons t ts ih => intro p; rw [shift, List.length_cons, List.length_cons, ih]
theorem shift_get (ts : List Tk) : ∀ p i (h : i < ts.length) (h' : i < (shift p ts).length), (shift p ts)[i].text = ts[i].text ∧ (shift p ts)[i].num = ts[i].num ∧ (shift p ts)[i].n = ts[i].n := by
  induction ts with
  | nil => intro p i h; simp at h
  | cons t ts ih =>
    intro p i h h'
    cases i with
    | zero => exact ⟨rfl, rfl, rfl⟩
    | succ i => exact ih _ i (by simpa using h) (by simpa [shift] using h')
theorem stop_app (p : UInt8 → Bool) (pre x : List UInt8) : stop p (pre ++ x) pre.length = pre.length + (x.takeWhile p).length := by
  unfold stop; rw [List.drop_left]
theorem stop_app1 (p : UInt8 → Bool) (pre : List UInt8) (c : UInt8) (x : List UInt8) : stop p (pre ++ c :: x) (pre.length + 1) = pre.length + 1 + (x.takeWhile p).length := by
  unfold stop
  rw [show pre ++ c :: x = (pre ++ [c]) ++ x by simp, show pre.length + 1 = (pre ++ [c]).length by simp, List.drop_left]
theorem cut_app (pre x : List UInt8) (n : Nat) : cut (pre ++ x) pre.length (pre.length + n) = x.take n := by rw [cut_drop, List.drop_left]
theorem get_app (pre : List UInt8) (c : UInt8) (x : List UInt8) : (pre ++ c :: x)[pre.length]? = some c := by simp
/-- A token's text, and a blank behind it, is that token. -/
theorem tokAt_back (pre r : List UInt8) (t : Tk) (h : good t) : tokAt (pre ++ (t.text ++ 32 :: r)) pre.length = some ⟨pre.length, t.text, t.num, t.n⟩ ∧ ∃ c x, t.text ++ 32 :: r = c :: x ∧ blank c = false := by
  obtain ⟨pos, text, num, n⟩ := t
  simp only [good] at h
  simp only
  rcases h with ⟨h, rfl, rfl⟩ | ⟨h, h1, rfl, rfl⟩ | ⟨c, ds, h, h1, h2, h3, rfl⟩
  · rcases h with rfl | rfl
    · refine ⟨?_, 40, 32 :: r, rfl, rfl⟩
      rw [List.singleton_append, tokAt, get_app]
      simp only
      rw [if_pos (.inl rfl), cut_app]
      rfl
    · refine ⟨?_, 41, 32 :: r, rfl, rfl⟩
      rw [List.singleton_append, tokAt, get_app]
      simp only
      rw [if_pos (.inr rfl), cut_app]
      rfl
  · obtain ⟨c, x, rfl⟩ := List.exists_cons_of_ne_nil h
    have hc := h1 c (by simp)
    have hc2 : 97 ≤ c.toNat := by simp [letter, letterZ] at hc; omega
    refine ⟨?_, c, x ++ 32 :: r, rfl, ?_⟩
    · rw [tokAt, List.cons_append, get_app]
      simp only
      rw [if_neg (by omega), if_pos hc, ← List.cons_append, stop_app, while_app letter (c :: x) r 32 h1 rfl, cut_app, List.take_left]
    · simp [blank, blankZ]; omega
  · subst h
    have hc : 45 ≤ c.toNat ∧ c.toNat ≤ 57 := by
      rcases h1 with h | h
      · omega
      · simp [digit, digitZ] at h; omega
    refine ⟨?_, c, ds ++ 32 :: r, rfl, ?_⟩
    · rw [tokAt, List.cons_append, get_app]
      simp only
      rw [if_neg (by omega), if_neg (by simp [letter, letterZ]; omega), if_pos h1, numAt, stop_app1, while_app digit ds r 32 h2 rfl, Nat.add_assoc, cut_app, ← List.cons_append]
      rw [show 1 + ds.length = (c :: ds).length by simp; omega, List.take_left, h3]
      rfl
    · simp [blank, blankZ]; omega
theorem scan_back (ts : List Tk) : ∀ (pre : List UInt8) (acc : List Tk), (∀ t ∈ ts, good t) → scanFrom (pre ++ back ts) pre.length acc = (acc ++ shift pre.length ts, 0, 0) := by
  induction ts with
  | nil =>
    intro pre acc _
    rw [scanFrom_end acc (by rw [stop_app]; simp [back])]
    simp [shift]
  | cons t ts ih =>
    intro pre acc h
    have hb : back (t :: ts) = t.text ++ 32 :: (10 :: back ts) := by rw [show t :: ts = [t] ++ ts from rfl, back_app, back_one]; simp
    obtain ⟨h1, c, x, h2, h3⟩ := tokAt_back pre (10 :: back ts) t (h t (by simp))
    rw [hb]
    have hs : stop blank (pre ++ (t.text ++ 32 :: (10 :: back ts))) pre.length = pre.length := by rw [stop_app, h2, List.takeWhile_cons, if_neg (by simp [h3])]; rfl
    rw [scanFrom_tok (t := ⟨pre.length, t.text, t.num, t.n⟩) acc (by rw [hs]; simp; omega) (by rw [hs]; exact h1), hs]
    simp only
    have e1 : pre ++ (t.text ++ 32 :: (10 :: back ts)) = (pre ++ t.text) ++ 32 :: (10 :: back ts) := by simp
    have e2 : pre ++ (t.text ++ 32 :: (10 :: back ts)) = (pre ++ t.text ++ [32]) ++ 10 :: back ts := by simp
    have e3 : pre ++ (t.text ++ 32 :: (10 :: back ts)) = (pre ++ t.text ++ [32, 10]) ++ back ts := by simp
    have g : ∀ (L : List UInt8) (i : Nat) (b : UInt8) (a : List Tk), L[i]? = some b → blank b = true → scanFrom L i a = scanFrom L (i + 1) a := by
      intro L i b a hL hb
      obtain ⟨hi, rfl⟩ := List.getElem?_eq_some_iff.1 hL
      exact scanFrom_blank a hi hb
    rw [g _ _ 32 _ (by rw [e1, ← List.length_append, get_app]) rfl]
    rw [g _ _ 10 _ (by rw [e2, show pre.length + t.text.length + 1 = (pre ++ t.text ++ [32]).length by simp; omega, get_app]) rfl]
    rw [e3, show pre.length + t.text.length + 1 + 1 = (pre ++ t.text ++ [32, 10]).length by simp; omega, ih _ _ fun u hu => h u (by simp [hu])]
    simp [shift, Nat.add_assoc]
theorem scan_of_back (l : List UInt8) (hl : l.length ≤ 2000) : (back (scan l).1).length ≤ 6000 ∧ scan (back (scan l).1) = (shift 0 (scan l).1, 0, 0) := by
  have h1 := scan_good l
  have h2 := scan_total l
  have h3 := total_len h1
  have h4 := back_len (scan l).1
  have h5 : (back (scan l).1).length ≤ 6000 := by omega
  refine ⟨h5, ?_⟩
  rw [scan, if_neg (by omega)]
  have := scan_back (scan l).1 [] [] h1
  simpa using this
end Go.Proofs.YtoadfodpjnhbmacDoor
