/- What is another value has another text: plain mathematics. -/
import Derived.Test.YtekkecnhnaejlabDoorBegFacts
import Derived.Test.YtekkecnhnaejlabDoorRefFault4
namespace Go.Proofs.YtekkecnhnaejlabDoor
def digB (c : UInt8) : Bool := decide (48 ≤ c.toNat ∧ c.toNat ≤ 57)
/-- A list that does not go on with a digit. -/
def stopB : List UInt8 → Bool
  | [] => true
  | c :: _ => ! digB c
theorem dec_dig (u : Nat) : ∀ c ∈ Lib.decDigits u, digB c = true := by
  induction u using Nat.strongRecOn with
  | _ u ih =>
    rw [Lib.decDigits]
    have hd : ∀ r, r < 10 → digB (UInt8.ofNat (48 + r)) = true := by
      intro r hr
      have : (UInt8.ofNat (48 + r)).toNat = 48 + r := by simp; omega
      unfold digB; rw [this]; exact decide_eq_true (by omega)
    by_cases h : u < 10
    · rw [dif_pos h]
      intro c hc
      rw [List.mem_singleton] at hc
      subst hc
      exact hd u h
    · rw [dif_neg h]
      intro c hc
      rcases List.mem_append.1 hc with hc | hc
      · exact ih (u / 10) (by omega) c hc
      · rw [List.mem_singleton] at hc; subst hc; exact hd _ (by omega)
def valD (l : List UInt8) : Nat := l.foldl (fun a c => a * 10 + (c.toNat - 48)) 0
theorem dec_val (u : Nat) : valD (Lib.decDigits u) = u := by
  induction u using Nat.strongRecOn with
  | _ u ih =>
    rw [Lib.decDigits]
    have hd : ∀ r, r < 10 → (UInt8.ofNat (48 + r)).toNat = 48 + r := by intro r hr; simp; omega
    by_cases h : u < 10
    · rw [dif_pos h]
      simp only [valD, List.foldl_cons, List.foldl_nil, hd u h]; omega
    · rw [dif_neg h]
      have := ih (u / 10) (by omega)
      simp only [valD, List.foldl_append, List.foldl_cons, List.foldl_nil] at this ⊢
      rw [this, hd _ (by omega)]; omega
theorem dec_ne (u : Nat) : Lib.decDigits u ≠ [] := by
  rw [Lib.decDigits]; split <;> simp
/-- Two lists of digits, each behind it something that is none. -/
theorem dig_split {a b r s : List UInt8} (ha : ∀ c ∈ a, digB c = true) (hb : ∀ c ∈ b, digB c = true) (hr : stopB r = true) (hs : stopB s = true) (h : a ++ r = b ++ s) : a = b ∧ r = s := by
  induction a generalizing b with
  | nil =>
    cases b with
    | nil => exact ⟨rfl, h⟩
    | cons y b =>
      exfalso
      simp only [List.nil_append, List.cons_append] at h
      subst h
      simp [stopB, hb y (by simp)] at hr
  | cons x a ih =>
    cases b with
    | nil =>
      exfalso
      simp only [List.nil_append, List.cons_append] at h
      subst h
      simp [stopB, ha x (by simp)] at hs
    | cons y b =>
      simp only [List.cons_append, List.cons.injEq] at h
      obtain ⟨rfl, h⟩ := h
      obtain ⟨e1, e2⟩ := ih (fun c hc => ha c (by simp [hc])) (fun c hc => hb c (by simp [hc])) h
      exact ⟨by rw [e1], e2⟩
theorem itoa_split {n m : Int} {r s : List UInt8} (hr : stopB r = true) (hs : stopB s = true) (h : Lib.itoa n ++ r = Lib.itoa m ++ s) : n = m ∧ r = s := by
  have key : ∀ u v : Nat, Lib.decDigits u ++ r = Lib.decDigits v ++ s → u = v ∧ r = s := by
    intro u v h
    obtain ⟨e1, e2⟩ := dig_split (dec_dig u) (dec_dig v) hr hs h
    have := congrArg valD e1
    rw [dec_val, dec_val] at this
    exact ⟨this, e2⟩
  have hno : ∀ (u : Nat) (x y : List UInt8), 45 :: x ≠ Lib.decDigits u ++ y := by
    intro u x y h
    cases hd : Lib.decDigits u with
    | nil => exact dec_ne u hd
    | cons c l =>
      rw [hd] at h
      simp only [List.cons_append, List.cons.injEq] at h
      have := dec_dig u c (by rw [hd]; simp)
      rw [← h.1] at this
      simp [digB] at this
  unfold Lib.itoa at h
  by_cases hn : n < 0
  · by_cases hm : m < 0
    · rw [if_pos hn, if_pos hm] at h
      simp only [List.cons_append, List.cons.injEq, true_and] at h
      obtain ⟨e1, e2⟩ := key _ _ h
      exact ⟨by omega, e2⟩
    · rw [if_pos hn, if_neg hm] at h
      exact absurd h (hno _ _ _)
  · by_cases hm : m < 0
    · rw [if_neg hn, if_pos hm] at h
      exact absurd h.symm (hno _ _ _)
    · rw [if_neg hn, if_neg hm] at h
      obtain ⟨e1, e2⟩ := key _ _ h
      exact ⟨by omega, e2⟩
/-- The first byte of a number's text. -/
theorem itoa_head (n : Int) : ∃ c l, Lib.itoa n = c :: l ∧ (c = 45 ∨ digB c = true) := by
  unfold Lib.itoa
  have key : ∀ u, ∃ c l, Lib.decDigits u = c :: l ∧ digB c = true := by
    intro u
    cases hd : Lib.decDigits u with
    | nil => exact absurd hd (dec_ne u)
    | cons c l => exact ⟨c, l, rfl, dec_dig u c (by rw [hd]; simp)⟩
  split
  · exact ⟨45, _, rfl, .inl rfl⟩
  · obtain ⟨c, l, e, h⟩ := key n.toNat
    exact ⟨c, l, e, .inr h⟩
/-- What a text begins with tells the kind. -/
def cls (c : UInt8) : Int := if c = 110 then 0 else if c = 40 then 2 else if c = 91 then 3 else if c = 35 then 4 else if c = 33 then 5 else 1
theorem cls_num {c : UInt8} (h : c = 45 ∨ digB c = true) : cls c = 1 := by
  rcases h with rfl | h
  · decide
  · have h' : 48 ≤ c.toNat ∧ c.toNat ≤ 57 := by simpa [digB] using h
    have ne : ∀ k : Nat, k < 256 → (k < 48 ∨ 57 < k) → c ≠ UInt8.ofNat k := by
      intro k hk hk2 e
      have e2 := congrArg UInt8.toNat e
      have e3 : (UInt8.ofNat k).toNat = k := by simp; omega
      omega
    unfold cls
    rw [if_neg (show ¬ c = 110 from ne 110 (by decide) (by decide)), if_neg (show ¬ c = 40 from ne 40 (by decide) (by decide)), if_neg (show ¬ c = 91 from ne 91 (by decide) (by decide)), if_neg (show ¬ c = 35 from ne 35 (by decide) (by decide)), if_neg (show ¬ c = 33 from ne 33 (by decide) (by decide))]
/-- The forms of a value. -/
theorem shape {v : V} (h : v.fault = 0) : v = ⟨0, 0, []⟩ ∨ (∃ n, v = ⟨1, n, []⟩) ∨ (∃ x y, v = ⟨2, 0, [x, y]⟩ ∧ x.fault = 0 ∧ y.fault = 0) ∨ (∃ n x, v = ⟨3, n, [x]⟩ ∧ x.fault = 0) ∨ (∃ n, v = ⟨4, n, []⟩) ∨ (∃ n, v = ⟨5, n, []⟩) := by
  obtain ⟨k, n, l⟩ := v
  obtain ⟨p, hp, hl, h1, h2⟩ := fault1_zero (fault_one h)
  have hk : ∀ x ∈ l, x.fault = 0 := by
    intro x hx
    obtain ⟨i, hi, rfl⟩ := List.getElem_of_mem hx
    exact fault_get h i hi
  rcases parts_cases hp with ⟨rfl, rfl⟩ | ⟨rfl, rfl⟩ | ⟨rfl, rfl⟩ | ⟨rfl, rfl⟩ | ⟨rfl, rfl⟩ | ⟨rfl, rfl⟩
  · obtain rfl : n = 0 := by simpa using h1
    match l, hl with
    | [x, y], _ => exact .inr (.inr (.inl ⟨x, y, rfl, hk x (by simp), hk y (by simp)⟩))
  · match l, hl with
    | [x], _ => exact .inr (.inr (.inr (.inl ⟨n, x, rfl, hk x (by simp)⟩)))
  · obtain rfl : n = 0 := by simpa using h1
    obtain rfl := List.eq_nil_of_length_eq_zero hl
    exact .inl rfl
  · obtain rfl := List.eq_nil_of_length_eq_zero hl
    exact .inr (.inl ⟨n, rfl⟩)
  · obtain rfl := List.eq_nil_of_length_eq_zero hl
    exact .inr (.inr (.inr (.inr (.inl ⟨n, rfl⟩))))
  · obtain rfl := List.eq_nil_of_length_eq_zero hl
    exact .inr (.inr (.inr (.inr (.inr ⟨n, rfl⟩))))
theorem text_head {v : V} (h : v.fault = 0) : ∃ c l, v.text = c :: l ∧ cls c = v.kind := by
  rcases shape h with rfl | ⟨n, rfl⟩ | ⟨x, y, rfl, _⟩ | ⟨n, x, rfl, _⟩ | ⟨n, rfl⟩ | ⟨n, rfl⟩
  · exact ⟨_, _, text_nil _ _, show cls 110 = 0 by decide⟩
  · obtain ⟨c, l, e, hc⟩ := itoa_head n
    exact ⟨c, l, by rw [text_int, e], cls_num hc⟩
  · exact ⟨_, _, text_pair _ _, show cls 40 = 2 by decide⟩
  · exact ⟨_, _, text_seal _ _, show cls 91 = 3 by decide⟩
  · exact ⟨_, _, text_cap _ _, show cls 35 = 4 by decide⟩
  · exact ⟨_, _, text_gate _ _, show cls 33 = 5 by decide⟩
theorem stop_cons {c : UInt8} {l : List UInt8} (h : digB c = false) : stopB (c :: l) = true := by simp [stopB, h]
theorem text_split (m : Nat) : ∀ (v u : V) (r s : List UInt8), v.size ≤ m → v.fault = 0 → u.fault = 0 → stopB r = true → stopB s = true → v.text ++ r = u.text ++ s → v = u ∧ r = s := by
  induction m with
  | zero => intro v _ _ _ h; have := size_pos v; omega
  | succ m ih =>
    intro v u r s hm hv hu hr hs h
    have hkind : v.kind = u.kind := by
      obtain ⟨c, l, e, hc⟩ := text_head hv
      obtain ⟨c', l', e', hc'⟩ := text_head hu
      rw [e, e'] at h
      simp only [List.cons_append, List.cons.injEq] at h
      rw [← hc, ← hc', h.1]
    rcases shape hv with rfl | ⟨n, rfl⟩ | ⟨x, y, rfl, hx, hy⟩ | ⟨n, x, rfl, hx⟩ | ⟨n, rfl⟩ | ⟨n, rfl⟩ <;> rcases shape hu with rfl | ⟨n', rfl⟩ | ⟨x', y', rfl, hx', hy'⟩ | ⟨n', x', rfl, hx'⟩ | ⟨n', rfl⟩ | ⟨n', rfl⟩ <;> first | (exfalso; simp at hkind; done) | skip
    · rw [text_nil] at h
      simp only [List.cons_append, List.nil_append, List.cons.injEq, true_and] at h
      exact ⟨rfl, h⟩
    · rw [text_int, text_int] at h
      obtain ⟨rfl, e⟩ := itoa_split hr hs h
      exact ⟨rfl, e⟩
    · rw [text_pair, text_pair, texts_two, texts_two, texts_one, texts_one] at h
      simp only [List.cons_append, List.append_assoc, List.cons.injEq, true_and, List.nil_append] at h
      rw [size_mk, sizes_cons, sizes_cons, sizes_nil] at hm
      obtain ⟨rfl, h2⟩ := ih x x' _ _ (by omega) hx hx' (stop_cons (by decide)) (stop_cons (by decide)) h
      simp only [List.cons.injEq, true_and] at h2
      obtain ⟨rfl, h3⟩ := ih y y' _ _ (by omega) hy hy' (stop_cons (by decide)) (stop_cons (by decide)) h2
      simp only [List.cons.injEq, true_and] at h3
      exact ⟨rfl, h3⟩
    · rw [text_seal, text_seal, texts_one, texts_one] at h
      simp only [List.cons_append, List.append_assoc, List.cons.injEq, true_and, List.nil_append] at h
      rw [size_mk, sizes_cons, sizes_nil] at hm
      obtain ⟨rfl, h2⟩ := itoa_split (stop_cons (by decide)) (stop_cons (by decide)) h
      simp only [List.cons.injEq, true_and] at h2
      obtain ⟨rfl, h3⟩ := ih x x' _ _ (by omega) hx hx' (stop_cons (by decide)) (stop_cons (by decide)) h2
      simp only [List.cons.injEq, true_and] at h3
      exact ⟨rfl, h3⟩
    · rw [text_cap, text_cap] at h
      simp only [List.cons_append, List.cons.injEq, true_and] at h
      obtain ⟨rfl, e⟩ := itoa_split hr hs h
      exact ⟨rfl, e⟩
    · rw [text_gate, text_gate] at h
      simp only [List.cons_append, List.cons.injEq, true_and] at h
      obtain ⟨rfl, e⟩ := itoa_split hr hs h
      exact ⟨rfl, e⟩
/-- What is another value has another text. -/
theorem text_apart {v u : V} (hv : v.check = 0) (hu : u.check = 0) : v.text = u.text ↔ v = u := by
  constructor
  · intro h
    exact (text_split v.size v u [] [] (Nat.le_refl _) (check_fault hv) (check_fault hu) rfl rfl (by rw [h])).1
  · rintro rfl; rfl
end Go.Proofs.YtekkecnhnaejlabDoor
