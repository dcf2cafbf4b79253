/- The document's own answers: the same numbers? the text of a value. -/
import Derived.Test.YtekkecnhnaejlabDoorRefTell4
import Derived.Deep.QuietTactic
namespace Go.Proofs.YtekkecnhnaejlabDoor
open Go.ChangeShapes Go.WideShapes Go.ChangeAt Go.RowKit
theorem ints_at {w : World} {B : Nat} {v : Value} {l : List Int} (h : w.ownsRow B 3 1 v l.length (ints l)) (k : Nat) (hk : k < l.length) : ∃ g, v = .slice (some ⟨g, 0, none⟩) l.length (match v with | .slice _ _ c => c | _ => 0) ∧ w.cell? ⟨g, k, none⟩ = some (.int .i64 l[k]) := by
  obtain ⟨g, cap, rfl⟩ := lies_shape h (by omega)
  obtain ⟨g', e, d⟩ := owns_at h (by omega)
  cases e
  refine ⟨g, rfl, ?_⟩
  rw [d k (by omega)]
  simp [ints, hk]
theorem sameInts_any (l : List Int) (a1 a2 : Option Addr) (n1 n2 B1 B2 : Nat) (w : World) (h1 : w.ownsRow B1 3 1 (.slice a1 l.length n1) l.length (ints l)) (h2 : w.ownsRow B2 3 1 (.slice a2 l.length n2) l.length (ints l)) (hl : l.length ≤ 1000) :
    Calls Tryd.prog 14 #[.slice a1 l.length n1, .slice a2 l.length n2] w fun e w' => e = .returned (.bool true) ∧ Quiet w w' := by
  have H1 := hid h1
  have H2 := hid h2
  clear h1 h2
  go_enter Tryd.func14, Tryd.ntmps14
  go_wp2
  go_loopw [5] (fun i w' => Quiet w w' ∧ ∃ k : Nat, k ≤ l.length ∧ i = .int .i64 k) (fun i _ => l.length - (intOf i).toNat)
  case atStart => exact ⟨Kp.refl _ _, 0, Nat.zero_le _, rfl⟩
  case round =>
    obtain ⟨hk, k, hkl, rfl⟩ := hrel
    by_cases hlt : k < l.length
    · obtain ⟨g1, e1, c1⟩ := ints_at (hk.row H1.out fun _ _ e => e) k hlt
      obtain ⟨g2, e2, c2⟩ := ints_at (hk.row H2.out fun _ _ e => e) k hlt
      simp only [Value.slice.injEq, and_true] at e1 e2
      obtain rfl := e1
      obtain rfl := e2
      have K := hid hk
      clear hk
      generalize l[k] = y at *
      go_wp2
      go_quiet (fail)
      go_wp2
      exact ⟨⟨K.out.trans (Kp.drewN _ _), k + 1, by omega, by go_num⟩, by simp [intOf]; omega⟩
    · go_wp2
      go_ret
      exact ⟨rfl, hk⟩
theorem texts_snoc (l : List V) (x : V) (h : l ≠ []) : texts (l ++ [x]) = texts l ++ 32 :: x.text := by
  induction l with
  | nil => exact absurd rfl h
  | cons y l ih =>
    cases l with
    | nil => rw [List.cons_append, List.nil_append, texts_two, texts_one, texts_one]
    | cons z l =>
      rw [List.cons_append, List.cons_append, texts_two, ← List.cons_append, ih (by simp), texts_two]
      simp
theorem texts_take (l : List V) (j : Nat) (hj : j < l.length) : texts (l.take (j + 1)) = if j = 0 then l[j].text else texts (l.take j) ++ 32 :: l[j].text := by
  rw [List.take_add_one, List.getElem?_eq_getElem hj]
  by_cases h : j = 0
  · subst h; simp [texts_one]
  · rw [if_neg h]
    exact texts_snoc _ _ (by intro e; have := congrArg List.length e; simp at this; rcases this with e | e <;> simp_all)
/-- What ValText tells. -/
def TextR (v : V) : Prop := ∀ (ao : Option Addr) (cap : Nat) (w : World), Tab w → Is w v ao → v.size ≤ 500 →
    Calls Tryd.prog 20 #[.agg #[.int .i64 v.kind, .int .i64 v.n, .slice ao v.l.length cap]] w fun e w' => e = .returned (.string ⟨v.text.toArray⟩) ∧ Quiet w w'
theorem ba_one (c : UInt8) : (ByteArray.mk #[c]) = ByteArray.mk [c].toArray := rfl
set_option maxHeartbeats 2000000 in
theorem textR_any (v : V) : TextR v := by
  induction v using V.ind with
  | h k n l ih =>
    intro ao cap w ht hI hS
    have hlen : l.length ≤ 500 := by have := sizes_len l; rw [size_mk] at hS; omega
    have hSl : sizes l ≤ 499 := by rw [size_mk] at hS; omega
    have hsz : ∀ j (h : j < l.length), l[j].size ≤ 500 := fun j h => by have := size_get l j h; omega
    have htl : ∀ x ∈ l, x.text.length + 1 ≤ 32 * x.size := fun x hx => by obtain ⟨ax, hx'⟩ := hI.kid hx; exact text_len w x ax hx'
    have hn := hI.fit.2
    have hnl := itoa_len hn
    simp only at hn hnl
    have q1 : Quiet w (w.alloc (.cells #[.int .i64 k, .int .i64 n, .slice ao l.length cap] 24)) := Kp.alloc _ _
    have t1 := ht.quiet q1
    have HI := hid (And.intro hI (And.intro ih hsz))
    have HT := hid htl
    have hb1 := hid (heap_alloc_new w (.cells #[.int .i64 k, .int .i64 n, .slice ao l.length cap] 24))
    clear hI ih hsz hS htl
    go_enter Tryd.func20, Tryd.ntmps20
    go_wp2_with (go_at_call 37; refine (fmt_any n hn _ t1).mono ?_; rintro e w2 ⟨rfl, q2⟩)
    go_loopw [4, 5] (fun s i wr => ∃ j : Nat, j ≤ l.length ∧ i = .int .i64 j ∧ s = .string ⟨(texts (l.take j)).toArray⟩ ∧ Quiet w wr ∧ wr.heap[w.heap.size]? = some (.cells #[.int .i64 k, .int .i64 n, .slice ao l.length cap] 24 (0, 0))) (fun _ i _ => l.length - (intOf i).toNat)
    case atStart => exact ⟨0, Nat.zero_le _, rfl, by simp [texts_nil], q1.trans q2, (q2.block _ (lt_of_block hb1.out) fun e => e).trans hb1.out⟩
    case round =>
      obtain ⟨j, hj, rfl, rfl, q, hb⟩ := hrel
      obtain ⟨c0, c1, c2⟩ := box_cells hb
      have HB := hid hb
      have hacc : (texts (l.take j)).length ≤ 16000 := by
        have h1 := texts_len (l := l.take j) fun x hx => HT.out x (List.mem_of_mem_take hx)
        have h2 := sizes_take_le l j
        omega
      clear hb c1
      by_cases hlt : j < l.length
      · obtain ⟨b, off, rfl, d0, d1, ai, ci, d2, hi⟩ := (HI.out.1.quiet q).get3 j hlt
        have HC := hid (HI.out.2.1 l[j] (List.getElem_mem hlt) ai ci wr (ht.quiet q) hi (HI.out.2.2 j hlt))
        have hul : l[j].text.length ≤ 16000 := by have h1 := HT.out l[j] (List.getElem_mem hlt); have h2 := HI.out.2.2 j hlt; omega
        have HN := hid (texts_take l j hlt)
        simp only at d0 d1 d2
        generalize hu : l[j] = u at *
        clear hu hi c0
        by_cases hj0 : j = 0
        · subst hj0
          have HN0 := hid (show texts (l.take 1) = u.text by have := HN.out; rwa [if_pos rfl] at this)
          simp only [Nat.zero_mul, Nat.add_zero] at d0 d1 d2
          rw [List.take_zero, texts_nil]
          clear hacc
          go_wp2_with (go_at_call 20; refine HC.out.mono ?_; rintro e w3 ⟨rfl, q3⟩)
          refine ⟨⟨1, by omega, by go_num, ?_, q.trans q3, (q3.block _ (lt_of_block HB.out) fun e => e).trans HB.out⟩, by simp [intOf]; omega⟩
          rw [HN0.out, show (ByteArray.mk #[]) = ByteArray.mk ([] : List UInt8).toArray from rfl, ba_app]; rfl
        · have hj1 : (0 : Int) < (j : Int) := by omega
          have HN0 := hid (show texts (l.take (j + 1)) = texts (l.take j) ++ 32 :: u.text by have := HN.out; rwa [if_neg hj0] at this)
          go_wp2_with (go_at_call 20; refine HC.out.mono ?_; rintro e w3 ⟨rfl, q3⟩)
          refine ⟨⟨j + 1, by omega, by go_num, ?_, q.trans q3, (q3.block _ (lt_of_block HB.out) fun e => e).trans HB.out⟩, by simp [intOf]; omega⟩
          rw [HN0.out, ba_one, ba_app, ba_app]; simp
      · have hE := hid (show (V.mk k n l).text = if k = 1 then Lib.itoa n else if k = 2 then 40 :: (texts (l.take j) ++ [41]) else if k = 3 then 91 :: (Lib.itoa n ++ 32 :: (texts (l.take j) ++ [93])) else if k = 4 then 35 :: Lib.itoa n else if k = 5 then 33 :: Lib.itoa n else [110, 105, 108] by rw [text_eq, List.take_of_length_le (by omega)])
        generalize texts (l.take j) = tx at *
        by_cases h1 : k = 1
        · subst h1
          go_wp2
          go_ret
          exact ⟨by rw [hE.out]; simp, q⟩
        · by_cases h2 : k = 2
          · subst h2
            go_wp2
            go_ret
            exact ⟨by rw [hE.out]; simp [ba_app], q⟩
          · by_cases h3 : k = 3
            · subst h3
              go_wp2
              go_ret
              exact ⟨by rw [hE.out]; simp [ba_app], q⟩
            · by_cases h4 : k = 4
              · subst h4
                go_wp2
                go_ret
                exact ⟨by rw [hE.out]; simp [ba_app], q⟩
              · by_cases h5 : k = 5
                · subst h5
                  go_wp2
                  go_ret
                  exact ⟨by rw [hE.out]; simp [ba_app], q⟩
                · go_wp2
                  go_ret
                  exact ⟨by rw [hE.out]; simp [h1, h2, h3, h4, h5], q⟩
end Go.Proofs.YtekkecnhnaejlabDoor
