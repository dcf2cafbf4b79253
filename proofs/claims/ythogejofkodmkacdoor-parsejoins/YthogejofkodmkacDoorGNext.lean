/- The reader's smallest steps: the next token, where it begins, giving up; a token that must be so. A token that must be so; a number; a small number. The words of kinds and arithmetics, as the program keeps them and as the document lists them. -/
import Derived.Test.YthogejofkodmkacDoorGBase
import Derived.WalkLawsBesides
import Derived.Laws.ResultCell
import Derived.Test.YthogejofkodmkacDoorGPlain
namespace Go.Proofs.YthogejofkodmkacDoor
open Go.ChangeShapes Go.WideShapes Go.ChangeAt Go.RowKit
theorem give_any (c a : Int) (w : World) : Calls Tryd.prog 73 #[.int .i64 c, .int .i64 a] w fun e w' => e = .panicked (gave (c, a)) ∧ w' = w := by
  go_enter Tryd.func73, Tryd.ntmps73
  go_wp2
  exact ⟨rfl, rfl, rfl⟩
theorem at_any (e : Int) (rb : Nat) (ts : List Tk) (w : World) (h : RS w rb e ts) : Calls Tryd.prog 74 #[.pointer (some ⟨rb, 0, none⟩)] w fun e' w' => e' = .returned (.int .i64 (atT e ts)) ∧ w' = w := by
  obtain ⟨ao, cap, hb, ht, hc⟩ := h
  obtain ⟨b0, b1⟩ := box2 hb
  cases ts with
  | nil =>
    simp only [List.length_nil] at b0
    go_enter Tryd.func74, Tryd.ntmps74
    go_wp2
    go_ret
    exact ⟨rfl, rfl⟩
  | cons t ts =>
    obtain ⟨g, off, rfl, hg, h0, h1, h2, h3⟩ := ht.first
    simp only [List.length_cons] at b0
    go_enter Tryd.func74, Tryd.ntmps74
    go_wp2
    go_ret
    exact ⟨rfl, rfl⟩
theorem next_none (e : Int) (rb : Nat) (w : World) (h : RS w rb e []) : Calls Tryd.prog 72 #[.pointer (some ⟨rb, 0, none⟩)] w fun e' w' => e' = .panicked (gave (6, e)) ∧ Quiet w w' := by
  obtain ⟨ao, cap, hb, ht, hc⟩ := h
  obtain ⟨b0, b1⟩ := box2 hb
  have hlt := lt_of_block hb
  simp only [List.length_nil] at b0
  go_enter Tryd.func72, Tryd.ntmps72
  go_wp2_with (go_at_call 73; refine (give_any 6 e _).mono ?_; rintro e' w1 ⟨rfl, rfl⟩)
  exact ⟨rfl, rfl, Kp.alloc _ _⟩
theorem rs_step {w : World} {rb : Nat} {e : Int} {ts : List Tk} {ao ao' : Option Addr} {n cap cap' : Nat} (hb : w.heap[rb]? = some (.cells #[.slice ao n cap, .int .i64 e] 55 (0, 0))) (ht : TkAt w rb ts ao') (hc : ts.length ≤ cap') (o1 o2 : Obj) :
    RS (((w.setCell ⟨rb, 0, none⟩ (.slice ao' ts.length cap')).alloc o1).alloc o2) rb e ts ∧ Kr rb w (((w.setCell ⟨rb, 0, none⟩ (.slice ao' ts.length cap')).alloc o1).alloc o2) := by
  have hk : Kr rb w (((w.setCell ⟨rb, 0, none⟩ (.slice ao' ts.length cap')).alloc o1).alloc o2) := ((Kp.setCell (F := fun k => k = rb) w ⟨rb, 0, none⟩ _ rfl).trans (Kp.alloc _ o1)).trans (Kp.alloc _ o2)
  have hlt := lt_of_block hb
  refine ⟨⟨ao', cap', ?_, ht.kept (hk.mono fun k _ e => by omega), hc⟩, hk⟩
  rw [Below.heap_alloc _ _ _ (by simp [World.setCell]; omega), Below.heap_alloc _ _ _ (by simpa [World.setCell] using hlt)]
  simp [World.setCell, Array.getElem?_modify, hb]
theorem next_some (e : Int) (rb : Nat) (t : Tk) (ts : List Tk) (w : World) (h : RS w rb e (t :: ts)) : Calls Tryd.prog 72 #[.pointer (some ⟨rb, 0, none⟩)] w fun e' w' => e' = .returned (.agg #[.int .i64 t.pos, .string ⟨t.text.toArray⟩, .bool t.num, .int .i64 t.n]) ∧ RS w' rb e ts ∧ Kr rb w w' := by
  obtain ⟨ao, cap, hb, ht, hc⟩ := h
  obtain ⟨b0, b1⟩ := box2 hb
  have hlt := lt_of_block hb
  have hf := box_free hb
  obtain ⟨g, off, rfl, hg, h0, h1, h2, h3⟩ := ht.first
  simp only [List.length_cons] at b0 hc
  have hgl : g < w.heap.size := World.block_lt_of_cell? w _ h0
  go_enter Tryd.func72, Tryd.ntmps72
  have HS := hid (fun (ao : Option Addr) (cap' : Nat) (h : TkAt w rb ts ao) (hc' : ts.length ≤ cap') (o1 o2 : Obj) => rs_step (ao' := ao) (cap' := cap') hb h hc' o1 o2)
  have HT := hid ht.tail
  clear hb ht
  go_wp2
  · refine bodyPost_ret (v := .agg #[.int .i64 t.pos, .string ⟨t.text.toArray⟩, .bool t.num, .int .i64 t.n]) (by simp [results, Tryd.results72, go_sem]) rfl ?_
    have hl0 : ts.length ≤ 0 := by omega
    have hT0 : TkAt w rb ts (some ⟨g, off, none⟩) := by
      rw [List.eq_nil_of_length_eq_zero (Nat.le_zero.1 hl0)]; exact TkAt.nil _ _ _
    exact ⟨rfl, HS.out _ _ hT0 hl0 _ _⟩
  · refine bodyPost_ret (v := .agg #[.int .i64 t.pos, .string ⟨t.text.toArray⟩, .bool t.num, .int .i64 t.n]) (by simp [results, Tryd.results72, go_sem]) rfl ?_
    exact ⟨rfl, HS.out _ _ HT.out (by omega) _ _⟩
end Go.Proofs.YthogejofkodmkacDoor
namespace Go.Proofs.YthogejofkodmkacDoor
open Go.ChangeShapes Go.WideShapes Go.ChangeAt Go.RowKit
theorem must_cases (e : Int) (s : List UInt8) (ts : List Tk) : (ts = [] ∧ mustT e s ts = .error (6, e)) ∨ (∃ t r, ts = t :: r ∧ t.text = s ∧ mustT e s ts = .ok ((), r)) ∨ (∃ t r, ts = t :: r ∧ t.text ≠ s ∧ mustT e s ts = .error (5, (t.pos : Int))) := by
  cases ts with
  | nil => exact .inl ⟨rfl, rfl⟩
  | cons t r =>
    by_cases h : t.text = s
    · exact .inr (.inl ⟨t, r, rfl, h, by simp [mustT, nextT, andThen, h]⟩)
    · exact .inr (.inr ⟨t, r, rfl, h, by simp [mustT, nextT, andThen, h]⟩)
theorem skip_ok (e : Int) (rb : Nat) (s : List UInt8) (ts r : List Tk) (u : Unit) (w : World) (h : RS w rb e ts) (hm : mustT e s ts = .ok (u, r)) : Calls Tryd.prog 53 #[.pointer (some ⟨rb, 0, none⟩), .string ⟨s.toArray⟩] w fun e' w' => e' = .returned (.tuple #[]) ∧ RS w' rb e r ∧ Kr rb w w' := by
  obtain ⟨t, rfl, hs⟩ := must_ok hm
  subst hs
  have HN := hid (next_some e rb t r w h)
  clear h hm
  go_enter Tryd.func53, Tryd.ntmps53
  go_wp2_with (go_at_call 72; refine HN.out.mono ?_; rintro e' w1 ⟨rfl, h1, q1⟩)
  go_end0
  exact ⟨rfl, h1.quiet (Kp.alloc _ _), q1.trans (Kp.alloc _ _)⟩
theorem skip_bad (e : Int) (rb : Nat) (s : List UInt8) (ts : List Tk) (x : Int × Int) (w : World) (h : RS w rb e ts) (hm : mustT e s ts = .error x) : Calls Tryd.prog 53 #[.pointer (some ⟨rb, 0, none⟩), .string ⟨s.toArray⟩] w fun e' w' => e' = .panicked (gave x) ∧ Kr rb w w' := by
  rcases must_cases e s ts with ⟨rfl, h1⟩ | ⟨t, r, rfl, h1, h2⟩ | ⟨t, r, rfl, h1, h2⟩
  · rw [h1] at hm
    cases hm
    have HN := hid (next_none e rb w h)
    clear h h1
    go_enter Tryd.func53, Tryd.ntmps53
    go_wp2_with (go_at_call 72; refine HN.out.mono ?_; rintro e' w1 ⟨rfl, q1⟩)
    exact ⟨rfl, rfl, Quiet.kr q1⟩
  · rw [h2] at hm; cases hm
  · rw [h2] at hm
    cases hm
    have HN := hid (next_some e rb t r w h)
    have hne2 : (t.text == s) = false := by simpa using h1
    clear h h2
    go_enter Tryd.func53, Tryd.ntmps53
    go_wp2_with (first
      | (go_at_call 73; refine (give_any 5 (t.pos : Int) _).mono ?_; rintro e' w2 ⟨rfl, rfl⟩)
      | (go_at_call 72; refine HN.out.mono ?_; rintro e' w1 ⟨rfl, h1', q1⟩))
    exact ⟨rfl, rfl, q1.trans (Kp.alloc _ _)⟩
theorem num_cases (e : Int) (ts : List Tk) : (ts = [] ∧ numT e ts = .error (6, e)) ∨ (∃ t r, ts = t :: r ∧ t.num = true ∧ numT e ts = .ok (t, r)) ∨ (∃ t r, ts = t :: r ∧ t.num = false ∧ numT e ts = .error (5, (t.pos : Int))) := by
  cases ts with
  | nil => exact .inl ⟨rfl, rfl⟩
  | cons t r =>
    cases h : t.num with
    | true => exact .inr (.inl ⟨t, r, rfl, h, by simp [numT, nextT, andThen, h]⟩)
    | false => exact .inr (.inr ⟨t, r, rfl, h, by simp [numT, nextT, andThen, h]⟩)
theorem box_new {w : World} (o : Obj) {w' : World} (q : Quiet (w.alloc o) w') : w'.heap[w.heap.size]? = some o := box_stays q
/-- A box of the call's own stays while the reader's alone turns. -/
theorem box_kr {w w' : World} {o : Obj} {rb : Nat} (h : rb < w.heap.size) (q : Kr rb (w.alloc o) w') : w'.heap[w.heap.size]? = some o := by
  rw [q.block w.heap.size (by simp) (by omega)]; exact heap_alloc_new w o
theorem set4k {w w' : World} {o : Obj} {rb : Nat} (q : Kr rb (w.alloc o) w') (a b c d : Value) : Kr rb w ((((w'.setCell ⟨w.heap.size, 0, none⟩ a).setCell ⟨w.heap.size, 1, none⟩ b).setCell ⟨w.heap.size, 2, none⟩ c).setCell ⟨w.heap.size, 3, none⟩ d) :=
  ((Kp.alloc w o).trans q).fresh (((((set1 _ _ 0 a).trans (set1 _ _ 1 b)).trans (set1 _ _ 2 c)).trans (set1 _ _ 3 d)))
theorem rs_set {w w' : World} {rb x o : Nat} {y : Value} {e : Int} {ts : List Tk} (h : RS w rb e ts) (hx : rb < x) (e' : w' = w.setCell ⟨x, o, none⟩ y) : RS w' rb e ts := by
  subst e'
  exact h.above (Kp.setCell w ⟨x, o, none⟩ y hx)
/-- A struct that is told: four cells of the result's box. -/
theorem told4 {w w' : World} {o : Obj} {rb : Nat} {e : Int} {ts : List Tk} (hr : rb < w.heap.size) (q : Kr rb (w.alloc o) w') (h : RS w' rb e ts) (a b c d : Value) :
    RS ((((w'.setCell ⟨w.heap.size, 0, none⟩ a).setCell ⟨w.heap.size, 1, none⟩ b).setCell ⟨w.heap.size, 2, none⟩ c).setCell ⟨w.heap.size, 3, none⟩ d) rb e ts ∧ Kr rb w ((((w'.setCell ⟨w.heap.size, 0, none⟩ a).setCell ⟨w.heap.size, 1, none⟩ b).setCell ⟨w.heap.size, 2, none⟩ c).setCell ⟨w.heap.size, 3, none⟩ d) :=
  ⟨rs_set (rs_set (rs_set (rs_set h hr rfl) hr rfl) hr rfl) hr rfl, set4k q a b c d⟩
theorem number_ok (e : Int) (rb : Nat) (t : Tk) (ts r : List Tk) (w : World) (h : RS w rb e ts) (hm : numT e ts = .ok (t, r)) : Calls Tryd.prog 89 #[.pointer (some ⟨rb, 0, none⟩)] w fun e' w' => e' = .returned (.agg #[.int .i64 t.pos, .string ⟨t.text.toArray⟩, .bool t.num, .int .i64 t.n]) ∧ RS w' rb e r ∧ Kr rb w w' := by
  obtain ⟨rfl, hn⟩ := num_ok hm
  have hlt := h.lt
  have HN := hid (fun o => next_some e rb t r (w.alloc o) (h.quiet (Kp.alloc _ _)))
  obtain ⟨pos, text, num, n⟩ := t
  simp only at hn HN
  subst hn
  clear h hm
  go_enter Tryd.func89, Tryd.ntmps89
  go_wp2_with (go_at_call 72; refine (HN.out _).mono ?_; rintro e' w1 ⟨rfl, h1, q1⟩; have hb := fun o => box_kr hlt (q1.trans (Kp.alloc _ o)); have hb4 := fun o => box4 (hb o); have hf := fun o => box_free (hb o))
  refine bodyPost_ret (v := .agg #[.int .i64 pos, .string ⟨text.toArray⟩, .bool true, .int .i64 n]) (by simp [results, Tryd.results89, go_sem, hb4]) rfl ?_
  exact ⟨rfl, told4 hlt (q1.trans (Kp.alloc _ _)) (h1.quiet (Kp.alloc _ _)) _ _ _ _⟩
theorem number_bad (e : Int) (rb : Nat) (ts : List Tk) (x : Int × Int) (w : World) (h : RS w rb e ts) (hm : numT e ts = .error x) : Calls Tryd.prog 89 #[.pointer (some ⟨rb, 0, none⟩)] w fun e' w' => e' = .panicked (gave x) ∧ Kr rb w w' := by
  rcases num_cases e ts with ⟨rfl, h1⟩ | ⟨t, r, rfl, h1, h2⟩ | ⟨t, r, rfl, h1, h2⟩
  · rw [h1] at hm
    cases hm
    have HN := hid (fun o => next_none e rb (w.alloc o) (h.quiet (Kp.alloc _ _)))
    clear h h1
    go_enter Tryd.func89, Tryd.ntmps89
    go_wp2_with (go_at_call 72; refine (HN.out _).mono ?_; rintro e' w1 ⟨rfl, q1⟩)
    exact ⟨rfl, rfl, Quiet.kr ((Kp.alloc _ _).trans q1)⟩
  · rw [h2] at hm; cases hm
  · rw [h2] at hm
    cases hm
    have HN := hid (fun o => next_some e rb t r (w.alloc o) (h.quiet (Kp.alloc _ _)))
    obtain ⟨pos, text, num, n⟩ := t
    simp only at h1 HN
    subst h1
    clear h h2
    go_enter Tryd.func89, Tryd.ntmps89
    go_wp2_with (first
      | (go_at_call 73; refine (give_any 5 (pos : Int) _).mono ?_; rintro e' w2 ⟨rfl, rfl⟩)
      | (go_at_call 72; refine (HN.out _).mono ?_; rintro e' w1 ⟨rfl, h1', q1⟩))
    exact ⟨rfl, rfl, (Kp.alloc _ _).trans (q1.trans (Kp.alloc _ _))⟩
theorem small_ok' (e : Int) (rb : Nat) (k : Int) (ts r : List Tk) (w : World) (h : RS w rb e ts) (hm : smallT e ts = .ok (k, r)) : Calls Tryd.prog 90 #[.pointer (some ⟨rb, 0, none⟩)] w fun e' w' => e' = .returned (.int .i64 k) ∧ RS w' rb e r ∧ Kr rb w w' := by
  obtain ⟨t, rfl, hn, rfl, h0, h9⟩ := small_ok hm
  have HN := hid (number_ok e rb t (t :: r) r w h (by simp [numT, nextT, andThen, hn]))
  have h0' : ¬ t.n < 0 := by omega
  have h9' : ¬ 999 < t.n := by omega
  clear h hm hn h0 h9
  go_enter Tryd.func90, Tryd.ntmps90
  go_wp2_with (go_at_call 89; refine HN.out.mono ?_; rintro e' w1 ⟨rfl, h1, q1⟩)
  go_ret
  exact ⟨rfl, h1.quiet (Kp.alloc _ _), q1.trans (Kp.alloc _ _)⟩
theorem small_cases {e : Int} {ts : List Tk} {x : Int × Int} (hm : smallT e ts = .error x) : numT e ts = .error x ∨ ∃ t r, ts = t :: r ∧ numT e ts = .ok (t, r) ∧ (t.n < 0 ∨ (¬ t.n < 0 ∧ 999 < t.n)) ∧ x = (1, (t.pos : Int)) := by
  unfold smallT at hm
  cases hn : numT e ts with
  | error y => rw [hn] at hm; cases hm; exact .inl rfl
  | ok y =>
    obtain ⟨t, r⟩ := y
    rw [hn] at hm
    obtain ⟨rfl, h2⟩ := num_ok hn
    simp only [andThen] at hm
    split at hm
    · cases hm; exact .inr ⟨t, r, rfl, rfl, by omega, rfl⟩
    · cases hm
theorem small_bad (e : Int) (rb : Nat) (ts : List Tk) (x : Int × Int) (w : World) (h : RS w rb e ts) (hm : smallT e ts = .error x) : Calls Tryd.prog 90 #[.pointer (some ⟨rb, 0, none⟩)] w fun e' w' => e' = .panicked (gave x) ∧ Kr rb w w' := by
  rcases small_cases hm with h1 | ⟨t, r, rfl, h1, h2, rfl⟩
  · have HN := hid (number_bad e rb ts x w h h1)
    clear h h1 hm
    go_enter Tryd.func90, Tryd.ntmps90
    go_wp2_with (go_at_call 89; refine HN.out.mono ?_; rintro e' w1 ⟨rfl, q1⟩)
    exact ⟨rfl, rfl, q1⟩
  · have HN := hid (number_ok e rb t (t :: r) r w h h1)
    clear h h1 hm
    rcases h2 with h2 | ⟨h2, h3⟩
    all_goals
      go_enter Tryd.func90, Tryd.ntmps90
      go_wp2_with (first
        | (go_at_call 73; refine (give_any 1 (t.pos : Int) _).mono ?_; rintro e' w2 ⟨rfl, rfl⟩)
        | (go_at_call 89; refine HN.out.mono ?_; rintro e' w1 ⟨rfl, h1', q1⟩))
      exact ⟨rfl, rfl, q1.trans (Kp.alloc _ _)⟩
end Go.Proofs.YthogejofkodmkacDoor
namespace Go.Proofs.YthogejofkodmkacDoor
open Go.ChangeShapes Go.WideShapes Go.ChangeAt Go.RowKit
def strs (L : List (List UInt8)) : List Value := L.map fun s => .string ⟨s.toArray⟩
/-- What the program's two tables hold. -/
structure Wds (w : World) : Prop where
  words : w.var? Tryd.prog "letterlock/parse.words" = some (strs ([] :: wordL)).toArray
  bins : w.var? Tryd.prog "letterlock/parse.bins" = some (strs ([] :: binL)).toArray
theorem var_cell {w : World} {n : String} {g : Nat} {cs : List Value} (h : w.var? Tryd.prog n = some cs.toArray) (hg : Tryd.prog.globalNamed n = some g) (i : Nat) (v : Value) (hi : cs[i]? = some v) : w.cell? ⟨g, i, none⟩ = some v := by
  unfold World.var? at h
  rw [hg] at h
  simp only [Option.bind_some] at h
  split at h
  · rename_i c t z hc
    cases h
    simp [World.cell?, hc, hi]
  · cases h
theorem var_stays {w w' : World} {n : String} {cs : Array Value} (h : w.var? Tryd.prog n = some cs) (hb : Below w.heap.size w w') : w'.var? Tryd.prog n = some cs := by
  unfold World.var? at *
  cases hg : Tryd.prog.globalNamed n with
  | none => simp [hg] at h
  | some g =>
    simp only [hg, Option.bind_some] at h ⊢
    have hlt : g < w.heap.size := by
      rcases Nat.lt_or_ge g w.heap.size with h' | h'
      · exact h'
      · rw [Array.getElem?_eq_none h'] at h; simp at h
    rw [hb.block g hlt]
    exact h
theorem Wds.low {w w' : World} (h : Wds w) (hb : Below w.heap.size w w') : Wds w' := ⟨var_stays h.words hb, var_stays h.bins hb⟩
theorem Wds.quiet {w w' : World} (h : Wds w) (q : Quiet w w') : Wds w' := h.low q.low
theorem Tryd.gW : Tryd.prog.globalNamed "letterlock/parse.words" = some 0 := by kernel_rfl
theorem Tryd.gB : Tryd.prog.globalNamed "letterlock/parse.bins" = some 1 := by kernel_rfl
theorem strs_get (L : List (List UInt8)) (k : Nat) (h : k ≤ L.length) : (strs ([] :: L))[k]? = some (.string ⟨(nameIn L (k : Int)).toArray⟩) := by
  cases k with
  | zero => simp [strs, name_past]
  | succ k =>
    rw [name_at L (k + 1) (by omega) h]
    simp only [strs, List.map_cons, List.getElem?_cons_succ, List.getElem?_map]
    rw [List.getElem?_eq_getElem (by omega)]
    rfl
theorem word_any (k : Int) (w : World) (hw : Wds w) : Calls Tryd.prog 14 #[.int .i64 k] w fun e w' => e = .returned (.string ⟨(nameIn wordL k).toArray⟩) ∧ w' = w := by
  by_cases h0 : k < 0
  · have hE := hid (name_past wordL k (.inl (by omega)))
    go_enter Tryd.func14, Tryd.ntmps14
    go_wp2
    go_ret
    exact ⟨by rw [hE.out]; rfl, rfl⟩
  · obtain ⟨n, rfl⟩ : ∃ n : Nat, k = (n : Int) := ⟨k.toNat, by omega⟩
    by_cases h1 : 22 ≤ n
    · have hE := hid (name_past wordL (n : Int) (.inr (by rw [wordL_len]; omega)))
      have h1' : (22 : Int) ≤ (n : Int) := by omega
      clear h1
      go_enter Tryd.func14, Tryd.ntmps14
      go_wp2
      go_ret
      exact ⟨by rw [hE.out]; rfl, rfl⟩
    · have hc := var_cell hw.words Tryd.gW n _ (strs_get wordL n (by rw [wordL_len]; omega))
      have h1' : ¬ (22 : Int) ≤ (n : Int) := by omega
      have h2 : n < 22 := by omega
      clear hw h1
      go_enter Tryd.func14, Tryd.ntmps14
      go_wp2
      go_ret
      exact ⟨rfl, rfl⟩
theorem bin_any (k : Int) (w : World) (hw : Wds w) : Calls Tryd.prog 16 #[.int .i64 k] w fun e w' => e = .returned (.string ⟨(nameIn binL k).toArray⟩) ∧ w' = w := by
  by_cases h0 : k < 0
  · have hE := hid (name_past binL k (.inl (by omega)))
    go_enter Tryd.func16, Tryd.ntmps16
    go_wp2
    go_ret
    exact ⟨by rw [hE.out]; rfl, rfl⟩
  · obtain ⟨n, rfl⟩ : ∃ n : Nat, k = (n : Int) := ⟨k.toNat, by omega⟩
    by_cases h1 : 6 ≤ n
    · have hE := hid (name_past binL (n : Int) (.inr (by rw [binL_len]; omega)))
      have h1' : (6 : Int) ≤ (n : Int) := by omega
      clear h1
      go_enter Tryd.func16, Tryd.ntmps16
      go_wp2
      go_ret
      exact ⟨by rw [hE.out]; rfl, rfl⟩
    · have hc := var_cell hw.bins Tryd.gB n _ (strs_get binL n (by rw [binL_len]; omega))
      have h1' : ¬ (6 : Int) ≤ (n : Int) := by omega
      have h2 : n < 6 := by omega
      clear hw h1
      go_enter Tryd.func16, Tryd.ntmps16
      go_wp2
      go_ret
      exact ⟨rfl, rfl⟩
end Go.Proofs.YthogejofkodmkacDoor
