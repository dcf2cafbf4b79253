/- What the program asks of the library: a number's text, the number in a text, a copy; nothing old turns by it. -/
import Derived.Test.YthogejofkodmkacDoorTShelf
import Derived.Test.YthogejofkodmkacDoorTSmall
namespace Go.Proofs.YthogejofkodmkacDoor
open Go.ChangeShapes Go.WideShapes Go.ChangeAt Go.RowKit
/-- What package-level variables the library reads: the powers of ten, and two errors. -/
structure Laid (w : World) : Prop where
  tab : Lib.TabIs Tryd.prog w "internal/strconv.uint64pow10" .u64 Lib.pow10Tab
  syn : ∃ tp p, w.var? Tryd.prog "strconv.ErrSyntax" = some #[.iface tp p]
  ran : ∃ tp p, w.var? Tryd.prog "strconv.ErrRange" = some #[.iface tp p]
theorem var_low {w w' : World} {n : String} {cs : Array Value} (h : w.var? Tryd.prog n = some cs) (hb : Below w.heap.size w w') : w'.var? Tryd.prog n = some cs := by
  unfold World.var? at *
  cases hg : Tryd.prog.globalNamed n with
  | none => simp [hg] at h
  | some g =>
    simp only [hg, Option.bind_some] at h ⊢
    have hlt : g < w.heap.size := by
      rcases Nat.lt_or_ge g w.heap.size with h' | h'
      · exact h'
      · rw [Array.getElem?_eq_none h'] at h; simp at h
    rw [hb.block g hlt]
    exact h
theorem Laid.low {w w' : World} (h : Laid w) (hb : Below w.heap.size w w') : Laid w' := by
  refine ⟨var_low h.tab hb, ?_, ?_⟩
  · obtain ⟨tp, p, e⟩ := h.syn; exact ⟨tp, p, var_low e hb⟩
  · obtain ⟨tp, p, e⟩ := h.ran; exact ⟨tp, p, var_low e hb⟩
theorem Laid.quiet {w w' : World} (h : Laid w) (q : Quiet w w') : Laid w' := h.low q.low
theorem quiet_grow (w : World) (k : Nat) (os : Array Obj) : Quiet w (Go.Sort.grow (w.drewN k) os) :=
  ⟨rfl, rfl, rfl, by simp, fun i hi _ => Go.Sort.heap_grow_old (w.drewN k) os hi⟩
theorem fmt_any (n : Int) (hn : In64 n) (w : World) (ht : Laid w) : Calls Tryd.prog 40 #[.int .i64 n, .int .i64 10] w fun e w' => e = .returned (.string ⟨(Lib.itoa n).toArray⟩) ∧ Quiet w w' := by
  refine (format_any n hn.1 hn.2 w ht.tab).mono ?_
  rintro e w' ⟨rfl, k, os, rfl⟩
  exact ⟨rfl, quiet_grow w k os⟩
theorem bytes_size (l : List UInt8) : (ByteArray.mk l.toArray).size = l.length := by simp [ByteArray.size]
/-- A text that is a number of 64 bits. -/
theorem parse_ok (t : List UInt8) (ht : t.length ≤ 9000) (n : Int) (h : Lib.parseIntB 64 t = .ok n) (w : World) :
    Calls Tryd.prog 39 #[.string ⟨t.toArray⟩, .int .i64 10, .int .i64 64] w fun e w' => e = .returned (.tuple #[.int .i64 n, .nilIface]) ∧ Quiet w w' := by
  refine (Any.strconv_ParseInt_10_at64_ok sh174 ⟨t.toArray⟩ (by rw [bytes_size]; omega) n h w).mono ?_
  rintro e w' ⟨rfl, rfl | ⟨s, rfl⟩⟩
  · exact ⟨rfl, Kp.refl _ _⟩
  · exact ⟨rfl, ⟨rfl, rfl, rfl, by rw [Lib.bytesWorld_size]; omega, fun k hk _ => Lib.bytesWorld_at_old w 5 s k hk⟩⟩
/-- A text that is none. -/
theorem parse_bad (t : List UInt8) (ht : t.length ≤ 9000) (h : ∀ n, Lib.parseIntB 64 t ≠ .ok n) (w : World) (hw : Laid w) :
    Calls Tryd.prog 39 #[.string ⟨t.toArray⟩, .int .i64 10, .int .i64 64] w fun e w' => ∃ z tp p, e = .returned (.tuple #[.int .i64 z, .iface tp p]) ∧ Quiet w w' := by
  cases hp : Lib.parseIntB 64 t with
  | ok n => exact absurd hp (h n)
  | range =>
    obtain ⟨tp, p, e⟩ := hw.ran
    refine (Any.strconv_ParseInt_10_at64_range_var sh174 ⟨t.toArray⟩ (by rw [bytes_size]; omega) hp tp p w e).mono ?_
    rintro e w' ⟨N, rfl, _, _, hb⟩
    exact ⟨_, _, _, rfl, quiet_of hb⟩
  | _ =>
    obtain ⟨tp, p, e⟩ := hw.syn
    refine (Any.strconv_ParseInt_10_at64_syntax_var sh174 ⟨t.toArray⟩ (by rw [bytes_size]; omega) hp tp p w e).mono ?_
    rintro e w' ⟨N, rfl, _, _, hb⟩
    exact ⟨_, _, _, rfl, quiet_of hb⟩
theorem parse_in {t : List UInt8} {n : Int} (h : Lib.parseIntB 64 t = .ok n) : In64 n := by
  unfold Lib.parseIntB at h
  split at h
  · cases h
  · simp only at h
    split at h
    · cases h
    · cases h
    · split at h
      · cases h
      · split at h
        · cases h
        · rename_i h1 h2
          injection h with h
          subst h
          unfold In64
          split
          · rename_i hn
            simp only [hn, true_and, Nat.not_lt] at h2
            omega
          · rename_i hn
            simp only [hn, not_false_eq_true, true_and, Nat.not_le] at h1
            omega
theorem clone_any (t : List UInt8) (ht : t.length ≤ 9000) (w : World) : Calls Tryd.prog 49 #[.string ⟨t.toArray⟩] w fun e w' => e = .returned (.string ⟨t.toArray⟩) ∧ Quiet w w' := by
  go_enter Tryd.func49, Tryd.ntmps49
  go_wp2_with (go_at_call 62; refine (sclone_any ⟨t.toArray⟩ _ (by rw [bytes_size]; omega)).mono ?_; rintro e w' ⟨rfl, hb⟩)
  go_ret
  exact ⟨rfl, quiet_of hb⟩
theorem cut_bytes (l : List UInt8) (a b : Nat) : (ByteArray.mk l.toArray).extract a b = ⟨(cut l a b).toArray⟩ := by
  ext1
  simp only [cut, ByteArray.data_extract, List.extract_toArray, List.extract_eq_take_drop, List.drop_take]
theorem piece_any (l : List UInt8) (a b : Nat) (hab : a ≤ b) (hb : b ≤ l.length) (hl : l.length ≤ 9000) (w : World) :
    Calls Tryd.prog 35 #[.string ⟨l.toArray⟩, .int .i64 a, .int .i64 b] w fun e w' => e = .returned (.string ⟨(cut l a b).toArray⟩) ∧ Quiet w w' := by
  have hz := bytes_size l
  go_enter Tryd.func35, Tryd.ntmps35
  go_wp2_with fail
  rw [cut_bytes]
  refine (clone_any _ (by rw [cut_len _ _ _ hb]; omega) _).mono ?_
  rintro e w' ⟨rfl, q⟩
  go_wp2
  go_ret
  exact ⟨rfl, q⟩
theorem longOf_ok {t : List UInt8} {n : Int} (h : longOf t = some n) : Lib.parseIntB 64 t = .ok n ∧ Lib.itoa n = t := by
  unfold longOf at h
  split at h
  · split at h
    · cases h; exact ⟨by assumption, by assumption⟩
    · cases h
  · cases h
theorem longOf_bad {t : List UInt8} (h : longOf t = none) : (∀ n, Lib.parseIntB 64 t ≠ .ok n) ∨ ∃ n, Lib.parseIntB 64 t = .ok n ∧ Lib.itoa n ≠ t := by
  cases hp : Lib.parseIntB 64 t with
  | ok n =>
    refine .inr ⟨n, rfl, fun e => ?_⟩
    simp [longOf, hp, e] at h
  | range => exact .inl fun n e => by cases e
  | _ => exact .inl fun n e => by cases e
theorem long_some (t : List UInt8) (ht : t.length ≤ 9000) (n : Int) (h : longOf t = some n) (w : World) (hw : Laid w) :
    Calls Tryd.prog 25 #[.string ⟨t.toArray⟩] w fun e w' => e = .returned (.tuple #[.int .i64 n, .bool true]) ∧ Quiet w w' := by
  obtain ⟨h1, h2⟩ := longOf_ok h
  have hn := parse_in h1
  have H1 := hid h1
  have H2 := hid h2
  clear h h1 h2
  go_enter Tryd.func25, Tryd.ntmps25
  go_wp2_with (first
    | (go_at_call 40; refine (fmt_any n hn _ (hw.quiet q1)).mono ?_; rw [H2.out]; rintro e w2 ⟨rfl, q2⟩)
    | (go_at_call 39; refine (parse_ok t ht n H1.out _).mono ?_; rintro e w1 ⟨rfl, q1⟩))
  go_ret2
  exact ⟨rfl, q1.trans q2⟩
theorem long_none (t : List UInt8) (ht : t.length ≤ 9000) (h : longOf t = none) (w : World) (hw : Laid w) :
    Calls Tryd.prog 25 #[.string ⟨t.toArray⟩] w fun e w' => e = .returned (.tuple #[.int .i64 0, .bool false]) ∧ Quiet w w' := by
  rcases longOf_bad h with hb | ⟨n, h1, h2⟩
  · have HB := hid hb
    clear h hb
    go_enter Tryd.func25, Tryd.ntmps25
    go_wp2_with (go_at_call 39; refine (parse_bad t ht HB.out _ hw).mono ?_; rintro e w1 ⟨z, tp, p, rfl, q1⟩)
    go_ret2
    exact ⟨rfl, q1⟩
  · have hn := parse_in h1
    have H1 := hid h1
    have H2 := hid h2
    have hne : (Lib.itoa n == t) = false := by simpa using h2
    clear h h1 h2
    go_enter Tryd.func25, Tryd.ntmps25
    go_wp2_with (first
      | (go_at_call 40; refine (fmt_any n hn _ (hw.quiet q1)).mono ?_; rintro e w2 ⟨rfl, q2⟩)
      | (go_at_call 39; refine (parse_ok t ht n H1.out _).mono ?_; rintro e w1 ⟨rfl, q1⟩))
    go_ret2
    exact ⟨rfl, q1.trans q2⟩
end Go.Proofs.YthogejofkodmkacDoor
