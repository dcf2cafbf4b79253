/- What a printer writes: head, expr, line. -/
import Derived.Test.YtbcfbelfeaakoadDoorBuildX
import Derived.Deep.RegionHeld3
namespace Go.Proofs.YtbcfbelfeaakoadDoor
open Go.ChangeShapes Go.WideShapes Go.ChangeAt Go.RowKit
theorem Is.kid {w : World} {v : V} {ao : Option Addr} (h : Is w v ao) {x : V} (hx : x ∈ v.l) : ∃ ax, Is w x ax := by
  obtain ⟨i, hi, rfl⟩ := List.getElem_of_mem hx
  obtain ⟨b, off, _, _, ai, _, _, k⟩ := h.get i hi
  exact ⟨ai, k⟩
theorem tail_len {v : V} (h : v.fits) : (tailX v).length ≤ 22 := by
  unfold tailX
  split
  · have := itoa_len h.2.2; simp; omega
  · split
    · have := itoa_len h.2.1; simp; omega
    · split
      · have := bin_len v.k; simp; omega
      · simp
theorem head_len {v : V} (h : v.fits) : (headX v).length ≤ 28 := by
  have := tail_len h
  have := word_len v.kind
  rw [headX, List.length_append]; omega
theorem texts_len {l : List V} (h : ∀ x ∈ l, x.text.length + 1 ≤ 32 * x.size) : (texts l).length ≤ 32 * sizes l := by
  induction l with
  | nil => simp [texts_nil]
  | cons x l ih =>
    have h0 := h x (by simp)
    have h1 := ih fun y hy => h y (by simp [hy])
    rw [sizes_cons, texts_cons, List.length_cons, List.length_append]; omega
theorem text_len {w : World} (v : V) : ∀ ao, Is w v ao → v.text.length + 1 ≤ 32 * v.size := by
  induction v using V.ind' with
  | h v ih =>
    intro ao hI
    have ht : (texts v.l).length ≤ 32 * sizes v.l := texts_len fun x hx => by
      obtain ⟨ax, hx'⟩ := hI.kid hx
      exact ih x hx ax hx'
    have hn := head_len hI.fit
    rw [text_eq, size_eq, List.length_cons, List.length_append, List.length_append, List.length_singleton]; omega
theorem lines_len {w : World} {l : List V} {ao : Option Addr} (h : Fo w l ao) : (linesX l).length ≤ 37 * sizes l := by
  have key : ∀ a : List V, (∀ x ∈ a, x ∈ l) → (linesX a).length ≤ 37 * sizes a := by
    intro a
    induction a with
    | nil => intro _; simp [linesX]
    | cons x a ih =>
      intro hx
      have h1 := ih fun y hy => hx y (by simp [hy])
      obtain ⟨i, hi, e⟩ := List.getElem_of_mem (hx x (by simp))
      obtain ⟨_, _, _, _, ai, _, _, k⟩ := h.get i hi
      rw [e] at k
      have h2 := text_len x ai k
      have h3 := size_pos x
      rw [linesX, lineX, sizes_cons]
      simp only [List.length_append, List.length_cons, List.length_nil]; omega
  exact key l fun _ h => h
/-- What holds while a text is written: the printer with what was written; the expression that is looked at, in a block of its own. -/
structure St (w0 : World) (b x : Nat) (c : Array Value) (l : List UInt8) (w : World) : Prop where
  bld : Bld w0.heap.size b l w
  low : Below w0.heap.size w0 w
  box : w.heap[x]? = some (.cells c 42 (0, 0))
  ne : x ≠ b
section
variable {w0 w w' : World} {b x : Nat} {c : Array Value} {l : List UInt8}
theorem St.quiet (h : St w0 b x c l w) (q : Quiet w w') : St w0 b x c l w' :=
  ⟨h.bld.quiet q, h.low.trans (q.low.mono h.low.size), (q.block x (lt_of_block h.box) fun e => e).trans h.box, h.ne⟩
theorem St.next {l' : List UInt8} (h : St w0 b x c l w) (hb : Bld w0.heap.size b l' w') (hl : Below w0.heap.size w w') (ho : Lib.OthersKept 5 (some b) w w') : St w0 b x c l' w' :=
  ⟨hb, h.low.trans hl, ho x _ h.box (by intro e; simp at e; exact h.ne e) (by intro c fz e; simp at e), h.ne⟩
theorem puts_st (h : St w0 b x c l w) (s : List UInt8) (hlen : l.length + s.length ≤ 140737488355328) :
    Calls Tryd.prog 41 #[.pointer (some ⟨b, 0, none⟩), .string ⟨s.toArray⟩] w fun e w' => e = .returned (.tuple #[.int .i64 s.length, .nilIface]) ∧ St w0 b x c (l ++ s) w' ∧ Below w0.heap.size w w' ∧ Lib.OthersKept 5 (some b) w w' := by
  refine (puts_any _ b l s w h.bld hlen h.low.size).mono ?_
  rintro e w' ⟨rfl, h1, h2, h3⟩
  exact ⟨rfl, h.next h1 h2 h3, h2, h3⟩
theorem putc_st (h : St w0 b x c l w) (u : UInt8) (z : Int) (hz : z = (u.toNat : Int)) (hlen : l.length + 1 ≤ 140737488355328) :
    Calls Tryd.prog 43 #[.pointer (some ⟨b, 0, none⟩), .int .u8 z] w fun e w' => e = .returned .nilIface ∧ St w0 b x c (l ++ [u]) w' ∧ Below w0.heap.size w w' ∧ Lib.OthersKept 5 (some b) w w' := by
  refine (putc_any _ b l u z hz w h.bld hlen h.low.size).mono ?_
  rintro e w' ⟨rfl, h1, h2, h3⟩
  exact ⟨rfl, h.next h1 h2 h3, h2, h3⟩
/-- The expression that is looked at is laid into a new block. -/
theorem st_start (hl : Below w0.heap.size w0 w) (hb : Bld w0.heap.size b l w) (c : Array Value) : St w0 b w.heap.size c l (w.alloc (.cells c 42)) :=
  ⟨hb.quiet (Kp.alloc _ _), hl.alloc hl.size _, heap_alloc_new w _, by have := bld_lt hb; omega⟩
end
theorem low_quiet {B : Nat} {w w' : World} (q : Quiet w w') (hB : B ≤ w.heap.size) : Below B w w' := q.low.mono hB
/-- A blank, and a text. -/
theorem behind_any (B b : Nat) (l s : List UInt8) (w : World) (h : Bld B b l w) (hlen : l.length + 1 + s.length ≤ 100000000) (hBw : B ≤ w.heap.size) :
    Calls Tryd.prog 87 #[.pointer (some ⟨b, 0, none⟩), .string ⟨s.toArray⟩] w fun e w' => e = .returned (.tuple #[]) ∧ Bld B b (l ++ 32 :: s) w' ∧ Below B w w' ∧ Lib.OthersKept 5 (some b) w w' := by
  go_enter Tryd.func87, Tryd.ntmps87
  go_wp2_with (first
    | (go_at_call 41; refine (puts_any B b (l ++ [32]) s w2 h2 (by simp; omega) z2).mono ?_; rintro e w3 ⟨rfl, h3, b3, k3⟩)
    | (go_at_call 43; refine (putc_any B b l 32 32 rfl _ h (by omega) hBw).mono ?_; rintro e w2 ⟨rfl, h2, b2, k2⟩; have z2 := Nat.le_trans hBw b2.size))
  go_end0
  refine ⟨rfl, by simpa using h3, b2.trans b3, k2.trans k3⟩
/-- What is asked of head at an expression. -/
def HeadOk (w0 : World) (b : Nat) (v : V) : Prop := ∀ (ao : Option Addr) (cap : Nat) (l : List UInt8) (w : World), Below w0.heap.size w0 w → Bld w0.heap.size b l w → l.length ≤ 10000000 →
    Calls Tryd.prog 66 #[.pointer (some ⟨b, 0, none⟩), .agg #[.int .i64 v.kind, .int .i64 v.k, .int .i64 v.n, .slice ao v.l.length cap]] w fun e w' => e = .returned (.tuple #[]) ∧ Bld w0.heap.size b (l ++ headX v) w' ∧ Below w0.heap.size w w' ∧ Lib.OthersKept 5 (some b) w w'
set_option maxRecDepth 8000 in
set_option maxHeartbeats 4000000 in
theorem headW_any (w0 : World) (ht : Laid w0) (b : Nat) (v : V) (hf : v.fits) : HeadOk w0 b v := by
  intro ao cap l w hB hb hlen
  have h1 := st_start hB hb #[.int .i64 v.kind, .int .i64 v.k, .int .i64 v.n, .slice ao v.l.length cap]
  obtain ⟨x0, x1, x2, x3⟩ := box_cells h1.box
  have HW := hid (word_any v.kind _ (ht.low (h1.quiet (Kp.drew _)).low))
  have hwl := word_len v.kind
  have HBX := hid (fun (w' : World) (l' : List UInt8) (h : St w0 b w.heap.size #[.int .i64 v.kind, .int .i64 v.k, .int .i64 v.n, .slice ao v.l.length cap] l' w') => box_cells h.box)
  have hbl : Below w0.heap.size w (w.alloc (.cells #[.int .i64 v.kind, .int .i64 v.k, .int .i64 v.n, .slice ao v.l.length cap] 42)) := (Below.refl _ _).alloc hB.size _
  have hkl : Lib.OthersKept 5 (some b) w (w.alloc (.cells #[.int .i64 v.kind, .int .i64 v.k, .int .i64 v.n, .slice ao v.l.length cap] 42)) := (Lib.OthersKept.refl _ _ _).alloc _
  obtain ⟨hfk, hfkk, hfn⟩ := hf
  have hnl := itoa_len hfn
  have hkkl := itoa_len hfkk
  have hbn := bin_len v.k
  have HL := hid (And.intro hbl hkl)
  have HT := hid (fun (w' : World) (l' : List UInt8) (h : St w0 b w.heap.size #[.int .i64 v.kind, .int .i64 v.k, .int .i64 v.n, .slice ao v.l.length cap] l' w') => ht.low h.low)
  have HF := hid (And.intro hfkk hfn)
  clear hbl hkl hfk hfkk hfn
  have hcase : v.kind = 2 ∨ v.kind = 4 ∨ v.kind = 18 ∨ v.kind = 15 ∨ v.kind = 6 ∨ (v.kind ≠ 2 ∧ v.kind ≠ 4 ∧ v.kind ≠ 18 ∧ v.kind ≠ 15 ∧ v.kind ≠ 6) := by omega
  have hE := hid (show headX v = nameIn wordL v.kind ++ tailX v from rfl)
  have hE2 := hid (show tailX v = if v.kind = 2 then 32 :: Lib.itoa v.n else if v.kind = 4 ∨ v.kind = 18 ∨ v.kind = 15 then 32 :: Lib.itoa v.k else if v.kind = 6 then 32 :: nameIn binL v.k else [] from rfl)
  generalize hkd : v.kind = kd at *
  rcases hcase with hc | hc | hc | hc | hc | hc
  · subst hc
    have HE := hid (show tailX v = 32 :: Lib.itoa v.n by rw [hE2.out]; simp)
    clear hE2
    go_enter Tryd.func66, Tryd.ntmps66
    go_wp2
    go_region_held3 (fun w' => w'.cell? ⟨w.heap.size, 0, none⟩ = some (.int .i64 2)) (first | assumption | exact x0) (first
      | (go_at_call 41; refine (puts_st (h1.quiet (Kp.drew _)) _ (by omega)).mono ?_; rintro e w2 ⟨rfl, h2, b2, k2⟩; obtain ⟨y0, y1, y2, y3⟩ := HBX.out _ _ h2)
      | (go_at_call 16; refine HW.out.mono ?_; rintro e w9 ⟨rfl, h9⟩; replace h9 := h9.symm; subst h9))
    go_wp2_with (first
      | (go_at_call 87; refine (behind_any _ b _ _ w3 h3.bld (by simp; omega) h3.low.size).mono ?_; rintro e w4 ⟨rfl, h4, b4, k4⟩)
      | (go_at_call 40; refine (fmt_any v.n HF.out.2 _ (HT.out _ _ h2)).mono ?_; rintro e w3 ⟨rfl, q3⟩; have h3 := h2.quiet q3))
    go_end0
    refine ⟨rfl, ?_, (HL.out.1.trans ((low_quiet (Kp.drew _) h1.low.size).trans b2)).trans ((low_quiet q3 h2.low.size).trans b4), (HL.out.2.trans ((others_quiet (Kp.drew _)).trans k2)).trans ((others_quiet q3).trans k4)⟩
    rw [hE.out, HE.out]; simpa only [List.append_assoc] using h4
  · subst hc
    have HE := hid (show tailX v = 32 :: Lib.itoa v.k by rw [hE2.out]; simp)
    clear hE2
    go_enter Tryd.func66, Tryd.ntmps66
    go_wp2
    go_region_held3 (fun w' => w'.cell? ⟨w.heap.size, 0, none⟩ = some (.int .i64 4)) (first | assumption | exact x0) (first
      | (go_at_call 41; refine (puts_st (h1.quiet (Kp.drew _)) _ (by omega)).mono ?_; rintro e w2 ⟨rfl, h2, b2, k2⟩; obtain ⟨y0, y1, y2, y3⟩ := HBX.out _ _ h2)
      | (go_at_call 16; refine HW.out.mono ?_; rintro e w9 ⟨rfl, h9⟩; replace h9 := h9.symm; subst h9))
    go_wp2_with (first
      | (go_at_call 87; refine (behind_any _ b _ _ w3 h3.bld (by simp; omega) h3.low.size).mono ?_; rintro e w4 ⟨rfl, h4, b4, k4⟩)
      | (go_at_call 47; refine (itoa_any v.k HF.out.1 _ (HT.out _ _ h2)).mono ?_; rintro e w3 ⟨rfl, q3⟩; have h3 := h2.quiet q3))
    go_end0
    refine ⟨rfl, ?_, (HL.out.1.trans ((low_quiet (Kp.drew _) h1.low.size).trans b2)).trans ((low_quiet q3 h2.low.size).trans b4), (HL.out.2.trans ((others_quiet (Kp.drew _)).trans k2)).trans ((others_quiet q3).trans k4)⟩
    rw [hE.out, HE.out]; simpa only [List.append_assoc] using h4
  · subst hc
    have HE := hid (show tailX v = 32 :: Lib.itoa v.k by rw [hE2.out]; simp)
    clear hE2
    go_enter Tryd.func66, Tryd.ntmps66
    go_wp2
    go_region_held3 (fun w' => w'.cell? ⟨w.heap.size, 0, none⟩ = some (.int .i64 18)) (first | assumption | exact x0) (first
      | (go_at_call 41; refine (puts_st (h1.quiet (Kp.drew _)) _ (by omega)).mono ?_; rintro e w2 ⟨rfl, h2, b2, k2⟩; obtain ⟨y0, y1, y2, y3⟩ := HBX.out _ _ h2)
      | (go_at_call 16; refine HW.out.mono ?_; rintro e w9 ⟨rfl, h9⟩; replace h9 := h9.symm; subst h9))
    go_wp2_with (first
      | (go_at_call 87; refine (behind_any _ b _ _ w3 h3.bld (by simp; omega) h3.low.size).mono ?_; rintro e w4 ⟨rfl, h4, b4, k4⟩)
      | (go_at_call 47; refine (itoa_any v.k HF.out.1 _ (HT.out _ _ h2)).mono ?_; rintro e w3 ⟨rfl, q3⟩; have h3 := h2.quiet q3))
    go_end0
    refine ⟨rfl, ?_, (HL.out.1.trans ((low_quiet (Kp.drew _) h1.low.size).trans b2)).trans ((low_quiet q3 h2.low.size).trans b4), (HL.out.2.trans ((others_quiet (Kp.drew _)).trans k2)).trans ((others_quiet q3).trans k4)⟩
    rw [hE.out, HE.out]; simpa only [List.append_assoc] using h4
  · subst hc
    have HE := hid (show tailX v = 32 :: Lib.itoa v.k by rw [hE2.out]; simp)
    clear hE2
    go_enter Tryd.func66, Tryd.ntmps66
    go_wp2
    go_region_held3 (fun w' => w'.cell? ⟨w.heap.size, 0, none⟩ = some (.int .i64 15)) (first | assumption | exact x0) (first
      | (go_at_call 41; refine (puts_st (h1.quiet (Kp.drew _)) _ (by omega)).mono ?_; rintro e w2 ⟨rfl, h2, b2, k2⟩; obtain ⟨y0, y1, y2, y3⟩ := HBX.out _ _ h2)
      | (go_at_call 16; refine HW.out.mono ?_; rintro e w9 ⟨rfl, h9⟩; replace h9 := h9.symm; subst h9))
    go_wp2_with (first
      | (go_at_call 87; refine (behind_any _ b _ _ w3 h3.bld (by simp; omega) h3.low.size).mono ?_; rintro e w4 ⟨rfl, h4, b4, k4⟩)
      | (go_at_call 47; refine (itoa_any v.k HF.out.1 _ (HT.out _ _ h2)).mono ?_; rintro e w3 ⟨rfl, q3⟩; have h3 := h2.quiet q3))
    go_end0
    refine ⟨rfl, ?_, (HL.out.1.trans ((low_quiet (Kp.drew _) h1.low.size).trans b2)).trans ((low_quiet q3 h2.low.size).trans b4), (HL.out.2.trans ((others_quiet (Kp.drew _)).trans k2)).trans ((others_quiet q3).trans k4)⟩
    rw [hE.out, HE.out]; simpa only [List.append_assoc] using h4
  · subst hc
    have HE := hid (show tailX v = 32 :: nameIn binL v.k by rw [hE2.out]; simp)
    clear hE2
    go_enter Tryd.func66, Tryd.ntmps66
    go_wp2
    go_region_held3 (fun w' => w'.cell? ⟨w.heap.size, 0, none⟩ = some (.int .i64 6)) (first | assumption | exact x0) (first
      | (go_at_call 41; refine (puts_st (h1.quiet (Kp.drew _)) _ (by omega)).mono ?_; rintro e w2 ⟨rfl, h2, b2, k2⟩; obtain ⟨y0, y1, y2, y3⟩ := HBX.out _ _ h2)
      | (go_at_call 16; refine HW.out.mono ?_; rintro e w9 ⟨rfl, h9⟩; replace h9 := h9.symm; subst h9))
    go_wp2_with (first
      | (go_at_call 87; refine (behind_any _ b _ _ w3 h3.bld (by simp; omega) h3.low.size).mono ?_; rintro e w4 ⟨rfl, h4, b4, k4⟩)
      | (go_at_call 17; refine (bin_any v.k _ (HT.out _ _ h2)).mono ?_; rintro e w3 ⟨rfl, q3'⟩; have q3 : Quiet w2 w3 := (by rw [q3']; exact Kp.refl _ _); have h3 := h2.quiet q3; clear q3'))
    go_end0
    refine ⟨rfl, ?_, (HL.out.1.trans ((low_quiet (Kp.drew _) h1.low.size).trans b2)).trans ((low_quiet q3 h2.low.size).trans b4), (HL.out.2.trans ((others_quiet (Kp.drew _)).trans k2)).trans ((others_quiet q3).trans k4)⟩
    rw [hE.out, HE.out]; simpa only [List.append_assoc] using h4
  · have HE := hid (show tailX v = [] by rw [hE2.out]; simp [hc])
    clear hE2
    obtain ⟨c2, c4, c18, c15, c6⟩ := hc
    go_enter Tryd.func66, Tryd.ntmps66
    go_wp2
    go_region_held3 (fun w' => w'.cell? ⟨w.heap.size, 0, none⟩ = some (.int .i64 kd)) (first | assumption | exact x0) (first
      | (go_at_call 41; refine (puts_st (h1.quiet (Kp.drew _)) _ (by omega)).mono ?_; rintro e w2 ⟨rfl, h2, b2, k2⟩; obtain ⟨y0, y1, y2, y3⟩ := HBX.out _ _ h2)
      | (go_at_call 16; refine HW.out.mono ?_; rintro e w9 ⟨rfl, h9⟩; replace h9 := h9.symm; subst h9))
    go_wp2
    go_end0
    refine ⟨rfl, ?_, HL.out.1.trans ((low_quiet (Kp.drew _) h1.low.size).trans b2), HL.out.2.trans ((others_quiet (Kp.drew _)).trans k2)⟩
    rw [hE.out, HE.out, List.append_nil]; exact h2.bld
end Go.Proofs.YtbcfbelfeaakoadDoor
