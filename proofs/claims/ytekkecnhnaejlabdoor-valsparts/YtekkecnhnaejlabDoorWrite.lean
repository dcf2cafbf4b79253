/- The contracts of write and Text. -/
import Derived.Test.YtekkecnhnaejlabDoorBuild
import Derived.Test.YtekkecnhnaejlabDoorOld4
namespace Go.Proofs.YtekkecnhnaejlabDoor
open Go.ChangeShapes Go.WideShapes Go.ChangeAt Go.RowKit
theorem itoa_len {n : Int} (h : In64 n) : (Lib.itoa n).length ≤ 21 := Lib.itoa_length_le n h.1 h.2
theorem Is.kid {w : World} {v : V} {ao : Option Addr} (h : Is w v ao) {x : V} (hx : x ∈ v.l) : ∃ ax, Is w x ax := by
  obtain ⟨i, hi, rfl⟩ := List.getElem_of_mem hx
  obtain ⟨b, off, _, _, _, ai, _, _, k⟩ := h.get3 i hi
  exact ⟨ai, k⟩
theorem texts_len {l : List V} (h : ∀ x ∈ l, x.text.length + 1 ≤ 32 * x.size) : (texts l).length ≤ 32 * sizes l := by
  induction l with
  | nil => simp [texts_nil]
  | cons x l ih =>
    have h0 := h x (by simp)
    have h1 := ih fun y hy => h y (by simp [hy])
    rw [sizes_cons]
    cases l with
    | nil => rw [texts_one]; omega
    | cons y l => rw [texts_two, List.length_append, List.length_cons]; omega
theorem text_len (w : World) (v : V) : ∀ ao, Is w v ao → v.text.length + 1 ≤ 32 * v.size := by
  induction v using V.ind with
  | h k n l ih =>
    intro ao hI
    have ht : (texts l).length ≤ 32 * sizes l := texts_len fun x hx => by
      obtain ⟨ax, hx'⟩ := hI.kid hx
      exact ih x hx ax hx'
    have hn := itoa_len hI.fit.2
    rw [text_eq, size_mk]
    simp only at hn ⊢
    split
    · omega
    · split
      · simp; omega
      · split
        · simp; omega
        · split
          · simp; omega
          · split <;> simp <;> omega
/-- What holds while a text is written: the Builder with what was written; the value that is looked at, in a block of its own. -/
structure St (w0 : World) (b x : Nat) (k n : Int) (sl : Value) (l : List UInt8) (w : World) : Prop where
  bld : Bld w0.heap.size b l w
  low : Below w0.heap.size w0 w
  box : w.heap[x]? = some (.cells #[.int .i64 k, .int .i64 n, sl] 24 (0, 0))
  ne : x ≠ b
theorem Bld.quiet {B b : Nat} {l : List UInt8} {w w' : World} (h : Bld B b l w) (q : Quiet w w') : Bld B b l w' := by
  have key : ∀ p, Lib.BuilderAt 45 5 B b p (Lib.byteCells l) w → Lib.BuilderAt 45 5 B b p (Lib.byteCells l) w' := by
    rintro p ⟨hB, v, hb, hr, hne⟩
    exact ⟨hB, v, (q.block b (lt_of_block hb) fun e => e).trans hb, q.row hr fun _ _ e => e, hne⟩
  rcases h with h | h
  · exact .inl (key _ h)
  · exact .inr (key _ h)
theorem others_quiet {e : TypeId} {b : Option Nat} {w w' : World} (q : Quiet w w') : Lib.OthersKept e b w w' := fun k _ hk _ _ => (q.block k (lt_of_block hk) fun e => e).trans hk
section
variable {w0 w w' : World} {b x : Nat} {k n : Int} {sl : Value} {l : List UInt8}
theorem St.quiet (h : St w0 b x k n sl l w) (q : Quiet w w') : St w0 b x k n sl l w' :=
  ⟨h.bld.quiet q, h.low.trans (q.low.mono h.low.size), (q.block x (lt_of_block h.box) fun e => e).trans h.box, h.ne⟩
theorem St.next {l' : List UInt8} (h : St w0 b x k n sl l w) (hb : Bld w0.heap.size b l' w') (hl : Below w0.heap.size w w') (ho : Lib.OthersKept 5 (some b) w w') : St w0 b x k n sl l' w' :=
  ⟨hb, h.low.trans hl, ho x _ h.box (by intro e; simp at e; exact h.ne e) (by intro c fz e; simp at e), h.ne⟩
theorem St.cells (h : St w0 b x k n sl l w) : w.cell? ⟨x, 0, none⟩ = some (.int .i64 k) ∧ w.cell? ⟨x, 1, none⟩ = some (.int .i64 n) ∧ w.cell? ⟨x, 2, none⟩ = some sl := by
  refine ⟨?_, ?_, ?_⟩ <;> rw [Lib.cell_of_heap h.box] <;> rfl
theorem puts_st (h : St w0 b x k n sl l w) (s : List UInt8) (hlen : l.length + s.length ≤ 140737488355328) :
    Calls Tryd.prog 41 #[.pointer (some ⟨b, 0, none⟩), .string ⟨s.toArray⟩] w fun e w' => e = .returned (.tuple #[.int .i64 s.length, .nilIface]) ∧ St w0 b x k n sl (l ++ s) w' ∧ Below w0.heap.size w w' ∧ Lib.OthersKept 5 (some b) w w' := by
  refine (puts_any _ b l s w h.bld hlen h.low.size).mono ?_
  rintro e w' ⟨rfl, h1, h2, h3⟩
  exact ⟨rfl, h.next h1 h2 h3, h2, h3⟩
end
/-- What is asked of write at a value. -/
def WriteOk (w0 : World) (b : Nat) (v : V) : Prop := ∀ (ao : Option Addr) (cap : Nat) (l : List UInt8) (w : World), Is w0 v ao → Below w0.heap.size w0 w → Bld w0.heap.size b l w → l.length + 32 * v.size ≤ 1000000 →
    Calls Tryd.prog 35 #[.pointer (some ⟨b, 0, none⟩), .agg #[.int .i64 v.kind, .int .i64 v.n, .slice ao v.l.length cap]] w fun e w' => e = .returned (.tuple #[]) ∧ Bld w0.heap.size b (l ++ v.text) w' ∧ Below w0.heap.size w w' ∧ Lib.OthersKept 5 (some b) w w'
theorem bld_lt {B b : Nat} {l : List UInt8} {w : World} (h : Bld B b l w) : b < w.heap.size := by
  rcases h with h | h <;> exact h.lt
/-- The value that is looked at is laid into a new block. -/
theorem st_start {w0 w : World} {b : Nat} {l : List UInt8} (hl : Below w0.heap.size w0 w) (hb : Bld w0.heap.size b l w) (k n : Int) (sl : Value) : St w0 b w.heap.size k n sl l (w.alloc (.cells #[.int .i64 k, .int .i64 n, sl] 24)) :=
  ⟨hb.quiet (Kp.alloc _ _), hl.alloc hl.size _, heap_alloc_new w _, by have := bld_lt hb; omega⟩
theorem ba_app (a b : List UInt8) : (ByteArray.mk a.toArray ++ ByteArray.mk b.toArray) = ByteArray.mk (a ++ b).toArray := by
  apply ByteArray.ext
  rw [ByteArray.data_append]
  simp
theorem puts_str {w0 w : World} {b x : Nat} {k n : Int} {sl : Value} {l : List UInt8} (h : St w0 b x k n sl l w) (s : ByteArray) (t : List UInt8) (hs : s = ⟨t.toArray⟩) (hlen : l.length + t.length ≤ 140737488355328) :
    Calls Tryd.prog 41 #[.pointer (some ⟨b, 0, none⟩), .string s] w fun e w' => e = .returned (.tuple #[.int .i64 t.length, .nilIface]) ∧ St w0 b x k n sl (l ++ t) w' ∧ Below w0.heap.size w w' ∧ Lib.OthersKept 5 (some b) w w' := by
  subst hs; exact puts_st h t hlen
/-- The cells of what is in the value that is looked at, in a later world. -/
theorem kid_cells {w0 w : World} {bb oo : Nat} {x : V} {ca : Option Addr} {cc : Nat} (hl : Below w0.heap.size w0 w) (d0 : w0.cell? ⟨bb, oo, none⟩ = some (.int .i64 x.kind)) (d1 : w0.cell? ⟨bb, oo + 1, none⟩ = some (.int .i64 x.n)) (d2 : w0.cell? ⟨bb, oo + 2, none⟩ = some (.slice ca x.l.length cc)) :
    w.cell? ⟨bb, oo, none⟩ = some (.int .i64 x.kind) ∧ w.cell? ⟨bb, oo + 1, none⟩ = some (.int .i64 x.n) ∧ w.cell? ⟨bb, oo + 2, none⟩ = some (.slice ca x.l.length cc) :=
  ⟨low_cell hl d0 (World.block_lt_of_cell? w0 _ d0), low_cell hl d1 (World.block_lt_of_cell? w0 _ d1), low_cell hl d2 (World.block_lt_of_cell? w0 _ d2)⟩
set_option maxHeartbeats 1000000 in
theorem write_seal (w0 : World) (ht : Tab w0) (b : Nat) (n : Int) (x : V) (hx : WriteOk w0 b x) : WriteOk w0 b ⟨3, n, [x]⟩ := by
  intro ao cap l w hI hB hb hlen
  have h1 := st_start hB hb 3 n (.slice ao 1 cap)
  have hn := hI.fit.2
  have hnl := itoa_len hn
  simp only at hn hnl
  have t1 := ht.low h1.low
  obtain ⟨bb, oo, e, d0, d1, ca, cc, d2, hk⟩ := hI.get3 0 (by simp)
  simp only [List.getElem_cons_zero, Nat.zero_mul, Nat.add_zero] at d0 d1 d2 hk
  subst e
  rw [size_mk, sizes_cons, sizes_nil] at hlen
  have hxl := text_len w0 x ca hk
  have hE := hid (show (V.mk 3 n [x]).text = 91 :: (Lib.itoa n ++ 32 :: (x.text ++ [93])) by rw [text_eq]; simp [texts_one])
  go_enter Tryd.func35, Tryd.ntmps35
  go_wp2_with (first
    | (go_at_call 37; refine (fmt_any n hn _ t1).mono ?_; rintro e w2 ⟨rfl, q2⟩; have h2 := h1.quiet q2; obtain ⟨c0, c1, c2⟩ := h2.cells)
    | (go_at_call 41; refine (puts_str h2 _ (91 :: (Lib.itoa n ++ [32])) (by rw [show (ByteArray.mk #[91]) = ByteArray.mk [91].toArray from rfl, show (ByteArray.mk #[32]) = ByteArray.mk [32].toArray from rfl, ba_app, ba_app]; rfl) (by simp; omega)).mono ?_; rintro e w3 ⟨rfl, h3, b3, k3⟩; obtain ⟨c0', c1', c2'⟩ := h3.cells; obtain ⟨d0', d1', d2'⟩ := kid_cells h3.low d0 d1 d2)
    | (go_at_call 35; refine (hx ca cc _ _ hk h3.low h3.bld (by simp; omega)).mono ?_; rintro e w4 ⟨rfl, hb4, b4, k4⟩; have h4 := h3.next hb4 b4 k4)
    | (go_at_call 41; refine (puts_str h4 _ [93] rfl (by simp; omega)).mono ?_; rintro e w5 ⟨rfl, h5, b5, k5⟩))
  go_end0
  refine ⟨rfl, ?_, ?_, ?_⟩
  · have := h5.bld; rw [hE.out]; simpa only [List.append_assoc, List.cons_append, List.nil_append] using this
  · exact (((Below.refl _ _).alloc hB.size _).trans (q2.low.mono (by have := h1.low.size; exact this))).trans (b3.trans (b4.trans b5))
  · exact (((Lib.OthersKept.refl _ _ _).alloc _).trans (others_quiet q2)).trans (k3.trans (k4.trans k5))
set_option maxHeartbeats 1000000 in
theorem write_nil (w0 : World) (ht : Tab w0) (b : Nat) (n : Int) : WriteOk w0 b ⟨0, n, []⟩ := by
  intro ao cap l w hI hB hb hlen
  have h1 := st_start hB hb 0 n (.slice ao 0 cap)
  have hn := hI.fit.2
  have hnl := itoa_len hn
  simp only at hn hnl
  have t1 := ht.low h1.low
  rw [size_mk, sizes_nil] at hlen
  have hE := hid (show (V.mk 0 n []).text = [110, 105, 108] by rw [text_eq]; simp)
  go_enter Tryd.func35, Tryd.ntmps35
  go_wp2_with (first
    | (go_at_call 37; refine (fmt_any n hn _ t1).mono ?_; rintro e w2 ⟨rfl, q2⟩; have h2 := h1.quiet q2; obtain ⟨c0, c1, c2⟩ := h2.cells)
    | (go_at_call 41; refine (puts_str h2 _ [110, 105, 108] rfl (by simp; omega)).mono ?_; rintro e w3 ⟨rfl, h3, b3, k3⟩))
  go_end0
  refine ⟨rfl, ?_, ?_, ?_⟩
  · have := h3.bld; rw [hE.out]; simpa only [List.append_assoc, List.cons_append, List.nil_append] using this
  · exact (((Below.refl _ _).alloc hB.size _).trans (q2.low.mono (by have := h1.low.size; exact this))).trans b3
  · exact (((Lib.OthersKept.refl _ _ _).alloc _).trans (others_quiet q2)).trans k3
set_option maxHeartbeats 1000000 in
theorem write_int (w0 : World) (ht : Tab w0) (b : Nat) (n : Int) : WriteOk w0 b ⟨1, n, []⟩ := by
  intro ao cap l w hI hB hb hlen
  have h1 := st_start hB hb 1 n (.slice ao 0 cap)
  have hn := hI.fit.2
  have hnl := itoa_len hn
  simp only at hn hnl
  have t1 := ht.low h1.low
  rw [size_mk, sizes_nil] at hlen
  have hE := hid (show (V.mk 1 n []).text = Lib.itoa n by rw [text_eq]; simp)
  go_enter Tryd.func35, Tryd.ntmps35
  go_wp2_with (first
    | (go_at_call 37; refine (fmt_any n hn _ t1).mono ?_; rintro e w2 ⟨rfl, q2⟩; have h2 := h1.quiet q2; obtain ⟨c0, c1, c2⟩ := h2.cells)
    | (go_at_call 41; refine (puts_str h2 _ (Lib.itoa n) rfl (by omega)).mono ?_; rintro e w3 ⟨rfl, h3, b3, k3⟩))
  go_end0
  refine ⟨rfl, ?_, ?_, ?_⟩
  · have := h3.bld; rw [hE.out]; simpa only [List.append_assoc, List.cons_append, List.nil_append] using this
  · exact (((Below.refl _ _).alloc hB.size _).trans (q2.low.mono (by have := h1.low.size; exact this))).trans b3
  · exact (((Lib.OthersKept.refl _ _ _).alloc _).trans (others_quiet q2)).trans k3
set_option maxHeartbeats 1000000 in
theorem write_cap (w0 : World) (ht : Tab w0) (b : Nat) (n : Int) : WriteOk w0 b ⟨4, n, []⟩ := by
  intro ao cap l w hI hB hb hlen
  have h1 := st_start hB hb 4 n (.slice ao 0 cap)
  have hn := hI.fit.2
  have hnl := itoa_len hn
  simp only at hn hnl
  have t1 := ht.low h1.low
  rw [size_mk, sizes_nil] at hlen
  have hE := hid (show (V.mk 4 n []).text = 35 :: Lib.itoa n by rw [text_eq]; simp)
  go_enter Tryd.func35, Tryd.ntmps35
  go_wp2_with (first
    | (go_at_call 37; refine (fmt_any n hn _ t1).mono ?_; rintro e w2 ⟨rfl, q2⟩; have h2 := h1.quiet q2; obtain ⟨c0, c1, c2⟩ := h2.cells)
    | (go_at_call 41; refine (puts_str h2 _ (35 :: Lib.itoa n) (by rw [show (ByteArray.mk #[35]) = ByteArray.mk [35].toArray from rfl, ba_app]; rfl) (by simp; omega)).mono ?_; rintro e w3 ⟨rfl, h3, b3, k3⟩))
  go_end0
  refine ⟨rfl, ?_, ?_, ?_⟩
  · have := h3.bld; rw [hE.out]; simpa only [List.append_assoc, List.cons_append, List.nil_append] using this
  · exact (((Below.refl _ _).alloc hB.size _).trans (q2.low.mono (by have := h1.low.size; exact this))).trans b3
  · exact (((Lib.OthersKept.refl _ _ _).alloc _).trans (others_quiet q2)).trans k3
set_option maxHeartbeats 1000000 in
theorem write_gate (w0 : World) (ht : Tab w0) (b : Nat) (n : Int) : WriteOk w0 b ⟨5, n, []⟩ := by
  intro ao cap l w hI hB hb hlen
  have h1 := st_start hB hb 5 n (.slice ao 0 cap)
  have hn := hI.fit.2
  have hnl := itoa_len hn
  simp only at hn hnl
  have t1 := ht.low h1.low
  rw [size_mk, sizes_nil] at hlen
  have hE := hid (show (V.mk 5 n []).text = 33 :: Lib.itoa n by rw [text_eq]; simp)
  go_enter Tryd.func35, Tryd.ntmps35
  go_wp2_with (first
    | (go_at_call 37; refine (fmt_any n hn _ t1).mono ?_; rintro e w2 ⟨rfl, q2⟩; have h2 := h1.quiet q2; obtain ⟨c0, c1, c2⟩ := h2.cells)
    | (go_at_call 41; refine (puts_str h2 _ (33 :: Lib.itoa n) (by rw [show (ByteArray.mk #[33]) = ByteArray.mk [33].toArray from rfl, ba_app]; rfl) (by simp; omega)).mono ?_; rintro e w3 ⟨rfl, h3, b3, k3⟩))
  go_end0
  refine ⟨rfl, ?_, ?_, ?_⟩
  · have := h3.bld; rw [hE.out]; simpa only [List.append_assoc, List.cons_append, List.nil_append] using this
  · exact (((Below.refl _ _).alloc hB.size _).trans (q2.low.mono (by have := h1.low.size; exact this))).trans b3
  · exact (((Lib.OthersKept.refl _ _ _).alloc _).trans (others_quiet q2)).trans k3
set_option maxHeartbeats 1000000 in
theorem write_pair (w0 : World) (ht : Tab w0) (b : Nat) (n : Int) (x y : V) (hx : WriteOk w0 b x) (hy : WriteOk w0 b y) : WriteOk w0 b ⟨2, n, [x, y]⟩ := by
  intro ao cap l w hI hB hb hlen
  have h1 := st_start hB hb 2 n (.slice ao 2 cap)
  have hn := hI.fit.2
  have hnl := itoa_len hn
  simp only at hn hnl
  have t1 := ht.low h1.low
  obtain ⟨bb, oo, e, d0, d1, ca, cc, d2, hk⟩ := hI.get3 0 (by simp)
  obtain ⟨bb', oo', e', f0, f1, fa, fc, f2, hk2⟩ := hI.get3 1 (by simp)
  subst e
  cases e'
  simp only [List.getElem_cons_zero, List.getElem_cons_succ, Nat.zero_mul, Nat.one_mul, Nat.add_zero] at d0 d1 d2 hk f0 f1 f2 hk2
  rw [size_mk, sizes_cons, sizes_cons, sizes_nil] at hlen
  have hxl := text_len w0 x ca hk
  have hyl := text_len w0 y fa hk2
  have hE := hid (show (V.mk 2 n [x, y]).text = 40 :: (x.text ++ 32 :: (y.text ++ [41])) by rw [text_eq]; simp [texts_one, texts_two])
  go_enter Tryd.func35, Tryd.ntmps35
  go_wp2_with (first
    | (go_at_call 41; refine (puts_str h6 _ [41] rfl (by simp; omega)).mono ?_; rintro e w7 ⟨rfl, h7, b7, k7⟩)
    | (go_at_call 35; refine (hy fa fc _ _ hk2 h5.low h5.bld (by simp; omega)).mono ?_; rintro e w6 ⟨rfl, hb6, b6, k6⟩; have h6 := h5.next hb6 b6 k6)
    | (go_at_call 41; refine (puts_str h4 _ [32] rfl (by simp; omega)).mono ?_; rintro e w5 ⟨rfl, h5, b5, k5⟩; obtain ⟨c0'', c1'', c2''⟩ := h5.cells; obtain ⟨f0', f1', f2'⟩ := kid_cells h5.low f0 f1 f2)
    | (go_at_call 35; refine (hx ca cc _ _ hk h3.low h3.bld (by simp; omega)).mono ?_; rintro e w4 ⟨rfl, hb4, b4, k4⟩; have h4 := h3.next hb4 b4 k4)
    | (go_at_call 41; refine (puts_str h2 _ [40] rfl (by simp; omega)).mono ?_; rintro e w3 ⟨rfl, h3, b3, k3⟩; obtain ⟨c0', c1', c2'⟩ := h3.cells; obtain ⟨d0', d1', d2'⟩ := kid_cells h3.low d0 d1 d2)
    | (go_at_call 37; refine (fmt_any n hn _ t1).mono ?_; rintro e w2 ⟨rfl, q2⟩; have h2 := h1.quiet q2; obtain ⟨c0, c1, c2⟩ := h2.cells))
  go_end0
  refine ⟨rfl, ?_, ?_, ?_⟩
  · have := h7.bld; rw [hE.out]; simpa only [List.append_assoc, List.cons_append, List.nil_append] using this
  · exact (((Below.refl _ _).alloc hB.size _).trans (q2.low.mono (by have := h1.low.size; exact this))).trans (b3.trans (b4.trans (b5.trans (b6.trans b7))))
  · exact (((Lib.OthersKept.refl _ _ _).alloc _).trans (others_quiet q2)).trans (k3.trans (k4.trans (k5.trans (k6.trans k7))))
theorem write_any (w0 : World) (ht : Tab w0) (b : Nat) (v : V) : v.fault = 0 → WriteOk w0 b v := by
  induction v using V.ind with
  | h k n l ih =>
    intro hf
    have h1 := fault_one hf
    have hk : ∀ x ∈ l, x.fault = 0 := by
      intro x hx
      obtain ⟨i, hi, rfl⟩ := List.getElem_of_mem hx
      exact fault_get hf i hi
    unfold V.fault1 at h1
    cases hp : partsB k with
    | none => simp [hp] at h1
    | some p =>
      simp only [hp] at h1
      have hl : l.length = p := by
        by_cases h : l.length = p
        · exact h
        · simp [h] at h1
      rcases parts_cases hp with ⟨rfl, rfl⟩ | ⟨rfl, rfl⟩ | ⟨rfl, rfl⟩ | ⟨rfl, rfl⟩ | ⟨rfl, rfl⟩ | ⟨rfl, rfl⟩
      · match l, hl with
        | [x, y], _ => exact write_pair w0 ht b n x y (ih x (by simp) (hk x (by simp))) (ih y (by simp) (hk y (by simp)))
      · match l, hl with
        | [x], _ => exact write_seal w0 ht b n x (ih x (by simp) (hk x (by simp)))
      · obtain rfl := List.eq_nil_of_length_eq_zero hl
        exact write_nil w0 ht b n
      · obtain rfl := List.eq_nil_of_length_eq_zero hl
        exact write_int w0 ht b n
      · obtain rfl := List.eq_nil_of_length_eq_zero hl
        exact write_cap w0 ht b n
      · obtain rfl := List.eq_nil_of_length_eq_zero hl
        exact write_gate w0 ht b n
set_option maxHeartbeats 1000000 in
theorem text_any (v : V) (ao : Option Addr) (cap : Nat) (w : World) (ht : Tab w) (hI : Is w v ao) (hC : v.check = 0) :
    Calls Tryd.prog 19 #[.agg #[.int .i64 v.kind, .int .i64 v.n, .slice ao v.l.length cap]] w fun e w' => e = .returned (.string ⟨v.text.toArray⟩) ∧ Quiet w w' := by
  have q1 : Quiet w (w.alloc (.cells #[.int .i64 v.kind, .int .i64 v.n, .slice ao v.l.length cap] 24)) := Kp.alloc _ _
  have hS : v.size ≤ 40 := check_size hC
  have hm := hid (check_any v ao cap _ (hI.quiet q1) (by omega))
  have hs : ∀ w2, Quiet w w2 → _ := fun w2 q2 => write_any w ht w2.heap.size v (check_fault hC) ao cap [] (w2.alloc (.cells #[.pointer none, .slice none 0 0] 45)) hI (q2.trans (Kp.alloc _ _)).low (.inl ⟨q2.size, .slice none 0 0, heap_alloc_new w2 _, World.ownsRow_nil _ _ _ _, by simp [Value.ownBlock]⟩) (by simp; omega)
  have HC := hid hC
  clear hC
  go_enter Tryd.func19, Tryd.ntmps19
  go_wp2_with (first
    | (go_at_call 9; refine hm.out.mono ?_; rintro e w2 ⟨rfl, q2⟩; rw [HC.out]; have q12 := q1.trans q2; have c0 : w2.cell? ⟨w.heap.size, 0, none⟩ = some (.int .i64 v.kind) := q2.cell (by simp) (fun e => e); have c1 : w2.cell? ⟨w.heap.size, 1, none⟩ = some (.int .i64 v.n) := q2.cell (by simp) (fun e => e); have c2 : w2.cell? ⟨w.heap.size, 2, none⟩ = some (.slice ao v.l.length cap) := q2.cell (by simp) (fun e => e); have z2 : w.heap.size < w2.heap.size := by have := q2.size; simp at this; omega)
    | (go_at_call 35; refine (hs w2 q12).mono ?_; rintro e w3 ⟨rfl, hb3, b3, k3⟩; rw [List.nil_append] at hb3; have z3 : w.heap.size ≤ w3.heap.size := by have := b3.size; simp at this; omega)
    | (go_at_call 36; refine (string_any w.heap.size w2.heap.size v.text w3 hb3 z3).mono ?_; rintro e w4 ⟨rfl, b4⟩))
  go_ret
  exact ⟨rfl, quiet_of (((q12.low.trans ((Below.refl _ _).alloc q12.size _)).trans b3).trans b4)⟩
end Go.Proofs.YtekkecnhnaejlabDoor
