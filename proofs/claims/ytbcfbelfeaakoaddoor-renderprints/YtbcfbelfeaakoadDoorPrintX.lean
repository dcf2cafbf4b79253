/- The contract of Print, whatever is told of Check. -/
import Derived.Test.YtbcfbelfeaakoadDoorExprX
import Derived.Test.YtbcfbelfeaakoadDoorCheckZ
namespace Go.Proofs.YtbcfbelfeaakoadDoor
open Go.ChangeShapes Go.WideShapes Go.ChangeAt Go.RowKit
/-- A fault as it is told. -/
def faultV (f : Int × Int) : Value := .agg #[.int .i64 f.1, .int .i64 f.2]
/-- What Print tells, if Check told such a fault. -/
def PrintQ (P : Int × Int → Prop) (l : List V) (w : World) (e : Ending) (w' : World) : Prop := ∃ f : Int × Int, e = .returned (.tuple #[.string ⟨(printX f l).1.toArray⟩, faultV (printX f l).2]) ∧ P f ∧ Quiet w w'
theorem printQ_mk {P : Int × Int → Prop} {l : List V} {w w' : World} {e : Ending} (f : Int × Int) (s : List UInt8) (g : Int × Int) (hx : printX f l = (s, g)) (h1 : e = .returned (.tuple #[.string ⟨s.toArray⟩, .agg #[.int .i64 g.1, .int .i64 g.2]])) (h2 : P f) (h3 : Quiet w w') : PrintQ P l w e w' := ⟨f, by rw [h1, hx, faultV], h2, h3⟩
theorem lines_ne {l : List V} (h : 1 ≤ l.length) : linesX l ≠ [] := by
  cases l with
  | nil => simp at h
  | cons x l => simp [linesX, lineX]
theorem box_low {w w' : World} {b k : Nat} {c : Array Value} {t : TypeId} (ho : Lib.OthersKept 5 (some b) w w') (h : w.heap[k]? = some (.cells c t (0, 0))) (hk : k ≠ b) (ht : t ≠ 5) : w'.heap[k]? = some (.cells c t (0, 0)) :=
  ho k _ h (by intro e; simp at e; exact hk e) (by intro c fz e; simp at e; exact ht e.2.1)
theorem lines_pre (l : List V) (j : Nat) : (linesX (l.take j)).length ≤ (linesX l).length := by
  have h : linesX l = linesX (l.take j) ++ linesX (l.drop j) := by rw [← lines_app, List.take_append_drop]
  rw [h, List.length_append]; omega
theorem far_set (w0 w : World) (x o : Nat) (y : Value) (h : w0.heap.size ≤ x) : Kp (fun i => w0.heap.size ≤ i) w (w.setCell ⟨x, o, none⟩ y) := Kp.setCell w ⟨x, o, none⟩ y h
theorem far_two (w0 w : World) (x : Nat) (y z : Value) (h : w0.heap.size ≤ x) : Kp (fun i => w0.heap.size ≤ i) w ((w.setCell ⟨x, 0, none⟩ y).setCell ⟨x, 1, none⟩ z) := (far_set w0 _ x 0 y h).trans (far_set w0 _ x 1 z h)
set_option maxRecDepth 8000 in
set_option maxHeartbeats 4000000 in
theorem print_of (l : List V) (ao : Option Addr) (cap : Nat) (w : World) (ht : Laid w) (hF : Fo w l ao) (hS : sizes l ≤ 20000) (P : Int × Int → Prop) (hP1 : ∀ f, P f → f.1 = 0 → 1 ≤ l.length)
    (hC : ∀ w1, Quiet w w1 → Calls Tryd.prog 20 #[.agg #[.slice ao l.length cap]] w1 fun e w' => ∃ f : Int × Int, e = .returned (.agg #[.int .i64 f.1, .int .i64 f.2]) ∧ P f ∧ Quiet w1 w') :
    Calls Tryd.prog 14 #[.agg #[.slice ao l.length cap]] w fun e w' => PrintQ P l w e w' := by
  have q2 : Quiet w ((w.alloc (.cells #[.slice ao l.length cap] 25)).alloc (.cells #[.int .i64 0, .int .i64 0] 27)) := (Kp.alloc _ _).trans (Kp.alloc _ _)
  have hb0 : ((w.alloc (.cells #[.slice ao l.length cap] 25)).alloc (.cells #[.int .i64 0, .int .i64 0] 27)).heap[w.heap.size]? = some (.cells #[.slice ao l.length cap] 25 (0, 0)) := by
    rw [Below.heap_alloc _ _ _ (by simp)]; exact heap_alloc_new w _
  have hb1 := heap_two w (.cells #[.slice ao l.length cap] 25) (.cells #[.int .i64 0, .int .i64 0] 27)
  have hll := sizes_len l
  have hl5 : l.length ≤ 20000 := by omega
  have htl := lines_len hF
  have HC := hid (hC _ q2)
  have HF := hid hF
  have HP := hid hP1
  clear hC hF hP1
  go_enter Tryd.func14, Tryd.ntmps14
  go_wp2_with (go_at_call 20; refine HC.out.mono ?_)
  rintro e w3 ⟨⟨c, a⟩, rfl, hPf, q3⟩
  simp only
  have hb03 := (q3.block _ (lt_of_block hb0) fun e => e).trans hb0
  have hb13 := (q3.block _ (lt_of_block hb1) fun e => e).trans hb1
  have x0 := mod_cell hb03
  obtain ⟨k0, k1, k2, k3⟩ := fault_cells hb13
  have z3 : w.heap.size < w3.heap.size := lt_of_block hb03
  have z3' : w.heap.size + 1 < w3.heap.size := lt_of_block hb13
  have q23 := q2.trans q3
  by_cases hc : c = 0
  · subst hc
    have hl1 := HP.out _ hPf rfl
    have hne := lines_ne hl1
    have q4 : Quiet w (w3.alloc (.cells #[.int .i64 0, .int .i64 a] 27)) := q23.trans (Kp.alloc _ _)
    have hbp := bld_new (w3.alloc (.cells #[.int .i64 0, .int .i64 a] 27)) w.heap.size q4.size
    have q5 : Quiet w ((w3.alloc (.cells #[.int .i64 0, .int .i64 a] 27)).alloc (.cells #[.pointer none, .slice none 0 0] 63)) := q4.trans (Kp.alloc _ _)
    have hbp2 : Bld w.heap.size (w3.heap.size + 1) [] ((w3.alloc (.cells #[.int .i64 0, .int .i64 a] 27)).alloc (.cells #[.pointer none, .slice none 0 0] 63)) := by simpa using hbp
    have hb15 : ((w3.alloc (.cells #[.int .i64 0, .int .i64 a] 27)).alloc (.cells #[.pointer none, .slice none 0 0] 63)).heap[w.heap.size + 1]? = some (.cells #[.int .i64 0, .int .i64 0] 27 (0, 0)) := by
      rw [Below.heap_alloc _ _ _ (by simp; omega), Below.heap_alloc _ _ _ z3']; exact hb13
    have HQ5 := hid (And.intro q5.low (And.intro hbp2 hb15))
    have HPF := hid hPf
    have HNE := hid hne
    clear hbp hbp2 hb15 hb03 hb13 hb0 hb1 q2 q3 q4 q5 hPf hne hl1
    go_wp2
    go_loopw [17] (fun i wr => ∃ j : Nat, j ≤ l.length ∧ i = .int .i64 j ∧ Bld w.heap.size (w3.heap.size + 1) (linesX (l.take j)) wr ∧ Below w.heap.size w wr ∧ wr.heap[w.heap.size + 1]? = some (.cells #[.int .i64 0, .int .i64 0] 27 (0, 0))) (fun i _ => l.length - (intOf i).toNat)
    case atStart => exact ⟨0, Nat.zero_le _, rfl, HQ5.out.2.1, HQ5.out.1, HQ5.out.2.2⟩
    case round =>
      obtain ⟨j, hj, rfl, hbd, hB, hbx⟩ := hrel
      have hpre := lines_pre l j
      have hne1 : w.heap.size + 1 ≠ w3.heap.size + 1 := by omega
      by_cases hlt : j < l.length
      · obtain ⟨bb, oo, rfl, dh, ca, cc, ds, hk⟩ := HF.out.get j hlt
        obtain ⟨d0, d1, d2⟩ := head_kept (low_kept hB) dh
        have dsk := low_kept hB _ _ ds
        have HN := hid (lines_take l j hlt)
        have hus := size_get l j hlt
        generalize l[j] = u at *
        have HL := hid (line_any w ht (w3.heap.size + 1) u ca cc _ (wr.alloc (.cells #[.int .i64 u.kind, .int .i64 u.k, .int .i64 u.n, .slice ca u.l.length cc] 42)) hk (hB.alloc hB.size _) (hbd.quiet (Kp.alloc _ _)) (by omega))
        have HB := hid (And.intro hB hbx)
        have hzw := lt_of_block hbx
        clear dh ds hk hbd hB hbx k0 k1 k2 k3
        go_wp2_with (go_at_call 28; refine HL.out.mono ?_; rintro e w6 ⟨rfl, hb6, b6, o6⟩)
        refine ⟨⟨j + 1, by omega, by go_num, ?_, (HB.out.1.alloc HB.out.1.size _).trans b6, box_low o6 ((Below.heap_alloc _ _ _ hzw).trans HB.out.2) hne1 (by decide)⟩, by simp [intOf]; omega⟩
        rw [HN.out]; exact hb6
      · have hjl : j = l.length := by omega
        subst hjl
        rw [List.take_length] at hbd
        obtain ⟨r0, r1, r2, r3⟩ := fault_cells hbx
        have zr := lt_of_block hbx
        have HB := hid (And.intro hB hbx)
        have HLN := hid (len_any _ _ _ _ hbd)
        have HST := hid (string_any _ _ _ _ hbd HNE.out)
        have hlb : (linesX l).length ≤ 740000 := by omega
        clear hbd hB hbx k0 k1 k2 k3
        by_cases hbig : 6000 < (linesX l).length
        · have HE := hid (show printX (0, a) l = ([], (3, -1)) by unfold printX; rw [if_neg (by simp), if_pos hbig])
          have hbig' : (6000 : Int) < ((linesX l).length : Int) := by omega
          clear hbig
          go_wp2_with (go_at_call 29; refine HLN.out.mono ?_; rintro e w6 ⟨rfl, h6⟩; replace h6 := h6.symm; subst h6)
          refine bodyPost_ret (v := .tuple #[.string ⟨#[]⟩, .agg #[.int .i64 3, .int .i64 (-1)]]) (by simp [results, Tryd.results14, go_sem, r0, r1]) rfl ?_
          refine printQ_mk (0, a) [] (3, -1) HE.out rfl HPF.out ?_
          exact (quiet_of HB.out.1).fresh (far_two w _ _ _ _ (by omega))
        · have HE := hid (show printX (0, a) l = (linesX l, (0, 0)) by unfold printX; rw [if_neg (by simp), if_neg hbig])
          have hbig' : ¬ (6000 : Int) < ((linesX l).length : Int) := by omega
          clear hbig
          go_wp2_with (first
            | (go_at_call 30; refine HST.out.mono ?_; rintro e w7 ⟨rfl, b7, o7⟩; obtain ⟨s0, s1, s2, s3⟩ := fault_cells (box_low o7 HB.out.2 hne1 (by decide)))
            | (go_at_call 29; refine HLN.out.mono ?_; rintro e w6 ⟨rfl, h6⟩; replace h6 := h6.symm; subst h6))
          refine bodyPost_ret (v := .tuple #[.string ⟨(linesX l).toArray⟩, .agg #[.int .i64 0, .int .i64 0]]) (by simp [results, Tryd.results14, go_sem, s0, s1]) rfl ?_
          refine printQ_mk (0, a) (linesX l) (0, 0) HE.out rfl HPF.out ?_
          exact (quiet_of (HB.out.1.trans b7)).fresh (far_two w _ _ _ _ (by omega))
  · have hz1 : (c != 0) = true := by simpa using hc
    have HE := hid (show printX (c, a) l = ([], (c, a)) by unfold printX; rw [if_pos hc])
    clear hb03 hb13 hb0 hb1
    go_wp2
    go_region
    all_goals
      go_wp2
      refine bodyPost_ret (v := .tuple #[.string ⟨#[]⟩, .agg #[.int .i64 c, .int .i64 a]]) (by simp [results, Tryd.results14, go_sem, k0, k1, z3']) rfl ?_
      refine printQ_mk (c, a) [] (c, a) HE.out rfl hPf ?_
      exact q23.fresh ((far_two w _ _ _ _ (by omega)).trans ((Kp.alloc _ _).trans (Kp.drew _)))
end Go.Proofs.YtbcfbelfeaakoadDoor
