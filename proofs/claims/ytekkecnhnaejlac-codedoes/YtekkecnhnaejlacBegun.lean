/- The laws' own beginning: two modules, asked some questions. -/
import Derived.Test.YtekkecnhnaejlacTell
namespace Go.Proofs.Ytekkecnhnaejlac
open Go.ChangeShapes Go.WideShapes Go.ChangeAt Go.RowKit
def b1 : V := ⟨2, 0, 1, []⟩
def b2 : V := ⟨4, 0, 0, []⟩
def bm : List V := [⟨5, 0, 0, [b1, b2]⟩]
def bn : List V := [⟨5, 0, 0, [b2, b1]⟩]
theorem b1_bad (o : Int) : b1.bad 1 o = 0 := by rw [bad_eq]; simp [b1, fault1, partsI, faultK, bads_nil]
theorem b2_bad1 : b2.bad 1 1 = 0 := by rw [bad_eq]; simp [b2, fault1, partsI, faultK, bads_nil]
theorem b2_bad0 : b2.bad 1 0 = 1 := by rw [bad_eq]; simp [b2, fault1, partsI, faultK]
theorem bm_fault : modFault bm = (0, 0) := by
  have h1 : fun1 1 ⟨5, 0, 0, [b1, b2]⟩ = 0 := by
    unfold fun1
    rw [if_neg (by rw [deep_eq]; simp [deeps_cons, deeps_nil, deep_eq, b1, b2]), if_neg (by rw [size_eq]; simp [sizes_cons, sizes_nil, size_eq, b1, b2]), bad_eq]
    have : fault1 1 ⟨5, 0, 0, [b1, b2]⟩ 0 = 0 := by simp [fault1, partsI, faultK]
    rw [if_pos this]
    simp only [bads_cons, bads_nil, opens]
    simp [b1_bad, b2_bad1]
  unfold modFault
  simp [bm, funs, h1]
theorem bn_fault : modFault bn = (1, 0) := by
  have h1 : fun1 1 ⟨5, 0, 0, [b2, b1]⟩ = 1 := by
    unfold fun1
    rw [if_neg (by rw [deep_eq]; simp [deeps_cons, deeps_nil, deep_eq, b1, b2]), if_neg (by rw [size_eq]; simp [sizes_cons, sizes_nil, size_eq, b1, b2]), bad_eq]
    have : fault1 1 ⟨5, 0, 0, [b2, b1]⟩ 0 = 0 := by simp [fault1, partsI, faultK]
    rw [if_pos this]
    simp only [bads_cons, bads_nil, opens]
    simp [b2_bad0]
  unfold modFault
  simp [bn, funs, h1]
theorem bmn_same : sames bm bn = false := sames_false (by simp [bm, bn, b1, b2])
theorem bm_sizes : sizes bm = 3 := by simp [bm, sizes_cons, sizes_nil, size_eq, b1, b2]
theorem bn_sizes : sizes bn = 3 := by simp [bn, sizes_cons, sizes_nil, size_eq, b1, b2]
theorem in_small (z : Int) (h : 0 ≤ z ∧ z ≤ 100) : In64 z := ⟨by omega, by omega⟩
theorem b1_fits : b1.fits := ⟨in_small _ (by decide), in_small _ (by decide), in_small _ (by decide)⟩
theorem b2_fits : b2.fits := ⟨in_small _ (by decide), in_small _ (by decide), in_small _ (by decide)⟩
/-- Two leaves in a row, in an expression in a row. -/
theorem fo_two {w : World} {x y : Nat} {a b : V} (ha : a.l = []) (hb : b.l = []) (fa : a.fits) (fb : b.fits)
    (h1 : w.heap[x]? = some (.cells #[.int .i64 a.kind, .int .i64 a.k, .int .i64 a.n, .slice none 0 0, .int .i64 b.kind, .int .i64 b.k, .int .i64 b.n, .slice none 0 0] 35 (0, 0)))
    (h2 : w.heap[y]? = some (.cells #[.int .i64 5, .int .i64 0, .int .i64 0, .slice (some ⟨x, 0, none⟩) 2 2] 35 (0, 0))) : Fo w [⟨5, 0, 0, [a, b]⟩] (some ⟨y, 0, none⟩) := by
  have ka : a.at w x 0 := (at_iff _ _ _ _).2 ⟨⟨by simp [World.cell?, h1], by simp [World.cell?, h1], by simp [World.cell?, h1]⟩, none, 0, by simp [World.cell?, h1, ha], Is.leaf _ _ fa ha _⟩
  have kb : b.at w x 4 := (at_iff _ _ _ _).2 ⟨⟨by simp [World.cell?, h1], by simp [World.cell?, h1], by simp [World.cell?, h1]⟩, none, 0, by simp [World.cell?, h1, hb], Is.leaf _ _ fb hb _⟩
  refine fo_single (v := ⟨5, 0, 0, [a, b]⟩) (ao := some ⟨x, 0, none⟩) (cap := 2) h2 ⟨⟨in_small 5 (by decide), in_small 0 (by decide), in_small 0 (by decide)⟩, fun i hi => ?_⟩
  have hi2 : i < 2 := by simpa using hi
  match i, hi2 with
  | 0, _ => exact ⟨x, 0, rfl, by simpa using ka⟩
  | 1, _ => exact ⟨x, 0, rfl, by simpa using kb⟩
theorem num_any (n : Int) (w : World) : Calls Try.prog 15 #[.int .i64 n] w fun e w' => e = .returned (.agg #[.int .i64 2, .int .i64 0, .int .i64 n, .slice none 0 0]) ∧ Quiet w w' := by
  go_enter Try.func15, Try.ntmps15
  go_wp2
  refine bodyPost_ret (v := .agg #[.int .i64 2, .int .i64 0, .int .i64 n, .slice none 0 0]) (by simp [results, Try.results15, go_sem]) rfl ?_
  exact ⟨rfl, Kp.alloc _ _⟩
theorem eqF (a b c d : Int) (w : World) : (Op.equalIn 10000 29 (.agg #[.int .i64 a, .int .i64 b]) (.agg #[.int .i64 c, .int .i64 d])).run Try.prog w = .ok (a == c && b == d) w := by
  have hS : Try.prog.underlying 29 = some (.struct (Try.prog.fieldsOf 29)) := by kernel_rfl
  have hp : Try.prog.stoodInHeld 29 = false := by kernel_rfl
  rw [show (10000 : Nat) = 9999 + 1 from rfl, run_equalIn_agg w 9999 29 _ _ hS hp]
  simp only [Program.fieldsOf, Try.underlying29]
  go_simp
  by_cases h1 : a = c <;> by_cases h2 : b = d <;> simp [h1, h2]
theorem fieldF (a b : Int) (w : World) : (Instr.field 29 (.agg #[.int .i64 a, .int .i64 b]) 0).run Try.prog w = .ok (.int .i64 a) w := by
  unfold Instr.field
  simp [run_underlying Try.underlying29, part, asAgg, go_sem, Result.andThen]
/-- The memory of the beginning. -/
structure Beg (w : World) (h : Nat) (a b : V) : Prop where
  row : w.heap[h]? = some (.cells #[.int .i64 a.kind, .int .i64 a.k, .int .i64 a.n, .slice none 0 0, .int .i64 b.kind, .int .i64 b.k, .int .i64 b.n, .slice none 0 0] 35 (0, 0))
  top : w.heap[h + 1]? = some (.cells #[.int .i64 5, .int .i64 0, .int .i64 0, .slice (some ⟨h, 0, none⟩) 2 2] 35 (0, 0))
  mod : w.heap[h + 1 + 1]? = some (.cells #[.slice (some ⟨h + 1, 0, none⟩) 1 1] 24 (0, 0))
theorem Beg.quiet {w w' : World} {h : Nat} {a b : V} (H : Beg w h a b) (q : Quiet w w') : Beg w' h a b :=
  ⟨(q.block _ (lt_of_block H.row) fun e => e).trans H.row, (q.block _ (lt_of_block H.top) fun e => e).trans H.top, (q.block _ (lt_of_block H.mod) fun e => e).trans H.mod⟩
theorem Beg.fo {w : World} {h : Nat} {a b : V} (H : Beg w h a b) (ha : a.l = []) (hb : b.l = []) (fa : a.fits) (fb : b.fits) : Fo (cln w) [⟨5, 0, 0, [a, b]⟩] (some ⟨h + 1, 0, none⟩) :=
  fo_two ha hb fa fb (cln_same H.row) (cln_same H.top)
theorem beg_new (w : World) (a b : V) : Beg (((w.alloc (.cells #[.int .i64 a.kind, .int .i64 a.k, .int .i64 a.n, .slice none 0 0, .int .i64 b.kind, .int .i64 b.k, .int .i64 b.n, .slice none 0 0] 35)).alloc (.cells #[.int .i64 5, .int .i64 0, .int .i64 0, .slice (some ⟨w.heap.size, 0, none⟩) 2 2] 35)).alloc (.cells #[.slice (some ⟨w.heap.size + 1, 0, none⟩) 1 1] 24)) w.heap.size a b := by
  refine ⟨?_, ?_, ?_⟩
  · rw [Below.heap_alloc _ _ _ (by simp; omega), Below.heap_alloc _ _ _ (by simp)]; exact heap_alloc_new w _
  · rw [Below.heap_alloc _ _ _ (by simp)]; exact heap_two w _ _
  · have := heap_alloc_new ((w.alloc (.cells #[.int .i64 a.kind, .int .i64 a.k, .int .i64 a.n, .slice none 0 0, .int .i64 b.kind, .int .i64 b.k, .int .i64 b.n, .slice none 0 0] 35)).alloc (.cells #[.int .i64 5, .int .i64 0, .int .i64 0, .slice (some ⟨w.heap.size, 0, none⟩) 2 2] 35)) (.cells #[.slice (some ⟨w.heap.size + 1, 0, none⟩) 1 1] 24)
    simpa using this
set_option maxHeartbeats 4000000 in
theorem begun_any (w : World) : Calls Try.prog 5 #[] w fun e w' => e = .returned (.bool true) ∧ Quiet w w' := by
  have hq := eqF
  have hfd := fieldF
  go_enter Try.func5, Try.ntmps5
  go_wp2_with (first
    | (go_at_call 10; refine (parts_any 7 _).mono ?_; rintro e w8 ⟨rfl, h8⟩; have H8 := hid q6; rw [show partsI 7 = 3 from rfl])
    | (go_at_call 14; refine (sameM_any bm bn (some ⟨w2.heap.size + 1, 0, none⟩) (some ⟨w3.heap.size + 1, 0, none⟩) 1 1 w5 ((HX.out w5 q5).1.fo rfl rfl b1_fits b2_fits).unclean ((HX.out w5 q5).2.fo rfl rfl b2_fits b1_fits).unclean (by rw [bm_sizes]; decide)).mono ?_; rintro e w6 ⟨rfl, q6⟩; replace q6 := q5.trans q6; rw [bmn_same])
    | (go_at_call 8; refine (check_any bn (some ⟨w3.heap.size + 1, 0, none⟩) 1 w4 ((HX.out w4 q4).2.fo rfl rfl b2_fits b1_fits) (by rw [bn_sizes]; decide)).mono ?_; rintro e w5 ⟨rfl, q5⟩; replace q5 := q4.trans q5; rw [bn_fault]; have m5 := mod_cell (HX.out w5 q5).1.mod; have n5 := mod_cell (HX.out w5 q5).2.mod)
    | (go_at_call 8; refine (check_any bm (some ⟨w2.heap.size + 1, 0, none⟩) 1 _ ((HX.out _ (Kp.refl _ _)).1.fo rfl rfl b1_fits b2_fits) (by rw [bm_sizes]; decide)).mono ?_; rintro e w4 ⟨rfl, q4⟩; rw [bm_fault]; have m4 := mod_cell (HX.out w4 q4).1.mod; have n4 := mod_cell (HX.out w4 q4).2.mod)
    | (go_at_call 15; refine (num_any 1 _).mono ?_; rintro e w3 ⟨rfl, q3⟩; have m3 := mod_cell (HB2.out.quiet q3).mod; have z3 : w2.heap.size + 1 + 1 < w3.heap.size := (lt_of_block (HB2.out.quiet q3).mod); have HX := hid (fun (w' : World) (q : Quiet (((w3.alloc (.cells #[.int .i64 4, .int .i64 0, .int .i64 0, .slice none 0 0, .int .i64 2, .int .i64 0, .int .i64 1, .slice none 0 0] 35)).alloc (.cells #[.int .i64 5, .int .i64 0, .int .i64 0, .slice (some ⟨w3.heap.size, 0, none⟩) 2 2] 35)).alloc (.cells #[.slice (some ⟨w3.heap.size + 1, 0, none⟩) 1 1] 24)) w') => And.intro (((HB2.out.quiet q3).quiet ((Kp.alloc _ _).trans ((Kp.alloc _ _).trans (Kp.alloc _ _)))).quiet q) ((beg_new w3 b2 b1).quiet q)); have m33 := mod_cell (HX.out _ (Kp.refl _ _)).1.mod)
    | (go_at_call 15; refine (num_any 1 _).mono ?_; rintro e w2 ⟨rfl, q2⟩; have HB2 := hid (beg_new w2 b1 b2)))
  go_ret
  exact ⟨rfl, q2.trans ((((Kp.alloc _ _).trans ((Kp.alloc _ _).trans (Kp.alloc _ _))).trans q3).trans (((Kp.alloc _ _).trans ((Kp.alloc _ _).trans (Kp.alloc _ _))).trans H8.out))⟩
end Go.Proofs.Ytekkecnhnaejlac
