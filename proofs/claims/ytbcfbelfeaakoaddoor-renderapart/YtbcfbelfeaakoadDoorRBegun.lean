/- Print, where the memory is its own; the statements' beginning: one module. -/
import Derived.Test.YtbcfbelfeaakoadDoorPrintX
namespace Go.Proofs.YtbcfbelfeaakoadDoor
open Go.ChangeShapes Go.WideShapes Go.ChangeAt Go.RowKit
theorem mod_some {l : List V} (h : (modFault l).1 = 0) : 1 ≤ l.length := by
  unfold modFault at h
  by_cases h1 : l.length < 1 ∨ 6 < l.length
  · rw [if_pos h1] at h; cases h
  · omega
theorem printQ_out {l : List V} {w w' : World} {e : Ending} (h : PrintQ (fun f => f = modFault l) l w e w') : e = .returned (.tuple #[.string ⟨(printX (modFault l) l).1.toArray⟩, faultV (printX (modFault l) l).2]) ∧ Quiet w w' := by
  obtain ⟨f, h1, rfl, h3⟩ := h
  exact ⟨h1, h3⟩
theorem print_any (l : List V) (ao : Option Addr) (cap : Nat) (w : World) (ht : Laid w) (hF : Fo (cln w) l ao) (hS : sizes l ≤ 20000) :
    Calls Tryd.prog 14 #[.agg #[.slice ao l.length cap]] w fun e w' => e = .returned (.tuple #[.string ⟨(printX (modFault l) l).1.toArray⟩, faultV (printX (modFault l) l).2]) ∧ Quiet w w' := by
  refine (print_of l ao cap w ht hF.unclean hS (fun f => f = modFault l) (fun f hf h0 => mod_some (by rw [← hf]; exact h0)) fun w1 q => (check_any l ao cap w1 (hF.cleanQ q) hS).mono ?_).mono fun e w' h => printQ_out h
  rintro e w' ⟨he, q'⟩
  exact ⟨modFault l, he, rfl, q'⟩
def ra : V := ⟨3, 0, 0, []⟩
def rm : List V := [⟨15, 3, 0, [ra]⟩]
theorem rm_fault : modFault rm = (0, 0) := by decide
theorem dec3 : Lib.decDigits 3 = [51] := by rw [Lib.decDigits, dif_pos (by decide)]; rfl
theorem itoa3 : Lib.itoa 3 = [51] := by rw [Lib.itoa, if_neg (by decide)]; exact dec3
theorem rm_text : linesX rm = [102, 117, 110, 32, 40, 110, 97, 114, 114, 111, 119, 32, 51, 32, 40, 97, 114, 103, 41, 41, 10] := by
  have h1 : headX ⟨15, 3, 0, [ra]⟩ = [110, 97, 114, 114, 111, 119, 32, 51] := by
    rw [headX, show tailX ⟨15, 3, 0, [ra]⟩ = 32 :: Lib.itoa 3 by simp [tailX], itoa3]; rfl
  have h2 : headX ra = [97, 114, 103] := by decide
  simp only [rm, linesX, lineX, text_eq, texts_cons, texts_nil, h1]
  rw [h2]
  simp [ra, texts_nil]
theorem rm_print : printX (modFault rm) rm = (linesX rm, (0, 0)) := by
  rw [rm_fault]; unfold printX; rw [if_neg (by simp), if_neg (by rw [rm_text]; decide)]
theorem rm_sizes : sizes rm = 2 := by decide
theorem in_small (z : Int) (h : 0 ≤ z ∧ z ≤ 100) : In64 z := ⟨by omega, by omega⟩
theorem rm_fo {w : World} {x y : Nat} (h1 : w.heap[x]? = some (.cells #[.int .i64 3, .int .i64 0, .int .i64 0, .slice none 0 0] 42 (0, 0))) (h2 : w.heap[y]? = some (.cells #[.int .i64 15, .int .i64 3, .int .i64 0, .slice (some ⟨x, 0, none⟩) 1 1] 42 (0, 0))) : Fo w rm (some ⟨y, 0, none⟩) := by
  refine fo_single (v := ⟨15, 3, 0, [ra]⟩) (ao := some ⟨x, 0, none⟩) (cap := 1) h2 ⟨⟨in_small 15 (by decide), in_small 3 (by decide), in_small 0 (by decide)⟩, ?_⟩
  exact fo_single (v := ra) (ao := none) (cap := 0) h1 (Is.leaf _ _ ⟨in_small 3 (by decide), in_small 0 (by decide), in_small 0 (by decide)⟩ rfl _)
theorem print_rm (w : World) (ht : Laid w) : Calls Tryd.prog 14 #[.agg #[.slice (some ⟨w.heap.size + 1, 0, none⟩) 1 1]] ((w.alloc (.cells #[.int .i64 3, .int .i64 0, .int .i64 0, .slice none 0 0] 42)).alloc (.cells #[.int .i64 15, .int .i64 3, .int .i64 0, .slice (some ⟨w.heap.size, 0, none⟩) 1 1] 42)) fun e w' =>
    e = .returned (.tuple #[.string ⟨#[102, 117, 110, 32, 40, 110, 97, 114, 114, 111, 119, 32, 51, 32, 40, 97, 114, 103, 41, 41, 10]⟩, .agg #[.int .i64 0, .int .i64 0]]) ∧ Quiet w w' := by
  have q2 : Quiet w ((w.alloc (.cells #[.int .i64 3, .int .i64 0, .int .i64 0, .slice none 0 0] 42)).alloc (.cells #[.int .i64 15, .int .i64 3, .int .i64 0, .slice (some ⟨w.heap.size, 0, none⟩) 1 1] 42)) := (Kp.alloc _ _).trans (Kp.alloc _ _)
  have hb0 : ((w.alloc (.cells #[.int .i64 3, .int .i64 0, .int .i64 0, .slice none 0 0] 42)).alloc (.cells #[.int .i64 15, .int .i64 3, .int .i64 0, .slice (some ⟨w.heap.size, 0, none⟩) 1 1] 42)).heap[w.heap.size]? = some (.cells #[.int .i64 3, .int .i64 0, .int .i64 0, .slice none 0 0] 42 (0, 0)) := by
    rw [Below.heap_alloc _ _ _ (by simp)]; exact heap_alloc_new w _
  have hF := rm_fo (cln_same hb0) (cln_same (heap_two w _ _))
  have h := print_any rm _ 1 _ (ht.quiet q2) hF (by rw [rm_sizes]; decide)
  rw [rm_print, rm_text] at h
  refine h.mono ?_
  rintro e w' ⟨he, q⟩
  exact ⟨he, q2.trans q⟩
set_option maxRecDepth 8000 in
set_option maxHeartbeats 2000000 in
theorem rbegun_any (w : World) (ht : Laid w) : Calls Tryd.prog 11 #[] w fun e w' => e = .returned (.bool true) ∧ Quiet w w' := by
  have HP := hid (print_rm w ht)
  clear ht
  go_enter Tryd.func11, Tryd.ntmps11
  go_wp2_with (go_at_call 14; refine HP.out.mono ?_; rintro e w2 ⟨rfl, q2⟩)
  go_ret
  exact ⟨rfl, q2.trans (Kp.alloc _ _)⟩
theorem eqF (a b c d : Int) (w : World) : (Op.equalIn 10000 27 (.agg #[.int .i64 a, .int .i64 b]) (.agg #[.int .i64 c, .int .i64 d])).run Tryd.prog w = .ok (a == c && b == d) w := by
  have hS : Tryd.prog.underlying 27 = some (.struct (Tryd.prog.fieldsOf 27)) := by kernel_rfl
  have hp : Tryd.prog.stoodInHeld 27 = false := by kernel_rfl
  rw [show (10000 : Nat) = 9999 + 1 from rfl, run_equalIn_agg w 9999 27 _ _ hS hp]
  simp only [Program.fieldsOf, Tryd.underlying27]
  go_simp
  by_cases h1 : a = c <;> by_cases h2 : b = d <;> simp [h1, h2]
end Go.Proofs.YtbcfbelfeaakoadDoor
