/- The contract of listOf; a nil map asked for such a key. -/
import Derived.Test.YtjcniiojcigefadKit
import Derived.Laws.ResultCell
namespace Go.Proofs.Ytjcniiojcigefad
open Go.ChangeShapes Go.WideShapes Go.ChangeAt Go.RowKit
/-- A key: where a list begins, how long it is. -/
def keyOf (a : Option Addr) (n : Nat) : Value := .agg #[.pointer (if n = 0 then none else a), .int .i64 n]
set_option maxRecDepth 8000 in
set_option maxHeartbeats 1000000 in
theorem listOf_any (a : Option Addr) (n cap : Nat) (w : World) (ha : 0 < n → ∃ b o, a = some ⟨b, o, none⟩) :
    Calls Try.prog 34 #[.slice a n cap] w fun e w' => e = .returned (keyOf a n) ∧ Quiet w w' := by
  by_cases hn : n = 0
  · subst hn
    go_enter Try.func34, Try.ntmps34
    go_wp2
    refine bodyPost_ret (v := .agg #[.pointer none, .int .i64 0]) (by simp [results, Try.results34, go_sem]) rfl ?_
    exact ⟨rfl, Kp.alloc _ _⟩
  · obtain ⟨b, o, rfl⟩ := ha (by omega)
    have hn1 : ¬ (n : Int) = 0 := by omega
    have hn2 : (0 : Int) < (n : Int) := by omega
    have hE := hid (show keyOf (some ⟨b, o, none⟩) n = .agg #[.pointer (some ⟨b, o, none⟩), .int .i64 n] by simp [keyOf, hn])
    clear hn
    go_enter Try.func34, Try.ntmps34
    go_wp2
    refine bodyPost_ret (v := .agg #[.pointer (some ⟨b, o, none⟩), .int .i64 n]) (by simp [results, Try.results34, go_sem]) rfl ?_
    exact ⟨by rw [hE.out], Kp.alloc _ _⟩
theorem part0 (p : Option Addr) (n : Int) (w : World) : (part 70 #[.pointer p, .int .i64 n] 0).run Try.prog w = .ok (.pointer p) w := by
  simp [go_sem, part]
theorem part1 (p : Option Addr) (n : Int) (w : World) : (part 3 #[.pointer p, .int .i64 n] 1).run Try.prog w = .ok (.int .i64 n) w := by
  simp [go_sem, part]
theorem key_p (e : Bool) (p : Option Addr) (m : Nat) (w : World) : (Instr.checkKey e (m + 1) 70 (.pointer p)).run Try.prog w = .ok () w := by
  simp [Instr.checkKey, run_underlying Try.underlying70, go_sem]
theorem key_i (e : Bool) (n : Int) (m : Nat) (w : World) : (Instr.checkKey e (m + 1) 3 (.int .i64 n)).run Try.prog w = .ok () w := by
  simp [Instr.checkKey, run_underlying Try.underlying3, go_sem]
theorem key_ok (e : Bool) (p : Option Addr) (n : Int) (m : Nat) (w : World) : (Instr.checkKey e (m + 1 + 1) 72 (.agg #[.pointer p, .int .i64 n])).run Try.prog w = .ok () w := by
  rw [Instr.checkKey]
  simp [run_underlying Try.underlying72, part0, part1, key_p, key_i, Result.andThen]
end Go.Proofs.Ytjcniiojcigefad
