/- The contract of listOf; a nil map asked for such a key. -/
import Derived.Test.YtekkecnhnaejlabDoorKit
import Derived.Laws.ResultCell
namespace Go.Proofs.YtekkecnhnaejlabDoor
open Go.ChangeShapes Go.WideShapes Go.ChangeAt Go.RowKit
/-- A key: where a list begins, how long it is. -/
def keyOf (a : Option Addr) (n : Nat) : Value := .agg #[.pointer (if n = 0 then none else a), .int .i64 n]
set_option maxHeartbeats 1000000 in
theorem listOf_any (a : Option Addr) (n cap : Nat) (w : World) (ha : 0 < n → ∃ b o, a = some ⟨b, o, none⟩) :
    Calls Tryd.prog 39 #[.slice a n cap] w fun e w' => e = .returned (keyOf a n) ∧ Quiet w w' := by
  by_cases hn : n = 0
  · subst hn
    go_enter Tryd.func39, Tryd.ntmps39
    go_wp2
    refine bodyPost_ret (v := .agg #[.pointer none, .int .i64 0]) (by simp [results, Tryd.results39, go_sem]) rfl ?_
    exact ⟨rfl, Kp.alloc _ _⟩
  · obtain ⟨b, o, rfl⟩ := ha (by omega)
    have hn1 : ¬ (n : Int) = 0 := by omega
    have hn2 : (0 : Int) < (n : Int) := by omega
    have hE := hid (show keyOf (some ⟨b, o, none⟩) n = .agg #[.pointer (some ⟨b, o, none⟩), .int .i64 n] by simp [keyOf, hn])
    clear hn
    go_enter Tryd.func39, Tryd.ntmps39
    go_wp2
    refine bodyPost_ret (v := .agg #[.pointer (some ⟨b, o, none⟩), .int .i64 n]) (by simp [results, Tryd.results39, go_sem]) rfl ?_
    exact ⟨by rw [hE.out], Kp.alloc _ _⟩
theorem part0 (p : Option Addr) (n : Int) (w : World) : (part 56 #[.pointer p, .int .i64 n] 0).run Tryd.prog w = .ok (.pointer p) w := by
  simp [go_sem, part]
theorem part1 (p : Option Addr) (n : Int) (w : World) : (part 3 #[.pointer p, .int .i64 n] 1).run Tryd.prog w = .ok (.int .i64 n) w := by
  simp [go_sem, part]
theorem key_p (e : Bool) (p : Option Addr) (m : Nat) (w : World) : (Instr.checkKey e (m + 1) 56 (.pointer p)).run Tryd.prog w = .ok () w := by
  simp [Instr.checkKey, run_underlying Tryd.underlying56, go_sem]
theorem key_i (e : Bool) (n : Int) (m : Nat) (w : World) : (Instr.checkKey e (m + 1) 3 (.int .i64 n)).run Tryd.prog w = .ok () w := by
  simp [Instr.checkKey, run_underlying Tryd.underlying3, go_sem]
theorem key_ok (e : Bool) (p : Option Addr) (n : Int) (m : Nat) (w : World) : (Instr.checkKey e (m + 1 + 1) 58 (.agg #[.pointer p, .int .i64 n])).run Tryd.prog w = .ok () w := by
  rw [Instr.checkKey]
  simp [run_underlying Tryd.underlying58, part0, part1, key_p, key_i, Result.andThen]
theorem look_nil (p : Option Addr) (n : Int) (w : World) : (Instr.lookup 63 (.map none) (.agg #[.pointer p, .int .i64 n]) true).run Tryd.prog w = .ok (.tuple #[.slice none 0 0, .bool false]) w := by
  have k := key_ok true p n 9998 w
  have hz := Tryd.zeroValue22 w
  unfold Instr.lookup
  simp only [Sem.run_bind, run_underlying Tryd.underlying63, Result.andThen]
  rw [show (10000 : Nat) = 9998 + 1 + 1 from rfl]
  generalize (9998 + 1 + 1 : Nat) = M at *
  simp [k, Instr.findKey, Instr.findNow, hz, Result.andThen, run_underlying Tryd.underlying58]
theorem eq_made (d : Nat) (w : World) : (Op.equalIn (d + 1) 63 (.map none) (.map none)).run Tryd.prog w = .ok true w := by
  simp [Op.equalIn, run_underlying Tryd.underlying63]
theorem neq_made (w : World) : (binOp .neq 63 (.map none) (.map none)).run Tryd.prog w = .ok (.bool false) w := by
  simp only [binOp]
  simp [Op.equal, Op.maxDepth, eq_made 9999 w]
end Go.Proofs.YtekkecnhnaejlabDoor
