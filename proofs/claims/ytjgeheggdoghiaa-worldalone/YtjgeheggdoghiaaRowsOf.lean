/- What an asked cell holds, in the two ways; rows of numbers. -/
import Derived.Test.YtjgeheggdoghiaaApart
namespace Go.Proofs.Ytjgeheggdoghiaa
open Go.ChangeShapes Go.WideShapes Go.ChangeAt Go.RowKit
theorem held_yes (cs : List Int) (j : Nat) (h : hasB j = true) : heldAt cs j = cs.getD j 0 := by simp [heldAt, h]
theorem held_no (cs : List Int) (c : Int) (h : hasB c = false) : heldAt cs c = 0 := by simp [heldAt, h]
theorem hold_yes (cs : List Int) (j : Nat) (y : Int) (h : hasB j = true) : holdAt cs j y = cs.set j y := by simp [holdAt, h]
theorem hold_no (cs : List Int) (c y : Int) (h : hasB c = false) : holdAt cs c y = cs := by simp [holdAt, h]
theorem entry_yes (es : List Ent) (p c r n : Int) (h : hasB c = true) : entryOf es p c r n = es ++ [⟨p, c, r, n⟩] := by simp [entryOf, h]
theorem entry_no (es : List Ent) (p c r n : Int) (h : hasB c = false) : entryOf es p c r n = es := by simp [entryOf, h]
theorem row_cells {w : World} {g : Nat} {cs : List Int} {t : TypeId} (h : w.heap[g]? = some (.cells (longs cs).toArray t (0, 0))) (j : Nat) (hj : j < cs.length) : w.cell? ⟨g, j, none⟩ = some (.int .i64 (cs.getD j 0)) := by
  simp only [World.cell?, h]
  simp [longs, hj]
theorem row_kp {w w' : World} {g : Nat} {o : Obj} (h : w.heap[g]? = some o) (hk : Kp (fun _ => False) w w') : w'.heap[g]? = some o := (hk.block g (lt_of_block h) id).trans h
end Go.Proofs.Ytjgeheggdoghiaa
