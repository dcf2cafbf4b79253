/- A region that draws its order, whose operations read and whose callees make new memory only: one walk, in the order of the text. -/
import Derived.Test.YthplldgdgmhdlabWas
import Derived.BigQuiet
namespace Go.Proofs.Ythplldgdgmhdlab
open Go.ChangeShapes Go.WideShapes Go.ChangeAt Go.RowKit
/-- A world in which nothing that was there has turned. -/
structure After (w : World) where
  val : World
  ok : Quiet w val
theorem After.some (w : World) : Nonempty (After w) := ⟨⟨w, Kp.refl _ _⟩⟩
theorem region_after {P : Program} {id : Nat} {Q : Exit → Act → World → Prop} {a : Act} {w : World} {l : List Oper} (hm : P.follows .mixedOrders = true) (hB : Region.lexB .any l.toArray = true)
    (h : wpQuiet P l.toArray (fun w' => ∃ p : After w, w' = p.val) (fun a' => ∀ w', (∃ p : After w, w' = p.val) → Q .normal a' w') l a) : (Code.region id l.toArray true).wp P Q a w :=
  wp_region_quiet (C := fun w' => ∃ p : After w, w' = p.val) hm hB ⟨⟨w.drew, Kp.drew _⟩, rfl⟩ (by simpa using h)
end Go.Proofs.Ythplldgdgmhdlab
