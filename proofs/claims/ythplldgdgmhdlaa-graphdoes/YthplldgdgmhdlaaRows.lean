/-
  No cell of these rows narrows 'for every input' (looked for: loops, veiled, ifaces, maps, wideKeys, modest, calm, conditions, laid).
  DERIVED. THE GIVEN ROWS OF THIS SEAT. 6 by the template 'for every input the law returns true; each argument reads behind the call as it read before'; 0 by the template 'total and deterministic' (their statements: YthplldgdgmhdlaaTotals.lean).
  GIVEN WITH THE SEED: the statements are not yours to turn. If you find one false, say at which input.
  Laid BY PROGRAM, IN A SANDBOX (cutbox-rows.mjs): the forced cells as the released guide's own fill.sh prints them over the translation a5d2cac657408da8… (all of the seat's roots in one cut). By AI agents, Wed Nov 11 2026. No macro, syntax, notation, axiom, sorry.
-/
import Derived.Test.YthplldgdgmhdlaaChecked
import GoSem.Claim
import GoSem.ClaimJoined
import GoSem.ClaimMapViews
import Derived.JoinedTies
import Derived.KernelRfl
namespace Go.Proofs.Ythplldgdgmhdlaa
/- THE CELL 'sum', in the pinned program and in every row, IS THE sha256 OF THE DUMP (.gsa) THAT YthplldgdgmhdlaaProg.lean LOADS. Nothing in Lean hashes anything: it is a label: what it is worth is what the hold of that sum in a sandbox is worth. -/
noncomputable def Try.pinned : Pinned := { name := "ythplldgdgmhdlaa", sum := "a5d2cac657408da825cb7bd54d2d36656d61513ad6391d9f902b133b82df9e21", checked := Try.checked }
namespace Rows
def none {H : Type} : Left H := { results := [], args := [] }

/-- 'letterlocklaw.RightsDoes': WHATEVER THE INPUT: true; the input reads as it did. -/
def rightsDoesSpec : ChangeSpec := { name := "rightsDoes", fn := fun _ => fun
  | [d1, d2, d3] => { results := [.lit (.bool true)], args := [d1, d2, d3] }
  | _ => none }
def rightsDoesRow : OpenClaim := { program := "ythplldgdgmhdlaa", sum := "a5d2cac657408da825cb7bd54d2d36656d61513ad6391d9f902b133b82df9e21", func := "letterlock/letterlocklaw.RightsDoes", spec := "rightsDoes", inPlace := ["internal/bytealg.IndexByteString"], apart := false }
def RightsDoesSaid : Prop := rightsDoesRow.holds Try.pinned (OpenSpec.ofChange rightsDoesSpec)

/-- ITS FALSE NEIGHBOUR: 'it returns false'. Refute it at one input. -/
def rightsDoesWrong : ChangeSpec := { name := "rightsDoes", fn := fun _ => fun
  | [d1, d2, d3] => { results := [.lit (.bool false)], args := [d1, d2, d3] }
  | _ => none }
def RightsDoesWrongFalsely : Prop := rightsDoesRow.holds Try.pinned (OpenSpec.ofChange rightsDoesWrong)

/-- 'letterlocklaw.RightsBack': WHATEVER THE INPUT: true; the input reads as it did. -/
def rightsBackSpec : ChangeSpec := { name := "rightsBack", fn := fun _ => fun
  | [d1, d2] => { results := [.lit (.bool true)], args := [d1, d2] }
  | _ => none }
def rightsBackRow : OpenClaim := { program := "ythplldgdgmhdlaa", sum := "a5d2cac657408da825cb7bd54d2d36656d61513ad6391d9f902b133b82df9e21", func := "letterlock/letterlocklaw.RightsBack", spec := "rightsBack", inPlace := ["internal/bytealg.IndexByteString"], apart := false }
def RightsBackSaid : Prop := rightsBackRow.holds Try.pinned (OpenSpec.ofChange rightsBackSpec)

/-- ITS FALSE NEIGHBOUR: 'it returns false'. Refute it at one input. -/
def rightsBackWrong : ChangeSpec := { name := "rightsBack", fn := fun _ => fun
  | [d1, d2] => { results := [.lit (.bool false)], args := [d1, d2] }
  | _ => none }
def RightsBackWrongFalsely : Prop := rightsBackRow.holds Try.pinned (OpenSpec.ofChange rightsBackWrong)

/-- 'letterlocklaw.RightsMeet': WHATEVER THE INPUT: true; the input reads as it did. -/
def rightsMeetSpec : ChangeSpec := { name := "rightsMeet", fn := fun _ => fun
  | [d1, d2, d3] => { results := [.lit (.bool true)], args := [d1, d2, d3] }
  | _ => none }
def rightsMeetRow : OpenClaim := { program := "ythplldgdgmhdlaa", sum := "a5d2cac657408da825cb7bd54d2d36656d61513ad6391d9f902b133b82df9e21", func := "letterlock/letterlocklaw.RightsMeet", spec := "rightsMeet", inPlace := ["internal/bytealg.IndexByteString"], apart := false }
def RightsMeetSaid : Prop := rightsMeetRow.holds Try.pinned (OpenSpec.ofChange rightsMeetSpec)

/-- ITS FALSE NEIGHBOUR: 'it returns false'. Refute it at one input. -/
def rightsMeetWrong : ChangeSpec := { name := "rightsMeet", fn := fun _ => fun
  | [d1, d2, d3] => { results := [.lit (.bool false)], args := [d1, d2, d3] }
  | _ => none }
def RightsMeetWrongFalsely : Prop := rightsMeetRow.holds Try.pinned (OpenSpec.ofChange rightsMeetWrong)

/-- 'letterlocklaw.WorldDoes': WHATEVER THE INPUT: true; the input reads as it did. -/
def worldDoesSpec : ChangeSpec := { name := "worldDoes", fn := fun _ => fun
  | [d] => { results := [.lit (.bool true)], args := [d] }
  | _ => none }
def worldDoesRow : OpenClaim := { program := "ythplldgdgmhdlaa", sum := "a5d2cac657408da825cb7bd54d2d36656d61513ad6391d9f902b133b82df9e21", func := "letterlock/letterlocklaw.WorldDoes", spec := "worldDoes", apart := false }
def WorldDoesSaid : Prop := worldDoesRow.holds Try.pinned (OpenSpec.ofChange worldDoesSpec)

/-- ITS FALSE NEIGHBOUR: 'it returns false'. Refute it at one input. -/
def worldDoesWrong : ChangeSpec := { name := "worldDoes", fn := fun _ => fun
  | [d] => { results := [.lit (.bool false)], args := [d] }
  | _ => none }
def WorldDoesWrongFalsely : Prop := worldDoesRow.holds Try.pinned (OpenSpec.ofChange worldDoesWrong)

/-- 'letterlocklaw.WorldAlone': WHATEVER THE INPUT: true; the input reads as it did. -/
def worldAloneSpec : ChangeSpec := { name := "worldAlone", fn := fun _ => fun
  | [d1, d2] => { results := [.lit (.bool true)], args := [d1, d2] }
  | _ => none }
def worldAloneRow : OpenClaim := { program := "ythplldgdgmhdlaa", sum := "a5d2cac657408da825cb7bd54d2d36656d61513ad6391d9f902b133b82df9e21", func := "letterlock/letterlocklaw.WorldAlone", spec := "worldAlone", apart := false }
def WorldAloneSaid : Prop := worldAloneRow.holds Try.pinned (OpenSpec.ofChange worldAloneSpec)

/-- ITS FALSE NEIGHBOUR: 'it returns false'. Refute it at one input. -/
def worldAloneWrong : ChangeSpec := { name := "worldAlone", fn := fun _ => fun
  | [d1, d2] => { results := [.lit (.bool false)], args := [d1, d2] }
  | _ => none }
def WorldAloneWrongFalsely : Prop := worldAloneRow.holds Try.pinned (OpenSpec.ofChange worldAloneWrong)

/-- 'letterlocklaw.GraphDoes': WHATEVER THE INPUT: true; the input reads as it did. -/
def graphDoesSpec : ChangeSpec := { name := "graphDoes", fn := fun _ => fun
  | [d] => { results := [.lit (.bool true)], args := [d] }
  | _ => none }
def graphDoesRow : OpenClaim := { program := "ythplldgdgmhdlaa", sum := "a5d2cac657408da825cb7bd54d2d36656d61513ad6391d9f902b133b82df9e21", func := "letterlock/letterlocklaw.GraphDoes", spec := "graphDoes", recurses := true, apart := false }
def GraphDoesSaid : Prop := graphDoesRow.holds Try.pinned (OpenSpec.ofChange graphDoesSpec)

/-- ITS FALSE NEIGHBOUR: 'it returns false'. Refute it at one input. -/
def graphDoesWrong : ChangeSpec := { name := "graphDoes", fn := fun _ => fun
  | [d] => { results := [.lit (.bool false)], args := [d] }
  | _ => none }
def GraphDoesWrongFalsely : Prop := graphDoesRow.holds Try.pinned (OpenSpec.ofChange graphDoesWrong)

/- THE SECOND FORM. 'bulk': how many values and letters a reading holds, each counted each time it is reached (what is shared counts as often as it is met; a slice's spare places count too). A statement '..UptoSaid' is the law's where the arguments, and the package variables that the reading takes, are together of bulk at most 1048576: NARROWER than '..Said'. Prove '..Said' where nothing that the law and all that it calls make is longer than what came in: it says more and counts as full. Else prove '..UptoSaid'. A law counts once. -/
mutual
def uptoBulk {H : Type} : DataW H → Nat
  | .lit (.string bytes) => bytes.length + 1
  | .lit _ => 1
  | .nil => 1
  | .ptr d => uptoBulk d + 1
  | .slice elems spare => uptoBulkAll elems + uptoBulkAll spare + 1
  | .agg parts => uptoBulkAll parts + 1
  | .iface _ d => uptoBulk d + 1
  | .map entries => uptoBulkEntries entries + 1
  | .held _ => 1
def uptoBulkAll {H : Type} : List (DataW H) → Nat
  | [] => 0
  | d :: r => uptoBulk d + uptoBulkAll r
def uptoBulkEntries {H : Type} : List (Lit × DataW H) → Nat
  | [] => 0
  | x :: r => uptoBulkEntry x + uptoBulkEntries r
def uptoBulkEntry {H : Type} : Lit × DataW H → Nat
  | (.string bytes, d) => bytes.length + uptoBulk d + 1
  | (_, d) => uptoBulk d + 1
 end
def uptoSmall : (H : Type) → List (DataW H) → Bool := fun _ ds => decide (uptoBulkAll ds ≤ 1048576)
def OpenSpec.upto (s : _root_.Go.ChangeSpec) : _root_.Go.OpenSpec := { _root_.Go.OpenSpec.ofChange s with cond := some uptoSmall }

/-- 'letterlocklaw.RightsDoes', WHERE WHAT IT READS IS OF BULK AT MOST 1048576: true; the input reads as it did. -/
def rightsDoesUptoRow : OpenClaim := { program := "ythplldgdgmhdlaa", sum := "a5d2cac657408da825cb7bd54d2d36656d61513ad6391d9f902b133b82df9e21", func := "letterlock/letterlocklaw.RightsDoes", spec := "rightsDoes", inPlace := ["internal/bytealg.IndexByteString"], apart := false, narrowed := true }
def RightsDoesUptoSaid : Prop := rightsDoesUptoRow.holds Try.pinned (OpenSpec.upto rightsDoesSpec)

/-- 'letterlocklaw.RightsBack', WHERE WHAT IT READS IS OF BULK AT MOST 1048576: true; the input reads as it did. -/
def rightsBackUptoRow : OpenClaim := { program := "ythplldgdgmhdlaa", sum := "a5d2cac657408da825cb7bd54d2d36656d61513ad6391d9f902b133b82df9e21", func := "letterlock/letterlocklaw.RightsBack", spec := "rightsBack", inPlace := ["internal/bytealg.IndexByteString"], apart := false, narrowed := true }
def RightsBackUptoSaid : Prop := rightsBackUptoRow.holds Try.pinned (OpenSpec.upto rightsBackSpec)

/-- 'letterlocklaw.RightsMeet', WHERE WHAT IT READS IS OF BULK AT MOST 1048576: true; the input reads as it did. -/
def rightsMeetUptoRow : OpenClaim := { program := "ythplldgdgmhdlaa", sum := "a5d2cac657408da825cb7bd54d2d36656d61513ad6391d9f902b133b82df9e21", func := "letterlock/letterlocklaw.RightsMeet", spec := "rightsMeet", inPlace := ["internal/bytealg.IndexByteString"], apart := false, narrowed := true }
def RightsMeetUptoSaid : Prop := rightsMeetUptoRow.holds Try.pinned (OpenSpec.upto rightsMeetSpec)

/-- 'letterlocklaw.WorldDoes', WHERE WHAT IT READS IS OF BULK AT MOST 1048576: true; the input reads as it did. -/
def worldDoesUptoRow : OpenClaim := { program := "ythplldgdgmhdlaa", sum := "a5d2cac657408da825cb7bd54d2d36656d61513ad6391d9f902b133b82df9e21", func := "letterlock/letterlocklaw.WorldDoes", spec := "worldDoes", apart := false, narrowed := true }
def WorldDoesUptoSaid : Prop := worldDoesUptoRow.holds Try.pinned (OpenSpec.upto worldDoesSpec)

/-- 'letterlocklaw.WorldAlone', WHERE WHAT IT READS IS OF BULK AT MOST 1048576: true; the input reads as it did. -/
def worldAloneUptoRow : OpenClaim := { program := "ythplldgdgmhdlaa", sum := "a5d2cac657408da825cb7bd54d2d36656d61513ad6391d9f902b133b82df9e21", func := "letterlock/letterlocklaw.WorldAlone", spec := "worldAlone", apart := false, narrowed := true }
def WorldAloneUptoSaid : Prop := worldAloneUptoRow.holds Try.pinned (OpenSpec.upto worldAloneSpec)

/-- 'letterlocklaw.GraphDoes', WHERE WHAT IT READS IS OF BULK AT MOST 1048576: true; the input reads as it did. -/
def graphDoesUptoRow : OpenClaim := { program := "ythplldgdgmhdlaa", sum := "a5d2cac657408da825cb7bd54d2d36656d61513ad6391d9f902b133b82df9e21", func := "letterlock/letterlocklaw.GraphDoes", spec := "graphDoes", recurses := true, apart := false, narrowed := true }
def GraphDoesUptoSaid : Prop := graphDoesUptoRow.holds Try.pinned (OpenSpec.upto graphDoesSpec)

end Rows
end Go.Proofs.Ythplldgdgmhdlaa
