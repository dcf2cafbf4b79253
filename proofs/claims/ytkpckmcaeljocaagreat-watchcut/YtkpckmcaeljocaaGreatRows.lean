/-
  NARROWER THAN 'FOR EVERY INPUT', by the rows' own cells (each row's printed sentence says how): WatchDoes: loops · WatchGiven: loops · WatchCut: loops · WatchStays: loops.
  DERIVED. THE GIVEN ROWS OF THIS SEAT. 4 by the template 'for every input the law returns true; each argument reads behind the call as it read before'; 0 by the template 'total and deterministic' (their statements: YtkpckmcaeljocaaGreatTotals.lean).
  GIVEN WITH THE SEED: the statements are not yours to turn. If you find one false, say at which input.
  Laid BY PROGRAM, IN A SANDBOX (cutbox-rows.mjs): the forced cells as the released guide's own fill.sh prints them over the translation 63395a51e05f5eb4… (all of the seat's roots in one cut). By AI agents, Wed Nov 11 2026. No macro, syntax, notation, axiom, sorry.
-/
import Derived.Test.YtkpckmcaeljocaaGreatChecked
import GoSem.Claim
import GoSem.ClaimJoined
import GoSem.ClaimMapViews
import Derived.JoinedTies
import Derived.KernelRfl
namespace Go.Proofs.YtkpckmcaeljocaaGreat
/- THE CELL 'sum', in the pinned program and in every row, IS THE sha256 OF THE DUMP (.gsa) THAT YtkpckmcaeljocaaGreatProg.lean LOADS. Nothing in Lean hashes anything: it is a label: what it is worth is what the hold of that sum in a sandbox is worth. -/
noncomputable def Tryz.pinned : Pinned := { name := "ytkpckmcaeljocaagreat", sum := "63395a51e05f5eb48c581976d839c10b9b91c0e00ca37d98ceab30992b06e0be", checked := Tryz.checked }
namespace Rows
def none {H : Type} : Left H := { results := [], args := [] }

/-- 'letterlocklaw.WatchDoes': WHATEVER THE INPUT: true; the input reads as it did. -/
def watchDoesSpec : ChangeSpec := { name := "watchDoes", fn := fun _ => fun
  | [d1, d2, d3, d4] => { results := [.lit (.bool true)], args := [d1, d2, d3, d4] }
  | _ => none }
def watchDoesRow : OpenClaim := { program := "ytkpckmcaeljocaagreat", sum := "63395a51e05f5eb48c581976d839c10b9b91c0e00ca37d98ceab30992b06e0be", func := "letterlock/letterlocklaw.WatchDoes", spec := "watchDoes", unfollowed := true, recurses := true, loops := true, plainKeys := false, apart := false }
def WatchDoesSaid : Prop := watchDoesRow.holds Tryz.pinned (OpenSpec.ofChange watchDoesSpec)

/-- ITS FALSE NEIGHBOUR: 'it returns false'. Refute it at one input. -/
def watchDoesWrong : ChangeSpec := { name := "watchDoes", fn := fun _ => fun
  | [d1, d2, d3, d4] => { results := [.lit (.bool false)], args := [d1, d2, d3, d4] }
  | _ => none }
def WatchDoesWrongFalsely : Prop := watchDoesRow.holds Tryz.pinned (OpenSpec.ofChange watchDoesWrong)

/-- 'letterlocklaw.WatchGiven': WHATEVER THE INPUT: true; the input reads as it did. -/
def watchGivenSpec : ChangeSpec := { name := "watchGiven", fn := fun _ => fun
  | [d] => { results := [.lit (.bool true)], args := [d] }
  | _ => none }
def watchGivenRow : OpenClaim := { program := "ytkpckmcaeljocaagreat", sum := "63395a51e05f5eb48c581976d839c10b9b91c0e00ca37d98ceab30992b06e0be", func := "letterlock/letterlocklaw.WatchGiven", spec := "watchGiven", unfollowed := true, recurses := true, loops := true, plainKeys := false, apart := false }
def WatchGivenSaid : Prop := watchGivenRow.holds Tryz.pinned (OpenSpec.ofChange watchGivenSpec)

/-- ITS FALSE NEIGHBOUR: 'it returns false'. Refute it at one input. -/
def watchGivenWrong : ChangeSpec := { name := "watchGiven", fn := fun _ => fun
  | [d] => { results := [.lit (.bool false)], args := [d] }
  | _ => none }
def WatchGivenWrongFalsely : Prop := watchGivenRow.holds Tryz.pinned (OpenSpec.ofChange watchGivenWrong)

/-- 'letterlocklaw.WatchCut': WHATEVER THE INPUT: true; the input reads as it did. -/
def watchCutSpec : ChangeSpec := { name := "watchCut", fn := fun _ => fun
  | [d1, d2, d3] => { results := [.lit (.bool true)], args := [d1, d2, d3] }
  | _ => none }
def watchCutRow : OpenClaim := { program := "ytkpckmcaeljocaagreat", sum := "63395a51e05f5eb48c581976d839c10b9b91c0e00ca37d98ceab30992b06e0be", func := "letterlock/letterlocklaw.WatchCut", spec := "watchCut", unfollowed := true, recurses := true, loops := true, plainKeys := false, apart := false }
def WatchCutSaid : Prop := watchCutRow.holds Tryz.pinned (OpenSpec.ofChange watchCutSpec)

/-- ITS FALSE NEIGHBOUR: 'it returns false'. Refute it at one input. -/
def watchCutWrong : ChangeSpec := { name := "watchCut", fn := fun _ => fun
  | [d1, d2, d3] => { results := [.lit (.bool false)], args := [d1, d2, d3] }
  | _ => none }
def WatchCutWrongFalsely : Prop := watchCutRow.holds Tryz.pinned (OpenSpec.ofChange watchCutWrong)

/-- 'letterlocklaw.WatchStays': WHATEVER THE INPUT: true; the input reads as it did. -/
def watchStaysSpec : ChangeSpec := { name := "watchStays", fn := fun _ => fun
  | [d1, d2, d3, d4, d5] => { results := [.lit (.bool true)], args := [d1, d2, d3, d4, d5] }
  | _ => none }
def watchStaysRow : OpenClaim := { program := "ytkpckmcaeljocaagreat", sum := "63395a51e05f5eb48c581976d839c10b9b91c0e00ca37d98ceab30992b06e0be", func := "letterlock/letterlocklaw.WatchStays", spec := "watchStays", unfollowed := true, recurses := true, loops := true, plainKeys := false, apart := false }
def WatchStaysSaid : Prop := watchStaysRow.holds Tryz.pinned (OpenSpec.ofChange watchStaysSpec)

/-- ITS FALSE NEIGHBOUR: 'it returns false'. Refute it at one input. -/
def watchStaysWrong : ChangeSpec := { name := "watchStays", fn := fun _ => fun
  | [d1, d2, d3, d4, d5] => { results := [.lit (.bool false)], args := [d1, d2, d3, d4, d5] }
  | _ => none }
def WatchStaysWrongFalsely : Prop := watchStaysRow.holds Tryz.pinned (OpenSpec.ofChange watchStaysWrong)

/- THE SECOND FORM. 'bulk': how many values and letters a reading holds, each counted each time it is reached (what is shared counts as often as it is met; a slice's spare places count too). A statement '..UptoSaid' is the law's where the arguments, and the package variables that the reading takes, are together of bulk at most 1048576: NARROWER than '..Said'. Prove '..Said' where nothing that the law and all that it calls make is longer than what came in: it says more and counts as full. Else prove '..UptoSaid'. A law counts once. -/
mutual
def uptoBulk {H : Type} : DataW H → Nat
  | .lit (.string bytes) => bytes.length + 1
  | .lit _ => 1
  | .nil => 1
  | .ptr d => uptoBulk d + 1
  | .slice elems spare => uptoBulkAll elems + uptoBulkAll spare + 1
  | .agg parts => uptoBulkAll parts + 1
  | .iface _ d => uptoBulk d + 1
  | .map entries => uptoBulkEntries entries + 1
  | .held _ => 1
def uptoBulkAll {H : Type} : List (DataW H) → Nat
  | [] => 0
  | d :: r => uptoBulk d + uptoBulkAll r
def uptoBulkEntries {H : Type} : List (Lit × DataW H) → Nat
  | [] => 0
  | x :: r => uptoBulkEntry x + uptoBulkEntries r
def uptoBulkEntry {H : Type} : Lit × DataW H → Nat
  | (.string bytes, d) => bytes.length + uptoBulk d + 1
  | (_, d) => uptoBulk d + 1
 end
def uptoSmall : (H : Type) → List (DataW H) → Bool := fun _ ds => decide (uptoBulkAll ds ≤ 1048576)
def OpenSpec.upto (s : _root_.Go.ChangeSpec) : _root_.Go.OpenSpec := { _root_.Go.OpenSpec.ofChange s with cond := some uptoSmall }

/-- 'letterlocklaw.WatchDoes', WHERE WHAT IT READS IS OF BULK AT MOST 1048576: true; the input reads as it did. -/
def watchDoesUptoRow : OpenClaim := { program := "ytkpckmcaeljocaagreat", sum := "63395a51e05f5eb48c581976d839c10b9b91c0e00ca37d98ceab30992b06e0be", func := "letterlock/letterlocklaw.WatchDoes", spec := "watchDoes", unfollowed := true, recurses := true, loops := true, plainKeys := false, apart := false, narrowed := true }
def WatchDoesUptoSaid : Prop := watchDoesUptoRow.holds Tryz.pinned (OpenSpec.upto watchDoesSpec)

/-- 'letterlocklaw.WatchGiven', WHERE WHAT IT READS IS OF BULK AT MOST 1048576: true; the input reads as it did. -/
def watchGivenUptoRow : OpenClaim := { program := "ytkpckmcaeljocaagreat", sum := "63395a51e05f5eb48c581976d839c10b9b91c0e00ca37d98ceab30992b06e0be", func := "letterlock/letterlocklaw.WatchGiven", spec := "watchGiven", unfollowed := true, recurses := true, loops := true, plainKeys := false, apart := false, narrowed := true }
def WatchGivenUptoSaid : Prop := watchGivenUptoRow.holds Tryz.pinned (OpenSpec.upto watchGivenSpec)

/-- 'letterlocklaw.WatchCut', WHERE WHAT IT READS IS OF BULK AT MOST 1048576: true; the input reads as it did. -/
def watchCutUptoRow : OpenClaim := { program := "ytkpckmcaeljocaagreat", sum := "63395a51e05f5eb48c581976d839c10b9b91c0e00ca37d98ceab30992b06e0be", func := "letterlock/letterlocklaw.WatchCut", spec := "watchCut", unfollowed := true, recurses := true, loops := true, plainKeys := false, apart := false, narrowed := true }
def WatchCutUptoSaid : Prop := watchCutUptoRow.holds Tryz.pinned (OpenSpec.upto watchCutSpec)

/-- 'letterlocklaw.WatchStays', WHERE WHAT IT READS IS OF BULK AT MOST 1048576: true; the input reads as it did. -/
def watchStaysUptoRow : OpenClaim := { program := "ytkpckmcaeljocaagreat", sum := "63395a51e05f5eb48c581976d839c10b9b91c0e00ca37d98ceab30992b06e0be", func := "letterlock/letterlocklaw.WatchStays", spec := "watchStays", unfollowed := true, recurses := true, loops := true, plainKeys := false, apart := false, narrowed := true }
def WatchStaysUptoSaid : Prop := watchStaysUptoRow.holds Tryz.pinned (OpenSpec.upto watchStaysSpec)

end Rows
end Go.Proofs.YtkpckmcaeljocaaGreat
