/-
  NARROWER THAN 'FOR EVERY INPUT', by the rows' own cells (each row's printed sentence says how): HouseDoes: loops · HouseFresh: loops · HouseApart: loops · HouseRefuses: loops.
  DERIVED. THE GIVEN ROWS OF THIS SEAT. 4 by the template 'for every input the law returns true; each argument reads behind the call as it read before'; 0 by the template 'total and deterministic' (their statements: YtgojcohcimmfjaaGreatTotals.lean).
  GIVEN WITH THE SEED: the statements are not yours to turn. If you find one false, say at which input.
  Laid BY PROGRAM, IN A SANDBOX (cutbox-rows.mjs): the forced cells as the released guide's own fill.sh prints them over the translation de09a43208d53ac4… (all of the seat's roots in one cut). By AI agents, Wed Nov 11 2026. No macro, syntax, notation, axiom, sorry.
-/
import Derived.Test.YtgojcohcimmfjaaGreatChecked
import GoSem.Claim
import GoSem.ClaimJoined
import GoSem.ClaimMapViews
import Derived.JoinedTies
import Derived.KernelRfl
namespace Go.Proofs.YtgojcohcimmfjaaGreat
/- THE CELL 'sum', in the pinned program and in every row, IS THE sha256 OF THE DUMP (.gsa) THAT YtgojcohcimmfjaaGreatProg.lean LOADS. Nothing in Lean hashes anything: it is a label: what it is worth is what the hold of that sum in a sandbox is worth. -/
noncomputable def Tryz.pinned : Pinned := { name := "ytgojcohcimmfjaagreat", sum := "de09a43208d53ac4757575ece8dab910c8e0ca1a94ad5cd4373325ace99029cc", checked := Tryz.checked }
namespace Rows
def none {H : Type} : Left H := { results := [], args := [] }

/-- 'letterlocklaw.HouseDoes': WHATEVER THE INPUT: true; the input reads as it did. -/
def houseDoesSpec : ChangeSpec := { name := "houseDoes", fn := fun _ => fun
  | [d] => { results := [.lit (.bool true)], args := [d] }
  | _ => none }
def houseDoesRow : OpenClaim := { program := "ytgojcohcimmfjaagreat", sum := "de09a43208d53ac4757575ece8dab910c8e0ca1a94ad5cd4373325ace99029cc", func := "letterlock/letterlocklaw.HouseDoes", spec := "houseDoes", unfollowed := true, recurses := true, loops := true, plainKeys := false, apart := false }
def HouseDoesSaid : Prop := houseDoesRow.holds Tryz.pinned (OpenSpec.ofChange houseDoesSpec)

/-- ITS FALSE NEIGHBOUR: 'it returns false'. Refute it at one input. -/
def houseDoesWrong : ChangeSpec := { name := "houseDoes", fn := fun _ => fun
  | [d] => { results := [.lit (.bool false)], args := [d] }
  | _ => none }
def HouseDoesWrongFalsely : Prop := houseDoesRow.holds Tryz.pinned (OpenSpec.ofChange houseDoesWrong)

/-- 'letterlocklaw.HouseFresh': WHATEVER THE INPUT: true; the input reads as it did. -/
def houseFreshSpec : ChangeSpec := { name := "houseFresh", fn := fun _ => fun
  | [d1, d2] => { results := [.lit (.bool true)], args := [d1, d2] }
  | _ => none }
def houseFreshRow : OpenClaim := { program := "ytgojcohcimmfjaagreat", sum := "de09a43208d53ac4757575ece8dab910c8e0ca1a94ad5cd4373325ace99029cc", func := "letterlock/letterlocklaw.HouseFresh", spec := "houseFresh", unfollowed := true, recurses := true, loops := true, plainKeys := false, apart := false }
def HouseFreshSaid : Prop := houseFreshRow.holds Tryz.pinned (OpenSpec.ofChange houseFreshSpec)

/-- ITS FALSE NEIGHBOUR: 'it returns false'. Refute it at one input. -/
def houseFreshWrong : ChangeSpec := { name := "houseFresh", fn := fun _ => fun
  | [d1, d2] => { results := [.lit (.bool false)], args := [d1, d2] }
  | _ => none }
def HouseFreshWrongFalsely : Prop := houseFreshRow.holds Tryz.pinned (OpenSpec.ofChange houseFreshWrong)

/-- 'letterlocklaw.HouseApart': WHATEVER THE INPUT: true; the input reads as it did. -/
def houseApartSpec : ChangeSpec := { name := "houseApart", fn := fun _ => fun
  | [d1, d2] => { results := [.lit (.bool true)], args := [d1, d2] }
  | _ => none }
def houseApartRow : OpenClaim := { program := "ytgojcohcimmfjaagreat", sum := "de09a43208d53ac4757575ece8dab910c8e0ca1a94ad5cd4373325ace99029cc", func := "letterlock/letterlocklaw.HouseApart", spec := "houseApart", unfollowed := true, recurses := true, loops := true, plainKeys := false, apart := false }
def HouseApartSaid : Prop := houseApartRow.holds Tryz.pinned (OpenSpec.ofChange houseApartSpec)

/-- ITS FALSE NEIGHBOUR: 'it returns false'. Refute it at one input. -/
def houseApartWrong : ChangeSpec := { name := "houseApart", fn := fun _ => fun
  | [d1, d2] => { results := [.lit (.bool false)], args := [d1, d2] }
  | _ => none }
def HouseApartWrongFalsely : Prop := houseApartRow.holds Tryz.pinned (OpenSpec.ofChange houseApartWrong)

/-- 'letterlocklaw.HouseRefuses': WHATEVER THE INPUT: true; the input reads as it did. -/
def houseRefusesSpec : ChangeSpec := { name := "houseRefuses", fn := fun _ => fun
  | [d] => { results := [.lit (.bool true)], args := [d] }
  | _ => none }
def houseRefusesRow : OpenClaim := { program := "ytgojcohcimmfjaagreat", sum := "de09a43208d53ac4757575ece8dab910c8e0ca1a94ad5cd4373325ace99029cc", func := "letterlock/letterlocklaw.HouseRefuses", spec := "houseRefuses", unfollowed := true, recurses := true, loops := true, plainKeys := false, apart := false }
def HouseRefusesSaid : Prop := houseRefusesRow.holds Tryz.pinned (OpenSpec.ofChange houseRefusesSpec)

/-- ITS FALSE NEIGHBOUR: 'it returns false'. Refute it at one input. -/
def houseRefusesWrong : ChangeSpec := { name := "houseRefuses", fn := fun _ => fun
  | [d] => { results := [.lit (.bool false)], args := [d] }
  | _ => none }
def HouseRefusesWrongFalsely : Prop := houseRefusesRow.holds Tryz.pinned (OpenSpec.ofChange houseRefusesWrong)

/- THE SECOND FORM. 'bulk': how many values and letters a reading holds, each counted each time it is reached (what is shared counts as often as it is met; a slice's spare places count too). A statement '..UptoSaid' is the law's where the arguments, and the package variables that the reading takes, are together of bulk at most 1048576: NARROWER than '..Said'. Prove '..Said' where nothing that the law and all that it calls make is longer than what came in: it says more and counts as full. Else prove '..UptoSaid'. A law counts once. -/
mutual
def uptoBulk {H : Type} : DataW H → Nat
  | .lit (.string bytes) => bytes.length + 1
  | .lit _ => 1
  | .nil => 1
  | .ptr d => uptoBulk d + 1
  | .slice elems spare => uptoBulkAll elems + uptoBulkAll spare + 1
  | .agg parts => uptoBulkAll parts + 1
  | .iface _ d => uptoBulk d + 1
  | .map entries => uptoBulkEntries entries + 1
  | .held _ => 1
def uptoBulkAll {H : Type} : List (DataW H) → Nat
  | [] => 0
  | d :: r => uptoBulk d + uptoBulkAll r
def uptoBulkEntries {H : Type} : List (Lit × DataW H) → Nat
  | [] => 0
  | x :: r => uptoBulkEntry x + uptoBulkEntries r
def uptoBulkEntry {H : Type} : Lit × DataW H → Nat
  | (.string bytes, d) => bytes.length + uptoBulk d + 1
  | (_, d) => uptoBulk d + 1
 end
def uptoSmall : (H : Type) → List (DataW H) → Bool := fun _ ds => decide (uptoBulkAll ds ≤ 1048576)
def OpenSpec.upto (s : _root_.Go.ChangeSpec) : _root_.Go.OpenSpec := { _root_.Go.OpenSpec.ofChange s with cond := some uptoSmall }

/-- 'letterlocklaw.HouseDoes', WHERE WHAT IT READS IS OF BULK AT MOST 1048576: true; the input reads as it did. -/
def houseDoesUptoRow : OpenClaim := { program := "ytgojcohcimmfjaagreat", sum := "de09a43208d53ac4757575ece8dab910c8e0ca1a94ad5cd4373325ace99029cc", func := "letterlock/letterlocklaw.HouseDoes", spec := "houseDoes", unfollowed := true, recurses := true, loops := true, plainKeys := false, apart := false, narrowed := true }
def HouseDoesUptoSaid : Prop := houseDoesUptoRow.holds Tryz.pinned (OpenSpec.upto houseDoesSpec)

/-- 'letterlocklaw.HouseFresh', WHERE WHAT IT READS IS OF BULK AT MOST 1048576: true; the input reads as it did. -/
def houseFreshUptoRow : OpenClaim := { program := "ytgojcohcimmfjaagreat", sum := "de09a43208d53ac4757575ece8dab910c8e0ca1a94ad5cd4373325ace99029cc", func := "letterlock/letterlocklaw.HouseFresh", spec := "houseFresh", unfollowed := true, recurses := true, loops := true, plainKeys := false, apart := false, narrowed := true }
def HouseFreshUptoSaid : Prop := houseFreshUptoRow.holds Tryz.pinned (OpenSpec.upto houseFreshSpec)

/-- 'letterlocklaw.HouseApart', WHERE WHAT IT READS IS OF BULK AT MOST 1048576: true; the input reads as it did. -/
def houseApartUptoRow : OpenClaim := { program := "ytgojcohcimmfjaagreat", sum := "de09a43208d53ac4757575ece8dab910c8e0ca1a94ad5cd4373325ace99029cc", func := "letterlock/letterlocklaw.HouseApart", spec := "houseApart", unfollowed := true, recurses := true, loops := true, plainKeys := false, apart := false, narrowed := true }
def HouseApartUptoSaid : Prop := houseApartUptoRow.holds Tryz.pinned (OpenSpec.upto houseApartSpec)

/-- 'letterlocklaw.HouseRefuses', WHERE WHAT IT READS IS OF BULK AT MOST 1048576: true; the input reads as it did. -/
def houseRefusesUptoRow : OpenClaim := { program := "ytgojcohcimmfjaagreat", sum := "de09a43208d53ac4757575ece8dab910c8e0ca1a94ad5cd4373325ace99029cc", func := "letterlock/letterlocklaw.HouseRefuses", spec := "houseRefuses", unfollowed := true, recurses := true, loops := true, plainKeys := false, apart := false, narrowed := true }
def HouseRefusesUptoSaid : Prop := houseRefusesUptoRow.holds Tryz.pinned (OpenSpec.upto houseRefusesSpec)

end Rows
end Go.Proofs.YtgojcohcimmfjaaGreat
