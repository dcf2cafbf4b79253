/-
  DERIVED. GIVEN WITH THE SEED: THE CARDS: each row of YtekkecnhnaejlabDoorRows.lean that lists a variable, with what it lists TIED to the program's text (the seventh form; the later family's looks); each row that meets fmt, with fmt's text TOLD by the authors' own Lean function (tested against real Go, not proved from fmt's source: count such statements apart). THE CARD IS WHAT COUNTS. Prove the row's statement (the work); the ties are given (YtekkecnhnaejlabDoorTie.lean); close each card by the builder's one call (the guide's Derived/Test/ToyasCard.lean, 'card_holds'). Laid BY PROGRAM, IN A SANDBOX (cutbox-door.mjs). By AI agents, Wed Nov 11 2026. No macro, syntax, notation, axiom, sorry.
-/
import Derived.Test.YtekkecnhnaejlabDoorRows
import GoSem.ClaimSeven
namespace Go.Proofs.YtekkecnhnaejlabDoor
namespace Rows

/-- THE TIED CARD OF 'letterlocklaw.ValsDoes'. -/
def valsDoesCard : Claim7 := { stood := { row := valsDoesRow, standIns := [], harness := (true, "e00c967292562a0823bee5eb138ccd58176e020289e899bd3cc859cf4d7cb3b7"), looks := false }, kinds := [], alts := [], laidByText := true, laidKinds := [.data, .data, .data], laidTests := true, laidLooks := .later }
def ValsDoesCardSaid : Prop := Claim7.holds Tryd.pinned (.plain (OpenSpec.ofChange valsDoesSpec)) valsDoesCard

/-- THE TIED CARD OF 'letterlocklaw.ValsApart'. -/
def valsApartCard : Claim7 := { stood := { row := valsApartRow, standIns := [], harness := (true, "e00c967292562a0823bee5eb138ccd58176e020289e899bd3cc859cf4d7cb3b7"), looks := false }, kinds := [], alts := [], laidByText := true, laidKinds := [.data, .data, .data], laidTests := true, laidLooks := .later }
def ValsApartCardSaid : Prop := Claim7.holds Tryd.pinned (.plain (OpenSpec.ofChange valsApartSpec)) valsApartCard

/-- THE TIED CARD OF 'letterlocklaw.ValsParts'. -/
def valsPartsCard : Claim7 := { stood := { row := valsPartsRow, standIns := [], harness := (true, "e00c967292562a0823bee5eb138ccd58176e020289e899bd3cc859cf4d7cb3b7"), looks := false }, kinds := [], alts := [], laidByText := true, laidKinds := [.data, .data, .data], laidTests := true, laidLooks := .later }
def ValsPartsCardSaid : Prop := Claim7.holds Tryd.pinned (.plain (OpenSpec.ofChange valsPartsSpec)) valsPartsCard

/-- THE SECOND FORM's CARD OF 'letterlocklaw.ValsDoes'. -/
def valsDoesUptoCard : Claim7 := { stood := { row := valsDoesUptoRow, standIns := [], harness := (true, "e00c967292562a0823bee5eb138ccd58176e020289e899bd3cc859cf4d7cb3b7"), looks := false }, kinds := [], alts := [], laidByText := true, laidKinds := [.data, .data, .data], laidTests := true, laidLooks := .later }
def ValsDoesUptoCardSaid : Prop := Claim7.holds Tryd.pinned (.plain (OpenSpec.upto valsDoesSpec)) valsDoesUptoCard

/-- THE SECOND FORM's CARD OF 'letterlocklaw.ValsApart'. -/
def valsApartUptoCard : Claim7 := { stood := { row := valsApartUptoRow, standIns := [], harness := (true, "e00c967292562a0823bee5eb138ccd58176e020289e899bd3cc859cf4d7cb3b7"), looks := false }, kinds := [], alts := [], laidByText := true, laidKinds := [.data, .data, .data], laidTests := true, laidLooks := .later }
def ValsApartUptoCardSaid : Prop := Claim7.holds Tryd.pinned (.plain (OpenSpec.upto valsApartSpec)) valsApartUptoCard

/-- THE SECOND FORM's CARD OF 'letterlocklaw.ValsParts'. -/
def valsPartsUptoCard : Claim7 := { stood := { row := valsPartsUptoRow, standIns := [], harness := (true, "e00c967292562a0823bee5eb138ccd58176e020289e899bd3cc859cf4d7cb3b7"), looks := false }, kinds := [], alts := [], laidByText := true, laidKinds := [.data, .data, .data], laidTests := true, laidLooks := .later }
def ValsPartsUptoCardSaid : Prop := Claim7.holds Tryd.pinned (.plain (OpenSpec.upto valsPartsSpec)) valsPartsUptoCard
end Rows
end Go.Proofs.YtekkecnhnaejlabDoor
