/-
  DERIVED. GIVEN WITH THE SEED: THE CARDS: each row of YtfoglciiefoodaaGreatDoorRows.lean that lists a variable, with what it lists TIED to the program's text (the seventh form; the later family's looks); each row that meets fmt, with fmt's text TOLD by the authors' own Lean function (tested against real Go, not proved from fmt's source: count such statements apart). THE CARD IS WHAT COUNTS. Prove the row's statement (the work); the ties are given (YtfoglciiefoodaaGreatDoorTie.lean); close each card by the builder's one call (the guide's Derived/Test/ToyasCard.lean, 'card_holds'). Laid BY PROGRAM, IN A SANDBOX (cutbox-door.mjs). By AI agents, Wed Nov 11 2026. No macro, syntax, notation, axiom, sorry.
-/
import Derived.Test.YtfoglciiefoodaaGreatDoorRows
import GoSem.ClaimSeven
namespace Go.Proofs.YtfoglciiefoodaaGreatDoor
namespace Rows

/-- THE TIED CARD OF 'foolscaplaw12.CellsPlays'. -/
def cellsPlaysCard : Claim7 := { stood := { row := cellsPlaysRow, standIns := [], harness := (true, "de2abd0979a8ec46bf487d454597b5da3583916e50f9180d1fe8d62be0604d4d"), looks := true }, kinds := [], alts := [], laidByText := true, laidKinds := [.data, .pinned], laidTests := true, laidLooks := .later }
def CellsPlaysCardSaid : Prop := Claim7.holds Tryz.pinned (.plain (OpenSpec.ofChange cellsPlaysSpec)) cellsPlaysCard

/-- THE TIED CARD OF 'foolscaplaw12.CellsPlaces'. -/
def cellsPlacesCard : Claim7 := { stood := { row := cellsPlacesRow, standIns := [], harness := (true, "de2abd0979a8ec46bf487d454597b5da3583916e50f9180d1fe8d62be0604d4d"), looks := true }, kinds := [], alts := [], laidByText := true, laidKinds := [.data, .pinned], laidTests := true, laidLooks := .later }
def CellsPlacesCardSaid : Prop := Claim7.holds Tryz.pinned (.plain (OpenSpec.ofChange cellsPlacesSpec)) cellsPlacesCard

/-- THE TIED CARD OF 'foolscaplaw12.CellsEdits'. -/
def cellsEditsCard : Claim7 := { stood := { row := cellsEditsRow, standIns := [], harness := (true, "de2abd0979a8ec46bf487d454597b5da3583916e50f9180d1fe8d62be0604d4d"), looks := true }, kinds := [], alts := [], laidByText := true, laidKinds := [.data, .pinned], laidTests := true, laidLooks := .later }
def CellsEditsCardSaid : Prop := Claim7.holds Tryz.pinned (.plain (OpenSpec.ofChange cellsEditsSpec)) cellsEditsCard

/-- THE TIED CARD OF 'foolscaplaw12.CellsDrops'. -/
def cellsDropsCard : Claim7 := { stood := { row := cellsDropsRow, standIns := [], harness := (true, "de2abd0979a8ec46bf487d454597b5da3583916e50f9180d1fe8d62be0604d4d"), looks := true }, kinds := [], alts := [], laidByText := true, laidKinds := [.data, .pinned], laidTests := true, laidLooks := .later }
def CellsDropsCardSaid : Prop := Claim7.holds Tryz.pinned (.plain (OpenSpec.ofChange cellsDropsSpec)) cellsDropsCard

/-- THE SECOND FORM's CARD OF 'foolscaplaw12.CellsPlays'. -/
def cellsPlaysUptoCard : Claim7 := { stood := { row := cellsPlaysUptoRow, standIns := [], harness := (true, "de2abd0979a8ec46bf487d454597b5da3583916e50f9180d1fe8d62be0604d4d"), looks := true }, kinds := [], alts := [], laidByText := true, laidKinds := [.data, .pinned], laidTests := true, laidLooks := .later }
def CellsPlaysUptoCardSaid : Prop := Claim7.holds Tryz.pinned (.plain (OpenSpec.upto cellsPlaysSpec)) cellsPlaysUptoCard

/-- THE SECOND FORM's CARD OF 'foolscaplaw12.CellsPlaces'. -/
def cellsPlacesUptoCard : Claim7 := { stood := { row := cellsPlacesUptoRow, standIns := [], harness := (true, "de2abd0979a8ec46bf487d454597b5da3583916e50f9180d1fe8d62be0604d4d"), looks := true }, kinds := [], alts := [], laidByText := true, laidKinds := [.data, .pinned], laidTests := true, laidLooks := .later }
def CellsPlacesUptoCardSaid : Prop := Claim7.holds Tryz.pinned (.plain (OpenSpec.upto cellsPlacesSpec)) cellsPlacesUptoCard

/-- THE SECOND FORM's CARD OF 'foolscaplaw12.CellsEdits'. -/
def cellsEditsUptoCard : Claim7 := { stood := { row := cellsEditsUptoRow, standIns := [], harness := (true, "de2abd0979a8ec46bf487d454597b5da3583916e50f9180d1fe8d62be0604d4d"), looks := true }, kinds := [], alts := [], laidByText := true, laidKinds := [.data, .pinned], laidTests := true, laidLooks := .later }
def CellsEditsUptoCardSaid : Prop := Claim7.holds Tryz.pinned (.plain (OpenSpec.upto cellsEditsSpec)) cellsEditsUptoCard

/-- THE SECOND FORM's CARD OF 'foolscaplaw12.CellsDrops'. -/
def cellsDropsUptoCard : Claim7 := { stood := { row := cellsDropsUptoRow, standIns := [], harness := (true, "de2abd0979a8ec46bf487d454597b5da3583916e50f9180d1fe8d62be0604d4d"), looks := true }, kinds := [], alts := [], laidByText := true, laidKinds := [.data, .pinned], laidTests := true, laidLooks := .later }
def CellsDropsUptoCardSaid : Prop := Claim7.holds Tryz.pinned (.plain (OpenSpec.upto cellsDropsSpec)) cellsDropsUptoCard
end Rows
end Go.Proofs.YtfoglciiefoodaaGreatDoor
