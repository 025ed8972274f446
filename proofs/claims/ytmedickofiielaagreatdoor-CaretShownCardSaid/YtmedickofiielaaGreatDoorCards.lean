/-
  DERIVED. GIVEN WITH THE SEED: THE CARDS: each row of YtmedickofiielaaGreatDoorRows.lean that lists a variable, with what it lists TIED to the program's text (the seventh form; the later family's looks); each row that meets fmt, with fmt's text TOLD by the authors' own Lean function (tested against real Go, not proved from fmt's source: count such statements apart). THE CARD IS WHAT COUNTS. Prove the row's statement (the work); the ties are given (YtmedickofiielaaGreatDoorTie.lean); close each card by the builder's one call (the guide's Derived/Test/ToyasCard.lean, 'card_holds'). Laid BY PROGRAM, IN A SANDBOX (cutbox-door.mjs). By AI agents, Wed Nov 11 2026. No macro, syntax, notation, axiom, sorry.
-/
import Derived.Test.YtmedickofiielaaGreatDoorRows
import GoSem.ClaimSeven
namespace Go.Proofs.YtmedickofiielaaGreatDoor
namespace Rows

/-- THE TIED CARD OF 'foolscaplaw16.CaretShown'. -/
def caretShownCard : Claim7 := { stood := { row := caretShownRow, standIns := [], harness := (true, "ce841e764b9dd4296d155e958177bb0687120f2af7e1284f9321c52562813a3f"), looks := false }, kinds := [], alts := [], laidByText := true, laidKinds := [.data, .pinned], laidTests := true, laidLooks := .later }
def CaretShownCardSaid : Prop := Claim7.holds Tryz.pinned (.plain (OpenSpec.ofChange caretShownSpec)) caretShownCard

/-- THE TIED CARD OF 'foolscaplaw16.CaretStays'. -/
def caretStaysCard : Claim7 := { stood := { row := caretStaysRow, standIns := [], harness := (true, "ce841e764b9dd4296d155e958177bb0687120f2af7e1284f9321c52562813a3f"), looks := false }, kinds := [], alts := [], laidByText := true, laidKinds := [.data, .pinned], laidTests := true, laidLooks := .later }
def CaretStaysCardSaid : Prop := Claim7.holds Tryz.pinned (.plain (OpenSpec.ofChange caretStaysSpec)) caretStaysCard

/-- THE TIED CARD OF 'foolscaplaw16.CaretTypes'. -/
def caretTypesCard : Claim7 := { stood := { row := caretTypesRow, standIns := [], harness := (true, "ce841e764b9dd4296d155e958177bb0687120f2af7e1284f9321c52562813a3f"), looks := false }, kinds := [], alts := [], laidByText := true, laidKinds := [.data, .pinned], laidTests := true, laidLooks := .later }
def CaretTypesCardSaid : Prop := Claim7.holds Tryz.pinned (.plain (OpenSpec.ofChange caretTypesSpec)) caretTypesCard

/-- THE SECOND FORM's CARD OF 'foolscaplaw16.CaretShown'. -/
def caretShownUptoCard : Claim7 := { stood := { row := caretShownUptoRow, standIns := [], harness := (true, "ce841e764b9dd4296d155e958177bb0687120f2af7e1284f9321c52562813a3f"), looks := false }, kinds := [], alts := [], laidByText := true, laidKinds := [.data, .pinned], laidTests := true, laidLooks := .later }
def CaretShownUptoCardSaid : Prop := Claim7.holds Tryz.pinned (.plain (OpenSpec.upto caretShownSpec)) caretShownUptoCard

/-- THE SECOND FORM's CARD OF 'foolscaplaw16.CaretStays'. -/
def caretStaysUptoCard : Claim7 := { stood := { row := caretStaysUptoRow, standIns := [], harness := (true, "ce841e764b9dd4296d155e958177bb0687120f2af7e1284f9321c52562813a3f"), looks := false }, kinds := [], alts := [], laidByText := true, laidKinds := [.data, .pinned], laidTests := true, laidLooks := .later }
def CaretStaysUptoCardSaid : Prop := Claim7.holds Tryz.pinned (.plain (OpenSpec.upto caretStaysSpec)) caretStaysUptoCard

/-- THE SECOND FORM's CARD OF 'foolscaplaw16.CaretTypes'. -/
def caretTypesUptoCard : Claim7 := { stood := { row := caretTypesUptoRow, standIns := [], harness := (true, "ce841e764b9dd4296d155e958177bb0687120f2af7e1284f9321c52562813a3f"), looks := false }, kinds := [], alts := [], laidByText := true, laidKinds := [.data, .pinned], laidTests := true, laidLooks := .later }
def CaretTypesUptoCardSaid : Prop := Claim7.holds Tryz.pinned (.plain (OpenSpec.upto caretTypesSpec)) caretTypesUptoCard
end Rows
end Go.Proofs.YtmedickofiielaaGreatDoor
