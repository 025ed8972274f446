/-
  DERIVED. GIVEN WITH THE SEED: THE CARDS: each row of YthekkjfaaedamaaGreatDoorRows.lean that lists a variable, with what it lists TIED to the program's text (the seventh form; the later family's looks); each row that meets fmt, with fmt's text TOLD by the authors' own Lean function (tested against real Go, not proved from fmt's source: count such statements apart). THE CARD IS WHAT COUNTS. Prove the row's statement (the work); the ties are given (YthekkjfaaedamaaGreatDoorTie.lean); close each card by the builder's one call (the guide's Derived/Test/ToyasCard.lean, 'card_holds'). Laid BY PROGRAM, IN A SANDBOX (cutbox-door.mjs). By AI agents, Wed Nov 11 2026. No macro, syntax, notation, axiom, sorry.
-/
import Derived.Test.YthekkjfaaedamaaGreatDoorRows
import GoSem.ClaimSeven
namespace Go.Proofs.YthekkjfaaedamaaGreatDoor
namespace Rows

/-- THE TIED CARD OF 'foolscaplaw13.HistReplays'. -/
def histReplaysCard : Claim7 := { stood := { row := histReplaysRow, standIns := [], harness := (true, "2a501c247cd2d40036f56b976a49c798576ad797824bdac0b89c5a133830bb69"), looks := false }, kinds := [], alts := [], laidByText := true, laidKinds := [.data, .pinned], laidTests := true, laidLooks := .later }
def HistReplaysCardSaid : Prop := Claim7.holds Tryz.pinned (.plain (OpenSpec.ofChange histReplaysSpec)) histReplaysCard

/-- THE SECOND FORM's CARD OF 'foolscaplaw13.HistReplays'. -/
def histReplaysUptoCard : Claim7 := { stood := { row := histReplaysUptoRow, standIns := [], harness := (true, "2a501c247cd2d40036f56b976a49c798576ad797824bdac0b89c5a133830bb69"), looks := false }, kinds := [], alts := [], laidByText := true, laidKinds := [.data, .pinned], laidTests := true, laidLooks := .later }
def HistReplaysUptoCardSaid : Prop := Claim7.holds Tryz.pinned (.plain (OpenSpec.upto histReplaysSpec)) histReplaysUptoCard
end Rows
end Go.Proofs.YthekkjfaaedamaaGreatDoor
