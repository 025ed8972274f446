/-
  NARROWER THAN 'FOR EVERY INPUT', by the rows' own cells (each row's printed sentence says how): CellsPlays: laid · CellsPlaces: laid · CellsEdits: laid · CellsDrops: laid.
  DERIVED. THE GIVEN ROWS OF THIS SEAT. 4 by the template 'for every input the law returns true; each argument reads behind the call as it read before'; 0 by the template 'total and deterministic' (their statements: YtfoglciiefoodaaGreatDoorTotals.lean).
  GIVEN WITH THE SEED: the statements are not yours to turn. If you find one false, say at which input.
  Laid BY PROGRAM, IN A SANDBOX (cutbox-rows.mjs): the forced cells as the released guide's own fill.sh prints them over the translation d26abaa99824e51e… (all of the seat's roots in one cut). By AI agents, Wed Nov 11 2026. No macro, syntax, notation, axiom, sorry.
-/
import Derived.Test.YtfoglciiefoodaaGreatDoorChecked
import GoSem.PinnedTables
import GoSem.Claim
import GoSem.ClaimJoined
import GoSem.ClaimMapViews
import Derived.JoinedTies
import Derived.KernelRfl
namespace Go.Proofs.YtfoglciiefoodaaGreatDoor
/- THE CELL 'sum', in the pinned program and in every row, IS THE sha256 OF THE DUMP (.gsa) THAT YtfoglciiefoodaaGreatDoorProg.lean LOADS. Nothing in Lean hashes anything: it is a label: what it is worth is what the hold of that sum in a sandbox is worth. -/
noncomputable def Tryz.pinned : Pinned := { name := "ytfoglciiefoodaagreatdoor", sum := "d26abaa99824e51e9f11d795a8dab4868562d708093265d2f07cc192c5e7eb82", checked := Tryz.checked }
namespace Rows
def none {H : Type} : Left H := { results := [], args := [] }

/- WHAT THE LISTED PACKAGE-LEVEL VARIABLES READ AS WHEN THE CALL BEGINS. Each datum BY PROGRAM (the guide's laid-datum.mjs) off the statement by which the dump's own 'gosem.cut.vars' lays the variable. In a bare row this is a premise. The card (YtfoglciiefoodaaGreatDoorCards.lean) ties it to the program's text. -/
def laid_unicode_utf8_acceptRanges {H : Type} : DataW H := .agg [.agg [.lit (.int .u8 128), .lit (.int .u8 191)], .agg [.lit (.int .u8 160), .lit (.int .u8 191)], .agg [.lit (.int .u8 128), .lit (.int .u8 159)], .agg [.lit (.int .u8 144), .lit (.int .u8 191)], .agg [.lit (.int .u8 128), .lit (.int .u8 143)], .agg [.lit (.int .u8 0), .lit (.int .u8 0)], .agg [.lit (.int .u8 0), .lit (.int .u8 0)], .agg [.lit (.int .u8 0), .lit (.int .u8 0)], .agg [.lit (.int .u8 0), .lit (.int .u8 0)], .agg [.lit (.int .u8 0), .lit (.int .u8 0)], .agg [.lit (.int .u8 0), .lit (.int .u8 0)], .agg [.lit (.int .u8 0), .lit (.int .u8 0)], .agg [.lit (.int .u8 0), .lit (.int .u8 0)], .agg [.lit (.int .u8 0), .lit (.int .u8 0)], .agg [.lit (.int .u8 0), .lit (.int .u8 0)], .agg [.lit (.int .u8 0), .lit (.int .u8 0)]]
/-- One of Go's own tables, pinned by name: the form's constant. -/
def laid_unicode_utf8_first : DataW Unit := Go.Pinned.utf8First

/-- 'foolscaplaw12.CellsPlays': WHATEVER THE INPUT: true; the input reads as it did. -/
def cellsPlaysSpec : ChangeSpec := { name := "cellsPlays", fn := fun _ => fun
  | [d1, d2] => { results := [.lit (.bool true)], args := [d1, d2] }
  | _ => none }
def cellsPlaysRow : OpenClaim := { program := "ytfoglciiefoodaagreatdoor", sum := "d26abaa99824e51e9f11d795a8dab4868562d708093265d2f07cc192c5e7eb82", func := "foolscap/foolscaplaw12.CellsPlays", spec := "cellsPlays", inPlace := ["internal/abi.NoEscape", "slices.overlaps[foolscap/api.Cell]", "slices.overlaps[foolscap/cells.block]"], unfollowed := true, recurses := true, named := ["unicode/utf8.first", "unicode/utf8.acceptRanges"], plainKeys := false, apart := false, laid := [("unicode/utf8.acceptRanges", laid_unicode_utf8_acceptRanges), ("unicode/utf8.first", laid_unicode_utf8_first)] }
def CellsPlaysSaid : Prop := cellsPlaysRow.holds Tryz.pinned (OpenSpec.ofChange cellsPlaysSpec)

/-- ITS FALSE NEIGHBOUR: 'it returns false'. Refute it at one input. -/
def cellsPlaysWrong : ChangeSpec := { name := "cellsPlays", fn := fun _ => fun
  | [d1, d2] => { results := [.lit (.bool false)], args := [d1, d2] }
  | _ => none }
def CellsPlaysWrongFalsely : Prop := cellsPlaysRow.holds Tryz.pinned (OpenSpec.ofChange cellsPlaysWrong)

/-- 'foolscaplaw12.CellsPlaces': WHATEVER THE INPUT: true; the input reads as it did. -/
def cellsPlacesSpec : ChangeSpec := { name := "cellsPlaces", fn := fun _ => fun
  | [d1, d2, d3] => { results := [.lit (.bool true)], args := [d1, d2, d3] }
  | _ => none }
def cellsPlacesRow : OpenClaim := { program := "ytfoglciiefoodaagreatdoor", sum := "d26abaa99824e51e9f11d795a8dab4868562d708093265d2f07cc192c5e7eb82", func := "foolscap/foolscaplaw12.CellsPlaces", spec := "cellsPlaces", inPlace := ["internal/abi.NoEscape", "slices.overlaps[foolscap/api.Cell]", "slices.overlaps[foolscap/cells.block]"], unfollowed := true, recurses := true, named := ["unicode/utf8.first", "unicode/utf8.acceptRanges"], plainKeys := false, apart := false, laid := [("unicode/utf8.acceptRanges", laid_unicode_utf8_acceptRanges), ("unicode/utf8.first", laid_unicode_utf8_first)] }
def CellsPlacesSaid : Prop := cellsPlacesRow.holds Tryz.pinned (OpenSpec.ofChange cellsPlacesSpec)

/-- ITS FALSE NEIGHBOUR: 'it returns false'. Refute it at one input. -/
def cellsPlacesWrong : ChangeSpec := { name := "cellsPlaces", fn := fun _ => fun
  | [d1, d2, d3] => { results := [.lit (.bool false)], args := [d1, d2, d3] }
  | _ => none }
def CellsPlacesWrongFalsely : Prop := cellsPlacesRow.holds Tryz.pinned (OpenSpec.ofChange cellsPlacesWrong)

/-- 'foolscaplaw12.CellsEdits': WHATEVER THE INPUT: true; the input reads as it did. -/
def cellsEditsSpec : ChangeSpec := { name := "cellsEdits", fn := fun _ => fun
  | [d1, d2, d3] => { results := [.lit (.bool true)], args := [d1, d2, d3] }
  | _ => none }
def cellsEditsRow : OpenClaim := { program := "ytfoglciiefoodaagreatdoor", sum := "d26abaa99824e51e9f11d795a8dab4868562d708093265d2f07cc192c5e7eb82", func := "foolscap/foolscaplaw12.CellsEdits", spec := "cellsEdits", inPlace := ["internal/abi.NoEscape", "slices.overlaps[foolscap/api.Cell]", "slices.overlaps[foolscap/cells.block]", "maps.clone"], unfollowed := true, recurses := true, named := ["unicode/utf8.first", "unicode/utf8.acceptRanges"], plainKeys := false, apart := false, laid := [("unicode/utf8.acceptRanges", laid_unicode_utf8_acceptRanges), ("unicode/utf8.first", laid_unicode_utf8_first)] }
def CellsEditsSaid : Prop := cellsEditsRow.holds Tryz.pinned (OpenSpec.ofChange cellsEditsSpec)

/-- ITS FALSE NEIGHBOUR: 'it returns false'. Refute it at one input. -/
def cellsEditsWrong : ChangeSpec := { name := "cellsEdits", fn := fun _ => fun
  | [d1, d2, d3] => { results := [.lit (.bool false)], args := [d1, d2, d3] }
  | _ => none }
def CellsEditsWrongFalsely : Prop := cellsEditsRow.holds Tryz.pinned (OpenSpec.ofChange cellsEditsWrong)

/-- 'foolscaplaw12.CellsDrops': WHATEVER THE INPUT: true; the input reads as it did. -/
def cellsDropsSpec : ChangeSpec := { name := "cellsDrops", fn := fun _ => fun
  | [d1, d2, d3] => { results := [.lit (.bool true)], args := [d1, d2, d3] }
  | _ => none }
def cellsDropsRow : OpenClaim := { program := "ytfoglciiefoodaagreatdoor", sum := "d26abaa99824e51e9f11d795a8dab4868562d708093265d2f07cc192c5e7eb82", func := "foolscap/foolscaplaw12.CellsDrops", spec := "cellsDrops", inPlace := ["internal/abi.NoEscape", "slices.overlaps[foolscap/api.Cell]", "slices.overlaps[foolscap/cells.block]", "maps.clone"], unfollowed := true, recurses := true, named := ["unicode/utf8.first", "unicode/utf8.acceptRanges"], plainKeys := false, apart := false, laid := [("unicode/utf8.acceptRanges", laid_unicode_utf8_acceptRanges), ("unicode/utf8.first", laid_unicode_utf8_first)] }
def CellsDropsSaid : Prop := cellsDropsRow.holds Tryz.pinned (OpenSpec.ofChange cellsDropsSpec)

/-- ITS FALSE NEIGHBOUR: 'it returns false'. Refute it at one input. -/
def cellsDropsWrong : ChangeSpec := { name := "cellsDrops", fn := fun _ => fun
  | [d1, d2, d3] => { results := [.lit (.bool false)], args := [d1, d2, d3] }
  | _ => none }
def CellsDropsWrongFalsely : Prop := cellsDropsRow.holds Tryz.pinned (OpenSpec.ofChange cellsDropsWrong)

/- THE SECOND FORM. 'bulk': how many values and letters a reading holds, each counted each time it is reached (what is shared counts as often as it is met; a slice's spare places count too). A statement '..UptoSaid' is the law's where the arguments, and the package variables that the reading takes, are together of bulk at most 1048576: NARROWER than '..Said'. Prove '..Said' where nothing that the law and all that it calls make is longer than what came in: it says more and counts as full. Else prove '..UptoSaid'. A law counts once. -/
mutual
def uptoBulk {H : Type} : DataW H → Nat
  | .lit (.string bytes) => bytes.length + 1
  | .lit _ => 1
  | .nil => 1
  | .ptr d => uptoBulk d + 1
  | .slice elems spare => uptoBulkAll elems + uptoBulkAll spare + 1
  | .agg parts => uptoBulkAll parts + 1
  | .iface _ d => uptoBulk d + 1
  | .map entries => uptoBulkEntries entries + 1
  | .held _ => 1
def uptoBulkAll {H : Type} : List (DataW H) → Nat
  | [] => 0
  | d :: r => uptoBulk d + uptoBulkAll r
def uptoBulkEntries {H : Type} : List (Lit × DataW H) → Nat
  | [] => 0
  | x :: r => uptoBulkEntry x + uptoBulkEntries r
def uptoBulkEntry {H : Type} : Lit × DataW H → Nat
  | (.string bytes, d) => bytes.length + uptoBulk d + 1
  | (_, d) => uptoBulk d + 1
 end
def uptoSmall : (H : Type) → List (DataW H) → Bool := fun _ ds => decide (uptoBulkAll ds ≤ 1048576)
def OpenSpec.upto (s : _root_.Go.ChangeSpec) : _root_.Go.OpenSpec := { _root_.Go.OpenSpec.ofChange s with cond := some uptoSmall }

/-- 'foolscaplaw12.CellsPlays', WHERE WHAT IT READS IS OF BULK AT MOST 1048576: true; the input reads as it did. -/
def cellsPlaysUptoRow : OpenClaim := { program := "ytfoglciiefoodaagreatdoor", sum := "d26abaa99824e51e9f11d795a8dab4868562d708093265d2f07cc192c5e7eb82", func := "foolscap/foolscaplaw12.CellsPlays", spec := "cellsPlays", inPlace := ["internal/abi.NoEscape", "slices.overlaps[foolscap/api.Cell]", "slices.overlaps[foolscap/cells.block]"], unfollowed := true, recurses := true, named := ["unicode/utf8.first", "unicode/utf8.acceptRanges"], plainKeys := false, apart := false, laid := [("unicode/utf8.acceptRanges", laid_unicode_utf8_acceptRanges), ("unicode/utf8.first", laid_unicode_utf8_first)], narrowed := true }
def CellsPlaysUptoSaid : Prop := cellsPlaysUptoRow.holds Tryz.pinned (OpenSpec.upto cellsPlaysSpec)

/-- 'foolscaplaw12.CellsPlaces', WHERE WHAT IT READS IS OF BULK AT MOST 1048576: true; the input reads as it did. -/
def cellsPlacesUptoRow : OpenClaim := { program := "ytfoglciiefoodaagreatdoor", sum := "d26abaa99824e51e9f11d795a8dab4868562d708093265d2f07cc192c5e7eb82", func := "foolscap/foolscaplaw12.CellsPlaces", spec := "cellsPlaces", inPlace := ["internal/abi.NoEscape", "slices.overlaps[foolscap/api.Cell]", "slices.overlaps[foolscap/cells.block]"], unfollowed := true, recurses := true, named := ["unicode/utf8.first", "unicode/utf8.acceptRanges"], plainKeys := false, apart := false, laid := [("unicode/utf8.acceptRanges", laid_unicode_utf8_acceptRanges), ("unicode/utf8.first", laid_unicode_utf8_first)], narrowed := true }
def CellsPlacesUptoSaid : Prop := cellsPlacesUptoRow.holds Tryz.pinned (OpenSpec.upto cellsPlacesSpec)

/-- 'foolscaplaw12.CellsEdits', WHERE WHAT IT READS IS OF BULK AT MOST 1048576: true; the input reads as it did. -/
def cellsEditsUptoRow : OpenClaim := { program := "ytfoglciiefoodaagreatdoor", sum := "d26abaa99824e51e9f11d795a8dab4868562d708093265d2f07cc192c5e7eb82", func := "foolscap/foolscaplaw12.CellsEdits", spec := "cellsEdits", inPlace := ["internal/abi.NoEscape", "slices.overlaps[foolscap/api.Cell]", "slices.overlaps[foolscap/cells.block]", "maps.clone"], unfollowed := true, recurses := true, named := ["unicode/utf8.first", "unicode/utf8.acceptRanges"], plainKeys := false, apart := false, laid := [("unicode/utf8.acceptRanges", laid_unicode_utf8_acceptRanges), ("unicode/utf8.first", laid_unicode_utf8_first)], narrowed := true }
def CellsEditsUptoSaid : Prop := cellsEditsUptoRow.holds Tryz.pinned (OpenSpec.upto cellsEditsSpec)

/-- 'foolscaplaw12.CellsDrops', WHERE WHAT IT READS IS OF BULK AT MOST 1048576: true; the input reads as it did. -/
def cellsDropsUptoRow : OpenClaim := { program := "ytfoglciiefoodaagreatdoor", sum := "d26abaa99824e51e9f11d795a8dab4868562d708093265d2f07cc192c5e7eb82", func := "foolscap/foolscaplaw12.CellsDrops", spec := "cellsDrops", inPlace := ["internal/abi.NoEscape", "slices.overlaps[foolscap/api.Cell]", "slices.overlaps[foolscap/cells.block]", "maps.clone"], unfollowed := true, recurses := true, named := ["unicode/utf8.first", "unicode/utf8.acceptRanges"], plainKeys := false, apart := false, laid := [("unicode/utf8.acceptRanges", laid_unicode_utf8_acceptRanges), ("unicode/utf8.first", laid_unicode_utf8_first)], narrowed := true }
def CellsDropsUptoSaid : Prop := cellsDropsUptoRow.holds Tryz.pinned (OpenSpec.upto cellsDropsSpec)

end Rows
end Go.Proofs.YtfoglciiefoodaaGreatDoor
