/- Where a document holds a cell. -/
import Derived.Test.YthekkjfaaedamaaGreatDoorGCellsBlk
import Derived.Test.YthekkjfaaedamaaGreatDoorGCellsNames
import Derived.Test.YthekkjfaaedamaaGreatDoorGRefSplit
namespace Go.Proofs.YthekkjfaaedamaaGreatDoor
open Go.RowKit Go.Shelf
attribute [local go_sem] Oper.semAt_some

end Go.Proofs.YthekkjfaaedamaaGreatDoor
