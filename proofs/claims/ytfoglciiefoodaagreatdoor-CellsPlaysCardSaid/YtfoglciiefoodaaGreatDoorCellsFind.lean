/- Where a document holds a cell. -/
import Derived.Test.YtfoglciiefoodaaGreatDoorGCellsBlk
import Derived.Test.YtfoglciiefoodaaGreatDoorGCellsNames
import Derived.Test.YtfoglciiefoodaaGreatDoorGCellsAlong
import Derived.Test.YtfoglciiefoodaaGreatDoorGCellsAsked
namespace Go.Proofs.YtfoglciiefoodaaGreatDoor
open Go.RowKit Go.Shelf
attribute [local go_sem] Oper.semAt_some

end Go.Proofs.YtfoglciiefoodaaGreatDoor
