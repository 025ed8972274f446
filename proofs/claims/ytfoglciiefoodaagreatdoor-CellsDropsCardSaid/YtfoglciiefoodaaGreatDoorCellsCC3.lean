/- The program's documents are what the law of drops asks besides. -/
import Derived.Test.YtfoglciiefoodaaGreatDoorGCellsDDo
import Derived.Test.YtfoglciiefoodaaGreatDoorCellsNil2
namespace Go.Proofs.YtfoglciiefoodaaGreatDoor
open Go.RowKit Go.Shelf

def cc3 : CC3 where
  toCC2 := cc2
  do0 := do0_any
  drop0 := drop0_any
  size0 := size0_any
  live0 := live0_any
  text0 := text0_any
  cells0 := cells0_any
  gone0 := gone0_any
  copy0 := copy0_any
  gap0 := gap0_any
  seen0 := seen0_any
  run0 := run0_any
end Go.Proofs.YtfoglciiefoodaaGreatDoor
