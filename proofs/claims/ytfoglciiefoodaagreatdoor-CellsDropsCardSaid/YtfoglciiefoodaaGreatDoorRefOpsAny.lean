/- The document's operations: a number's bytes. -/
import Derived.Test.YtfoglciiefoodaaGreatDoorGRefSplit
import Derived.Test.YtfoglciiefoodaaGreatDoorNumsPut
namespace Go.Proofs.YtfoglciiefoodaaGreatDoor
open Go.RowKit
open Go.Lib (uvarint)

end Go.Proofs.YtfoglciiefoodaaGreatDoor
