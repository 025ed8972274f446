/- The document's operations: a number's bytes. -/
import Derived.Test.YthekkjfaaedamaaGreatDoorGRefSplit
import Derived.Test.YthekkjfaaedamaaGreatDoorGWriteByte
namespace Go.Proofs.YthekkjfaaedamaaGreatDoor
open Go.RowKit
open Go.Lib (uvarint)

end Go.Proofs.YthekkjfaaedamaaGreatDoor
