/- Parts of bytes: what a number's, a row's and a list's put tells. -/
import Derived.Test.YthekkjfaaedamaaGreatDoorGOpsKind
import Derived.Test.YthekkjfaaedamaaGreatDoorGNumsCatch
namespace Go.Proofs.YthekkjfaaedamaaGreatDoor
open Go.RowKit Go.Shelf
open Go.Lib (uvarint uvarint_length64)

end Go.Proofs.YthekkjfaaedamaaGreatDoor
