/- The document's operations: a number's bytes. -/
import Derived.Test.YtmedickofiielaaGreatDoorGRefSplit
import Derived.Test.YtmedickofiielaaGreatDoorGWriteByte
namespace Go.Proofs.YtmedickofiielaaGreatDoor
open Go.RowKit
open Go.Lib (uvarint)

end Go.Proofs.YtmedickofiielaaGreatDoor
