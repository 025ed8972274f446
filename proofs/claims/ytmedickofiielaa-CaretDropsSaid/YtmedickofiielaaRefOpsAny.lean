/- The document's operations: a number's bytes. -/
import Derived.Test.YtmedickofiielaaGRefSplit
import Derived.Test.YtmedickofiielaaGWriteByte
namespace Go.Proofs.Ytmedickofiielaa
open Go.RowKit
open Go.Lib (uvarint)

end Go.Proofs.Ytmedickofiielaa
