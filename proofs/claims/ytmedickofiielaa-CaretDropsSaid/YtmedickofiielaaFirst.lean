/- The document's first rune of bytes: the walk, by how many bytes the first one asks for. -/
import Derived.Test.YtmedickofiielaaGPlain
import Derived.Test.YtmedickofiielaaGConvOwn
import Derived.Laws.BytesString
import Derived.Lib.Walk
import Derived.Lib.Strings
import Derived.Deep.QuietTactic
import Derived.BigQuiet
import Derived.Deep.RegionHeld
namespace Go.Proofs.Ytmedickofiielaa
open Go.RowKit

end Go.Proofs.Ytmedickofiielaa
