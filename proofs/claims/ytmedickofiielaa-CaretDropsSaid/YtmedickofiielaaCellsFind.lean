/- Where a document holds a cell. -/
import Derived.Test.YtmedickofiielaaGCellsBlk
import Derived.Test.YtmedickofiielaaGCellsNames
import Derived.Test.YtmedickofiielaaGRefSplit
namespace Go.Proofs.Ytmedickofiielaa
open Go.RowKit Go.Shelf
attribute [local go_sem] Oper.semAt_some

end Go.Proofs.Ytmedickofiielaa
