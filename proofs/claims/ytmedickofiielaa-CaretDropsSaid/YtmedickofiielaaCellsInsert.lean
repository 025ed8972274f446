/- slices.Insert of cells. -/
import Derived.Test.YtmedickofiielaaGReads64
import Derived.Test.YtmedickofiielaaGCellsBlk
import Derived.Shelf.Spec.SlicesInsertGrow
namespace Go.Proofs.Ytmedickofiielaa
open Go.RowKit Go.Shelf
attribute [local go_sem] Oper.semAt_some

end Go.Proofs.Ytmedickofiielaa
