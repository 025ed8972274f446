/- The library's two tables, where it keeps them. -/
import Derived.Test.YtmedickofiielaaRows
import Derived.Shelf.Unicode.DecodeSlow
namespace Go.Proofs.Ytmedickofiielaa
open Go.RowKit Go.Shelf

def TabW (w : World) : Prop := Lib.Utf8Tabs 0 1 w
theorem TabW.below {w w' : World} (h : TabW w) (hb : Below w.heap.size w w') : TabW w' := Utf8Tabs_below h hb
end Go.Proofs.Ytmedickofiielaa
