/- Texts of this proof, joined. -/
import Derived.Test.YtfoglciiefoodaaGreatDoorRows
import Derived.Shelf.Unicode.DecodeSlow
import Derived.Lib.VarintMem
import Derived.Lib.VarintBits
import Derived.Lib.Zigzag
namespace Go.Proofs.YtfoglciiefoodaaGreatDoor
open Go.RowKit Go.Shelf

def TabW (w : World) : Prop := Lib.Utf8Tabs 0 1 w
theorem TabW.below {w w' : World} (h : TabW w) (hb : Below w.heap.size w w') : TabW w' := Utf8Tabs_below h hb
end Go.Proofs.YtfoglciiefoodaaGreatDoor

namespace Go.Proofs.YtfoglciiefoodaaGreatDoor
open Go.Lib

end Go.Proofs.YtfoglciiefoodaaGreatDoor
