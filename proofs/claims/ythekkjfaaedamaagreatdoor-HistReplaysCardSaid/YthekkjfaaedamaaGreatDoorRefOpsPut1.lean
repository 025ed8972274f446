/- The document's operations: an insertion's bytes. -/
import Derived.Test.YthekkjfaaedamaaGreatDoorRefOpsAny
import Derived.Test.YthekkjfaaedamaaGreatDoorGNumsCatch
import Derived.Deep.RegionHeld
namespace Go.Proofs.YthekkjfaaedamaaGreatDoor
open Go.RowKit
open Go.Lib (uvarint)

theorem OBox.drew {N : Nat} {s q n k a : Int} {t : ByteArray} {sp : Value} {w W : World} (h : OBox N s q n k a t sp w W) : OBox N s q n k a t sp w W.drew := h.draws 1
end Go.Proofs.YthekkjfaaedamaaGreatDoor
