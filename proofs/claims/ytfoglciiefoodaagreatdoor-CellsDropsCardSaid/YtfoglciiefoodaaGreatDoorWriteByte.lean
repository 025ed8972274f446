/- The library's Builder at this translation: WriteByte. After the library's own proof. -/
import Derived.Test.YtfoglciiefoodaaGreatDoorGCopyCheck
import Derived.Test.YtfoglciiefoodaaGreatDoorConvOwn
namespace Go.Proofs.YtfoglciiefoodaaGreatDoor
open Go.RowKit Go.Shelf

end Go.Proofs.YtfoglciiefoodaaGreatDoor
