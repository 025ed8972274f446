/- A row of bytes of the call's own, as a string. -/
import Derived.Test.YtfoglciiefoodaaGreatDoorRows
import Derived.WalkKit
import Derived.WalkSpells
import Derived.WalkLawsBesides
import Derived.Lib.Hide
import Derived.Laws.IdiomStrings
import Derived.Lib.Strings
import Derived.Laws.BytesArg
import Derived.Lib.UnsafeStr
import Derived.Maps.AppendAt
namespace Go.Proofs.YtfoglciiefoodaaGreatDoor
open Go.RowKit

end Go.Proofs.YtfoglciiefoodaaGreatDoor
