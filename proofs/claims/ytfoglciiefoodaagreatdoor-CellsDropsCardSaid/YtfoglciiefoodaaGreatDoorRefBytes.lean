/- The document's Is and Bytes. -/
import Derived.Test.YtfoglciiefoodaaGreatDoorGPlain
import Derived.WalkKit
import Derived.WalkSpells
import Derived.WalkLawsBesides
import Derived.Lib.Hide
import Derived.Laws.IdiomStrings
import Derived.Lib.Strings
namespace Go.Proofs.YtfoglciiefoodaaGreatDoor
open Go.RowKit

end Go.Proofs.YtfoglciiefoodaaGreatDoor
