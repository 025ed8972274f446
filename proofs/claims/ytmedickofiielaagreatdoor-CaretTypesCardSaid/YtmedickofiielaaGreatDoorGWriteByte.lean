/- Texts of this proof, joined. -/
import Derived.Test.YtmedickofiielaaGreatDoorGCopyCheck
import Derived.Test.YtmedickofiielaaGreatDoorGConvOwn
import Derived.Test.YtmedickofiielaaGreatDoorGNumsPlain
import Derived.WalkSpells
import Derived.WalkLawsBesides
import Derived.Lib.Hide
import Derived.BigCall
namespace Go.Proofs.YtmedickofiielaaGreatDoor
open Go.RowKit Go.Shelf

end Go.Proofs.YtmedickofiielaaGreatDoor

namespace Go.Proofs.YtmedickofiielaaGreatDoor
open Go.RowKit Go.Shelf
open Go.Lib (uvarint uvarint_length64 uvarint_small uvarint_big uvarint_pos toUInt8_toNat zigzag)

end Go.Proofs.YtmedickofiielaaGreatDoor
