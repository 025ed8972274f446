/- Put, PutInt, PutText: the program's and the document's. -/
import Derived.Test.YtfoglciiefoodaaGreatDoorGTabW
import Derived.Test.YtfoglciiefoodaaGreatDoorWriteByte
import Derived.WalkSpells
import Derived.WalkLawsBesides
import Derived.Lib.Hide
import Derived.BigCall
namespace Go.Proofs.YtfoglciiefoodaaGreatDoor
open Go.RowKit Go.Shelf
open Go.Lib (uvarint uvarint_length64 uvarint_small uvarint_big uvarint_pos toUInt8_toNat zigzag)

end Go.Proofs.YtfoglciiefoodaaGreatDoor
