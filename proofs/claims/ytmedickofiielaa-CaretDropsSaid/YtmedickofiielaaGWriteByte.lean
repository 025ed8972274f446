/- Texts of this proof, joined. -/
import Derived.Test.YtmedickofiielaaGCopyCheck
import Derived.Test.YtmedickofiielaaGConvOwn
import Derived.Test.YtmedickofiielaaGNumsPlain
import Derived.WalkSpells
import Derived.WalkLawsBesides
import Derived.Lib.Hide
import Derived.BigCall
namespace Go.Proofs.Ytmedickofiielaa
open Go.RowKit Go.Shelf

end Go.Proofs.Ytmedickofiielaa

namespace Go.Proofs.Ytmedickofiielaa
open Go.RowKit Go.Shelf
open Go.Lib (uvarint uvarint_length64 uvarint_small uvarint_big uvarint_pos toUInt8_toNat zigzag)

end Go.Proofs.Ytmedickofiielaa
