/- sort.Search's contract at this translation, in plain words (made by the shelf's tool; its remarks struck). -/
import Derived.Shelf.SlSorted.Search
import Derived.Test.YtpldalmodcmfaaaDoorProg
namespace Go.Proofs
open Go.Shelf
def Tryd.lays_search_ren : Go.Shelf.Ren := ⟨fun | 16 => 55 | n => n, fun | 3 => 3 | 35 => 96 | 4 => 4 | 38 => 113 | n => n, fun | n => n⟩
theorem Tryd.lays_search : Go.Proofs.SlLaysO.n16 Tryd.prog Tryd.lays_search_ren := {
  mixed := by kernel_rfl
  f16 := Tryd.func55.trans (congrArg some (by kernel_rfl))
  t3 := Tryd.underlying3
  a3 := Tryd.isAgg3
  z3 := Tryd.sizeOf3
  v3 := Tryd.zeroValue3
  t4 := Tryd.underlying4
  a4 := Tryd.isAgg4
  z4 := Tryd.sizeOf4
  v4 := Tryd.zeroValue4
  t35 := Tryd.underlying96
  a35 := Tryd.isAgg96
  z35 := Tryd.sizeOf96
  v35 := Tryd.zeroValue96
  t38 := Tryd.underlying113
  a38 := Tryd.isAgg113
  z38 := Tryd.sizeOf113
  v38 := Tryd.zeroValue113 }
end Go.Proofs
