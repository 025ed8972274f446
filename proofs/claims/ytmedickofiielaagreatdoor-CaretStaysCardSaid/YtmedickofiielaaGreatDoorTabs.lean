/- The library's two tables, read from the rows' lists. -/
import Derived.Test.YtmedickofiielaaGreatDoorRows
import Derived.Test.YtmedickofiielaaGreatDoorShelf
import Derived.Test.YtmedickofiielaaGreatDoorGNumsPlain
import Derived.Lib.LaidU8T
namespace Go.Proofs.YtmedickofiielaaGreatDoor
open Go.RowKit Go.Shelf Go.Lib

theorem first_eq : Rows.laid_unicode_utf8_first = Lib.firstData := by kernel_rfl
theorem accept_eq : (Rows.laid_unicode_utf8_acceptRanges : DataW Unit) = Lib.acceptData := by kernel_rfl
theorem u8extra : U8Extra Tryz.prog Tryz.lays260_ren := ⟨by kernel_rfl, by kernel_rfl, by kernel_rfl, by kernel_rfl, by kernel_rfl, by kernel_rfl, by kernel_rfl⟩

def lays : List (String × DataW Unit) := Rows.caretShownRow.laid
theorem tabs_of_laid {W : World} (h : laidMet Tryz.prog lays W) : Lib.Utf8Tabs 0 1 W :=
 utf8Tabs_of_readsT (U8Types.of260 Tryz.lays260) u8extra (first_eq ▸ Lib.laidMet.reads h (.tail _ (.head _))) (accept_eq ▸ Lib.laidMet.reads h (.head _))
end Go.Proofs.YtmedickofiielaaGreatDoor
