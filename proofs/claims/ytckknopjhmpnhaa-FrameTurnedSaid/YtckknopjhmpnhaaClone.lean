/- strings.Clone: the same bytes. -/
import Derived.Test.YtckknopjhmpnhaaShelf
import Derived.Test.YtckknopjhmpnhaaRows
import Derived.WalkKit
import Derived.WalkSpells
import Derived.WalkLawsBesides
namespace Go.Proofs.Ytckknopjhmpnhaa
open Go.RowKit Go.Shelf

theorem clone_any (s : ByteArray) (w : World) (hs : s.size ≤ 1000000000) :
    Calls Try.prog 46 #[.string s] w fun e W' => e = .returned (.string s) ∧ Below w.heap.size w W' := by
  have hC := Try.stringslite_Clone s w (by omega)
  go_enter Try.func46, Try.ntmps46
  go_wp2_with (go_at_call 56; refine hC.mono ?_; rintro e w1 ⟨rfl, hb⟩)
  go_ret
  exact ⟨rfl, hb⟩
end Go.Proofs.Ytckknopjhmpnhaa
