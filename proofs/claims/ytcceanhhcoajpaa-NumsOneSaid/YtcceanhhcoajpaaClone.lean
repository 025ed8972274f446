/- strings.Clone: the same bytes. -/
import Derived.Test.YtcceanhhcoajpaaShelf
import Derived.Test.YtcceanhhcoajpaaRows
import Derived.WalkKit
import Derived.WalkSpells
import Derived.WalkLawsBesides
namespace Go.Proofs.Ytcceanhhcoajpaa
open Go.RowKit Go.Shelf

theorem clone_any (s : ByteArray) (w : World) (hs : s.size ≤ 1000000000) :
    Calls Try.prog 22 #[.string s] w fun e W' => e = .returned (.string s) ∧ Below w.heap.size w W' := by
  have hC := Try.stringslite_Clone s w (by omega)
  go_enter Try.func22, Try.ntmps22
  go_wp2_with (go_at_call 30; refine hC.mono ?_; rintro e w1 ⟨rfl, hb⟩)
  go_ret
  exact ⟨rfl, hb⟩
end Go.Proofs.Ytcceanhhcoajpaa
