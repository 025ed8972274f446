/- Texts of this proof, joined. -/
import Derived.Test.YtmedickofiielaaRows
import Derived.WalkKit
import Derived.WalkSpells
import Derived.WalkLawsBesides
import Derived.Lib.Hide
import Derived.Laws.IdiomStrings
import Derived.Lib.Strings
import Derived.Laws.BytesArg
import Derived.Lib.UnsafeStr
import Derived.Maps.AppendAt
import Derived.Test.YtmedickofiielaaGPlain
import Derived.Test.YtmedickofiielaaGReads64
import Derived.RangeFuncBox
namespace Go.Proofs.Ytmedickofiielaa
open Go.RowKit

end Go.Proofs.Ytmedickofiielaa

namespace Go.Proofs.Ytmedickofiielaa
open Go.RowKit

end Go.Proofs.Ytmedickofiielaa

namespace Go.Proofs.Ytmedickofiielaa
open Go.RowKit

def allValid (l : List Int) : Bool := l.all Lib.validRune
theorem allValid_iff {l : List Int} : allValid l = true ↔ ∀ r ∈ l, Lib.validRune r = true := by simp [allValid]

theorem joinL_length_le (l : List Int) : (joinL l).length ≤ 4 * l.length := by
 induction l with
 | nil => simp [joinL_nil]
 | cons r l ih =>
  rw [joinL_cons, List.length_append, List.length_cons]
  have := encode_le r
  omega
theorem joinL_take (l : List Int) (k : Nat) (h : k < l.length) : joinL (l.take (k + 1)) = joinL (l.take k) ++ Lib.encodeRune (l.getD k 0) := by
 rw [List.take_succ_eq_append_getElem h, joinL_append]
 simp [joinL, h]

def RJoinPost (w : World) (xs : List Int) (e : Ending) (w' : World) : Prop :=
 e = .returned (if allValid xs then .tuple #[.string ⟨(joinL xs).toArray⟩, .bool true] else .tuple #[.string ⟨#[]⟩, .bool false]) ∧ Below w.heap.size w w'
theorem RJoinPost.yes {w w' : World} {xs : List Int} (h : allValid xs = true) (hb : Below w.heap.size w w') : RJoinPost w xs (.returned (.tuple #[.string ⟨(joinL xs).toArray⟩, .bool true])) w' := ⟨by rw [if_pos h], hb⟩
theorem RJoinPost.no {w w' : World} {xs : List Int} (h : ¬ allValid xs = true) (hb : Below w.heap.size w w') : RJoinPost w xs (.returned (.tuple #[.string ⟨#[]⟩, .bool false])) w' := ⟨by rw [if_neg h], hb⟩

end Go.Proofs.Ytmedickofiielaa
