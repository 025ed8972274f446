/- Texts of this proof, joined. -/
import Derived.Test.YthekkjfaaedamaaGreatDoorRows
import Derived.WalkKit
import Derived.WalkSpells
import Derived.WalkLawsBesides
import Derived.Lib.Hide
import Derived.Laws.IdiomStrings
import Derived.Lib.Strings
import Derived.Laws.BytesArg
import Derived.Lib.UnsafeStr
import Derived.Maps.AppendAt
import Derived.Test.YthekkjfaaedamaaGreatDoorGPlain
import Derived.Test.YthekkjfaaedamaaGreatDoorGReads64
import Derived.RangeFuncBox
namespace Go.Proofs.YthekkjfaaedamaaGreatDoor
open Go.RowKit

end Go.Proofs.YthekkjfaaedamaaGreatDoor

namespace Go.Proofs.YthekkjfaaedamaaGreatDoor
open Go.RowKit

set_option maxHeartbeats 400000 in
theorem is_any (r : Int) (w : World) : Calls Tryz.prog 45 #[.int .i32 r] w fun e w' => e = .returned (.bool (Lib.validRune r)) ∧ w' = w := by
  obtain ⟨v, hv⟩ : ∃ v, Lib.validRune r = v := ⟨_, rfl⟩
  rw [hv]
  unfold Lib.validRune at hv
  rcases v with _ | _
  all_goals
    first
      | replace hv := of_decide_eq_true hv
      | replace hv := of_decide_eq_false hv
  all_goals
    by_cases a : 0 ≤ r <;> by_cases b : r ≤ 1114111 <;> by_cases c : r < 55296 <;> by_cases d : 57343 < r
  all_goals
    first
      | (exfalso; omega)
      | (clear hv
         go_enter Tryz.func45, Tryz.ntmps45
         go_wp2
         go_ret
         exact ⟨rfl, rfl⟩)

set_option maxHeartbeats 1000000 in
theorem bytes_any (r : Int) (w : World) (h : Lib.validRune r = true) : Calls Tryz.prog 99 #[.int .i32 r] w fun e w' => e = .returned (.slice (some ⟨w.heap.size, 0, none⟩) (Lib.runeCells r).length (Lib.runeCells r).length) ∧ w' = w.alloc (.cells (Lib.runeCells r).toArray 5) := by
  have hv : (0 ≤ r ∧ r < 0xD800) ∨ (0xDFFF < r ∧ r ≤ 0x10FFFF) := by simpa [Lib.validRune] using h
  unfold Lib.runeCells
  have h0 : 0 ≤ r := by omega
  have h1 : r ≤ 0x10FFFF := by omega
  by_cases c1 : r ≤ 127
  · rw [Lib.encodeRuneZ_one (by omega) c1]
    go_enter Tryz.func99, Tryz.ntmps99
    go_wp2
    go_ret
    exact ⟨rfl, rfl⟩
  · by_cases c2 : r ≤ 2047
    · rw [Lib.encodeRuneZ_two (by omega) c2]
      have c1' : ¬ r < 128 := by omega
      go_enter Tryz.func99, Tryz.ntmps99
      go_wp2
      go_ret
      exact ⟨rfl, rfl⟩
    · by_cases c3 : r ≤ 65535
      · rw [Lib.encodeRuneZ_three (by omega)]
        have c1' : ¬ r < 128 := by omega
        have c2' : ¬ r < 2048 := by omega
        clear hv h
        go_enter Tryz.func99, Tryz.ntmps99
        go_wp2
        go_ret
        exact ⟨rfl, rfl⟩
      · rw [Lib.encodeRuneZ_four (by omega) (by omega)]
        have c1' : ¬ r < 128 := by omega
        have c2' : ¬ r < 2048 := by omega
        have c3' : ¬ r < 65536 := by omega
        clear hv h
        go_enter Tryz.func99, Tryz.ntmps99
        go_wp2
        go_ret
        exact ⟨rfl, rfl⟩

theorem conv_new (W : World) (r : Int) :
    (convert 158 9 (.slice (some ⟨W.heap.size, 0, none⟩) (Lib.runeCells r).length (Lib.runeCells r).length)).run Tryz.prog (W.alloc (.cells (Lib.runeCells r).toArray 5)) = .ok (.string ⟨(Lib.encodeRune r).toArray⟩) (W.alloc (.cells (Lib.runeCells r).toArray 5)) := by
  rw [Lib.runeCells_length]
  refine run_convert_bytes_back _ 158 9 5 _ _ _ Tryz.underlying158 Tryz.underlying5 Tryz.underlying9 ?_
  intro j hj
  have e : (⟨W.heap.size, 0, none⟩ : Addr).add j = ⟨W.heap.size, j, none⟩ := by simp [Addr.add]; omega
  rw [e, World.cell?_alloc_mark, ← Lib.byteCells_encodeRune]
  simp [Lib.byteCells, hj]

theorem bytes_conv (r : Int) (w : World) (h : Lib.validRune r = true) : Calls Tryz.prog 99 #[.int .i32 r] w fun e w' => ∃ b n, e = .returned (.slice (some ⟨b, 0, none⟩) n n) ∧ Below w.heap.size w w' ∧ (convert 158 9 (.slice (some ⟨b, 0, none⟩) n n)).run Tryz.prog w' = .ok (.string ⟨(Lib.encodeRune r).toArray⟩) w' := by
  refine (bytes_any r w h).mono ?_
  rintro e w' ⟨rfl, rfl⟩
  exact ⟨_, _, rfl, (Below.refl _ _).alloc (Nat.le_refl _) _, conv_new w r⟩
end Go.Proofs.YthekkjfaaedamaaGreatDoor

namespace Go.Proofs.YthekkjfaaedamaaGreatDoor
open Go.RowKit

def allValid (l : List Int) : Bool := l.all Lib.validRune
theorem allValid_iff {l : List Int} : allValid l = true ↔ ∀ r ∈ l, Lib.validRune r = true := by simp [allValid]

theorem joinL_length_le (l : List Int) : (joinL l).length ≤ 4 * l.length := by
 induction l with
 | nil => simp [joinL_nil]
 | cons r l ih =>
  rw [joinL_cons, List.length_append, List.length_cons]
  have := encode_le r
  omega
theorem joinL_take (l : List Int) (k : Nat) (h : k < l.length) : joinL (l.take (k + 1)) = joinL (l.take k) ++ Lib.encodeRune (l.getD k 0) := by
 rw [List.take_succ_eq_append_getElem h, joinL_append]
 simp [joinL, h]

def RJoinPost (w : World) (xs : List Int) (e : Ending) (w' : World) : Prop :=
 e = .returned (if allValid xs then .tuple #[.string ⟨(joinL xs).toArray⟩, .bool true] else .tuple #[.string ⟨#[]⟩, .bool false]) ∧ Below w.heap.size w w'
theorem RJoinPost.yes {w w' : World} {xs : List Int} (h : allValid xs = true) (hb : Below w.heap.size w w') : RJoinPost w xs (.returned (.tuple #[.string ⟨(joinL xs).toArray⟩, .bool true])) w' := ⟨by rw [if_pos h], hb⟩
theorem RJoinPost.no {w w' : World} {xs : List Int} (h : ¬ allValid xs = true) (hb : Below w.heap.size w w') : RJoinPost w xs (.returned (.tuple #[.string ⟨#[]⟩, .bool false])) w' := ⟨by rw [if_neg h], hb⟩

end Go.Proofs.YthekkjfaaedamaaGreatDoor
