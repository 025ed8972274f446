/- The document's vectors: MayName, Less, May, Count, Covers, Same. -/
import Derived.Test.YtnlajfdgpdijjaaVectPlain
import Derived.Test.YtnlajfdgpdijjaaReads64
namespace Go.Proofs.Ytnlajfdgpdijjaa
open Go.RowKit

/-- A name by value. -/
def nmV (s q : Int) : Value := .agg #[.int .i64 s, .int .i64 q]
set_option maxRecDepth 100000 in
set_option maxHeartbeats 2000000 in
theorem rMayName_any (s q : Int) (w : World) :
    Calls Try.prog 35 #[nmV s q] w fun e w' => e = .returned (.bool (nMay s q)) ∧ Below w.heap.size w w' := by
  unfold nmV
  have hB := (Below.refl w.heap.size w).alloc (Nat.le_refl _) (.cells #[.int .i64 s, .int .i64 q] 23)
  have fin : ∀ b, nMay s q = b → (Ending.returned (.bool b) = .returned (.bool (nMay s q)) ∧ Below w.heap.size w (w.alloc (.cells #[.int .i64 s, .int .i64 q] 23))) := fun b h => ⟨by rw [h], hB⟩
  have HF := Lib.hid fin
  clear fin
  by_cases p1 : 1 ≤ s
  by_cases p2 : s ≤ 16
  by_cases p3 : 1 ≤ q
  by_cases p4 : q ≤ 1099511627776
  all_goals
    go_enter Try.func35, Try.ntmps35
    go_wp2
    go_ret
  · exact HF.out true (decide_eq_true ⟨p1, p2, p3, p4⟩)
  · exact HF.out false (decide_eq_false (by omega))
  · exact HF.out false (decide_eq_false (by omega))
  · exact HF.out false (decide_eq_false (by omega))
  · exact HF.out false (decide_eq_false (by omega))
set_option maxRecDepth 100000 in
set_option maxHeartbeats 2000000 in
theorem rLess_any (s q s' q' : Int) (w : World) :
    Calls Try.prog 42 #[nmV s q, nmV s' q'] w fun e w' => e = .returned (.bool (nLess s q s' q')) ∧ Below w.heap.size w w' := by
  unfold nmV
  have hB := below_pair w (.cells #[.int .i64 s, .int .i64 q] 23) (.cells #[.int .i64 s', .int .i64 q'] 23)
  have fin : ∀ b, nLess s q s' q' = b → (Ending.returned (.bool b) = .returned (.bool (nLess s q s' q')) ∧ Below w.heap.size w ((w.alloc (.cells #[.int .i64 s, .int .i64 q] 23)).alloc (.cells #[.int .i64 s', .int .i64 q'] 23))) := fun b h => ⟨by rw [h], hB⟩
  have HF := Lib.hid fin
  clear fin hB
  by_cases p1 : s < s'
  · go_enter Try.func42, Try.ntmps42
    go_wp2
    go_ret
    exact HF.out true (decide_eq_true (.inl p1))
  · by_cases p2 : s = s'
    · subst p2
      by_cases p3 : q < q'
      · go_enter Try.func42, Try.ntmps42
        go_wp2
        go_ret
        exact HF.out true (decide_eq_true (.inr ⟨rfl, p3⟩))
      · go_enter Try.func42, Try.ntmps42
        go_wp2
        go_ret
        exact HF.out false (decide_eq_false (by omega))
    · have p2b : (s == s') = false := beq_eq_false_iff_ne.2 p2
      go_enter Try.func42, Try.ntmps42
      go_wp2
      go_ret
      exact HF.out false (decide_eq_false (by omega))
end Go.Proofs.Ytnlajfdgpdijjaa
