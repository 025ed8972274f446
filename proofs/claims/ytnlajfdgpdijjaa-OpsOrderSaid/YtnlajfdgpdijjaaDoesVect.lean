/- The program's own names and vectors: MayName, NameLess, May, at, Count, Has. -/
import Derived.Test.YtnlajfdgpdijjaaRefVect
namespace Go.Proofs.Ytnlajfdgpdijjaa
open Go.RowKit

set_option maxRecDepth 100000 in
set_option maxHeartbeats 2000000 in
theorem pMayName_any (s q : Int) (w : World) :
    Calls Try.prog 52 #[nmV s q] w fun e w' => e = .returned (.bool (nMay s q)) ∧ Below w.heap.size w w' := by
  unfold nmV
  have hB := (Below.refl w.heap.size w).alloc (Nat.le_refl _) (.cells #[.int .i64 s, .int .i64 q] 23)
  have fin : ∀ b, nMay s q = b → (Ending.returned (.bool b) = .returned (.bool (nMay s q)) ∧ Below w.heap.size w (w.alloc (.cells #[.int .i64 s, .int .i64 q] 23))) := fun b h => ⟨by rw [h], hB⟩
  have HF := Lib.hid fin
  clear fin
  by_cases p1 : 1 ≤ s
  by_cases p2 : s ≤ 16
  by_cases p3 : 1 ≤ q
  by_cases p4 : q ≤ 1099511627776
  all_goals
    go_enter Try.func52, Try.ntmps52
    go_wp2
    go_ret
  · exact HF.out true (decide_eq_true ⟨p1, p2, p3, p4⟩)
  · exact HF.out false (decide_eq_false (by omega))
  · exact HF.out false (decide_eq_false (by omega))
  · exact HF.out false (decide_eq_false (by omega))
  · exact HF.out false (decide_eq_false (by omega))
theorem vLessForm (s q s' q' : Int) : nLess s q s' q' = if s = s' then decide (q < q') else decide (s < s') := by
  unfold nLess
  by_cases h : s = s'
  · subst h; simp
  · rw [if_neg h]
    simp [h]
set_option maxRecDepth 100000 in
set_option maxHeartbeats 2000000 in
theorem pLess_any (s q s' q' : Int) (w : World) :
    Calls Try.prog 41 #[nmV s q, nmV s' q'] w fun e w' => e = .returned (.bool (nLess s q s' q')) ∧ Below w.heap.size w w' := by
  have hF := Lib.hid (vLessForm s q s' q')
  unfold nmV
  have hB := Lib.hid (below_pair w (.cells #[.int .i64 s, .int .i64 q] 23) (.cells #[.int .i64 s', .int .i64 q'] 23))
  by_cases p2 : s = s'
  · subst p2
    have p2b : (s != s) = false := by simp
    rw [if_pos rfl] at hF
    go_enter Try.func41, Try.ntmps41
    go_wp2
    go_ret
    exact ⟨ret_bool hF.out.symm, hB.out⟩
  · have p2b : (s != s') = true := by simpa using p2
    rw [if_neg p2] at hF
    clear p2
    go_enter Try.func41, Try.ntmps41
    go_wp2
    go_ret
    exact ⟨ret_bool hF.out.symm, hB.out⟩
end Go.Proofs.Ytnlajfdgpdijjaa
