/- caret, on the program's side: what may be. -/
import Derived.Test.YtmedickofiielaaGRefMark
import Derived.Test.YtmedickofiielaaGRefSplit
namespace Go.Proofs.Ytmedickofiielaa
open Go.RowKit

def inB (n m : Int) : Bool := decide (0 ≤ n) && decide (n ≤ m)
def siB (n : Int) : Bool := decide (1 ≤ n) && decide (n ≤ 16)
theorem kMay_in (s a t size : Int) : kMay s a t size = (inB size 20000 && siB s && inB a size && inB t size) := by
 unfold kMay inB siB
 simp only [Bool.and_assoc]
theorem siB_iff (n : Int) : siB n = true ↔ 1 ≤ n ∧ n ≤ 16 := by
 unfold siB
 simp only [Bool.and_eq_true, decide_eq_true_eq]
set_option maxRecDepth 100000 in
set_option maxHeartbeats 2000000 in
theorem isIn_any (n m : Int) (w : World) : Calls Try.prog 30 #[.int .i64 n, .int .i64 m] w fun e w' => e = .returned (.bool (inB n m)) ∧ w' = w := by
 by_cases p1 : 0 ≤ n
 by_cases p2 : n ≤ m
 all_goals
  go_enter Try.func30, Try.ntmps30
  go_wp2
  go_ret
  exact ⟨ret_bool (by unfold inB; simp [*] <;> omega), rfl⟩
set_option maxRecDepth 100000 in
set_option maxHeartbeats 2000000 in
theorem isSite_any (n : Int) (w : World) : Calls Try.prog 24 #[.int .i64 n] w fun e w' => e = .returned (.bool (siB n)) ∧ w' = w := by
 by_cases p1 : 1 ≤ n
 by_cases p2 : n ≤ 16
 all_goals
  go_enter Try.func24, Try.ntmps24
  go_wp2
  go_ret
  exact ⟨ret_bool (by unfold siB; simp [*] <;> omega), rfl⟩
set_option maxRecDepth 100000 in
set_option maxHeartbeats 4000000 in
theorem cMayK_any (s a t size : Int) (w : World) : Calls Try.prog 15 #[mkA s a t, .int .i64 size] w fun e w' => e = .returned (.bool (kMay s a t size)) ∧ Below w.heap.size w w' := by
 have hB := (Below.refl w.heap.size w).alloc (Nat.le_refl _) (.cells #[.int .i64 s, .int .i64 a, .int .i64 t] 27)
 have h1 := isIn_any size 20000
 have h2 := isSite_any s
 have h3 := isIn_any a size
 have h4 := isIn_any t size
 rw [kMay_in]
 generalize inB size 20000 = b1 at *
 generalize siB s = b2 at *
 generalize inB a size = b3 at *
 generalize inB t size = b4 at *
 unfold mkA
 cases b1 <;> cases b2 <;> cases b3 <;> cases b4
 all_goals
  go_enter Try.func15, Try.ntmps15
  go_wp2_with (first | (go_at_call 24; refine (h2 _).mono ?_; rintro e _ ⟨rfl, rfl⟩) | (go_at_call 30; (first | (with_reducible refine (h1 _).mono ?_) | (with_reducible refine (h3 _).mono ?_) | (with_reducible refine (h4 _).mono ?_)); rintro e _ ⟨rfl, rfl⟩))
  go_ret
  exact ⟨rfl, hB⟩
end Go.Proofs.Ytmedickofiielaa
