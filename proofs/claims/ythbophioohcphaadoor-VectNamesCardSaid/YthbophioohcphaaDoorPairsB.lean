/- Two vectors gone along in pairs, a Bool kept: covers. -/
import Derived.Test.YthbophioohcphaaDoorDoesVect
namespace Go.Proofs.YthbophioohcphaaDoor
open Go.RowKit

/-- Are the first k counts of xs at least those of ys? -/
def covTo (xs ys : List Int) (k : Nat) : Bool := decide (∀ s : Nat, s < k → ys.getD s 0 ≤ xs.getD s 0)
theorem covTo_zero (xs ys : List Int) : covTo xs ys 0 = true := decide_eq_true fun s hs => absurd hs (Nat.not_lt_zero s)
theorem covTo_next (xs ys : List Int) (k : Nat) : covTo xs ys (k + 1) = (covTo xs ys k && decide (ys.getD k 0 ≤ xs.getD k 0)) := by
  unfold covTo
  apply Bool.eq_iff_iff.2
  simp only [Bool.and_eq_true, decide_eq_true_eq]
  constructor
  · exact fun h => ⟨fun s hs => h s (by omega), h k (by omega)⟩
  · rintro ⟨h, hk⟩ s hs
    rcases Nat.lt_or_ge s k with g | g
    · exact h s g
    · obtain rfl : s = k := by omega
      exact hk
theorem covTo_far (xs ys : List Int) (k : Nat) (hx : xs.length ≤ k) (hy : ys.length ≤ k) (hk : k ≤ 16) : covTo xs ys k = vCov xs ys := by
  unfold covTo vCov
  apply Bool.eq_iff_iff.2
  simp only [decide_eq_true_eq, vCount_nat]
  constructor
  · intro h s hs
    rcases Nat.lt_or_ge s k with g | g
    · exact h s g
    · simp [List.getD, Nat.le_trans hx g, Nat.le_trans hy g]
  · exact fun h s hs => h s (by omega)
set_option maxRecDepth 100000 in
set_option maxHeartbeats 2000000 in
theorem covStep_any (b : Bool) (x y : Int) (w : World) :
    Calls Tryd.prog 50 #[.bool b, .int .i64 x, .int .i64 y] w fun e w' => e = .returned (.bool (b && decide (y ≤ x))) ∧ w = w' := by
  cases b
  all_goals
    go_enter Tryd.func50, Tryd.ntmps50
    go_wp2
    go_ret
    exact ⟨by first | rfl | simp, rfl⟩
set_option maxRecDepth 100000 in
set_option maxHeartbeats 4000000 in
theorem pairsB_any (u v : Value) (xs ys : List Int) (m : Nat) (w : World) (h1 : Reads64 w u xs) (h2 : Reads64 w v ys) (hm : max xs.length ys.length = m) (hb : m ≤ 1000000) :
    Calls Tryd.prog 49 #[u, v, .bool true, .func (.func 50) #[] #[]] w fun e w' => e = .returned (.bool (covTo xs ys m)) ∧ w = w' := by
  have hA := fun k => pAt_any u xs k w h1
  have hB := fun k => pAt_any v ys k w h2
  obtain ⟨a1, c1, rfl, _⟩ := h1
  obtain ⟨a2, c2, rfl, _⟩ := h2
  obtain ⟨n1, hn1⟩ : ∃ n, xs.length = n := ⟨_, rfl⟩
  obtain ⟨n2, hn2⟩ : ∃ n, ys.length = n := ⟨_, rfl⟩
  rw [hn1] at hA hm ⊢
  rw [hn2] at hB hm ⊢
  clear hn1 hn2
  have hst := fun b x y => covStep_any b x y w
  have hcase : (n1 < n2 ∧ m = n2) ∨ (n2 ≤ n1 ∧ m = n1) := by omega
  clear hm
  rcases hcase with ⟨hlt, hm⟩ | ⟨hlt, hm⟩
  all_goals
    subst hm
    go_enter Tryd.func49, Tryd.ntmps49
    go_wp2_with fail
    go_loop [9, 17] (fun so i => ∃ k : Nat, i = .int .i64 k ∧ k ≤ m ∧ so = .bool (covTo xs ys k)) (fun _ i => m - (intOf i).toNat)
    case atStart => exact ⟨0, rfl, Nat.zero_le _, by rw [covTo_zero]⟩
    case round =>
      obtain ⟨k, rfl, hk, rfl⟩ := hrel
      rcases Nat.lt_or_ge k m with hlt | hge
      · have a1 := hA k
        have b1 := hB k
        have s1 := hst (covTo xs ys k) (xs.getD k 0) (ys.getD k 0)
        rw [← covTo_next] at s1
        generalize covTo xs ys k = t at *
        generalize xs.getD k 0 = x at *
        generalize ys.getD k 0 = y at *
        clear hA hB hst
        go_wp2_with fail
        refine a1.mono ?_
        clear a1
        rintro e _ ⟨rfl, rfl⟩
        go_wp2_with fail
        refine b1.mono ?_
        clear b1
        rintro e _ ⟨rfl, rfl⟩
        go_wp2_with fail
        refine s1.mono ?_
        clear s1
        rintro e _ ⟨rfl, rfl⟩
        go_wp2
        go_round
        case rel => exact ⟨k + 1, by go_num, by omega, rfl⟩
        case measure => simp [intOf]; omega
      · obtain rfl : k = m := by omega
        clear hA hB hst
        go_wp2
        go_ret
        exact ⟨rfl, rfl⟩
set_option maxRecDepth 100000 in
set_option maxHeartbeats 2000000 in
theorem pcov_any (u v : Value) (xs ys : List Int) (w : World) (h1 : Reads64 w u xs) (h2 : Reads64 w v ys) (hx : xs.length ≤ 16) (hy : ys.length ≤ 16) :
    Calls Tryd.prog 39 #[u, v] w fun e w' => e = .returned (.bool (vCov xs ys)) ∧ w = w' := by
  have hP := pairsB_any u v xs ys _ w h1 h2 rfl (by omega)
  rw [covTo_far xs ys _ (by omega) (by omega) (by omega)] at hP
  clear h1 h2 hx hy
  go_enter Tryd.func39, Tryd.ntmps39
  go_wp2_with fail
  refine hP.mono ?_
  rintro e _ ⟨rfl, rfl⟩
  go_wp2
  go_ret
  exact ⟨rfl, rfl⟩
end Go.Proofs.YthbophioohcphaaDoor
