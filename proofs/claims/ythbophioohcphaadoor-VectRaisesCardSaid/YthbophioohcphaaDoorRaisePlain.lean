/- What a raised vector is, plain: it has that name, and just one more. -/
import Derived.Test.YthbophioohcphaaDoorVectMergePlain
import Derived.Test.YthbophioohcphaaDoorRefRaise
namespace Go.Proofs.YthbophioohcphaaDoor

theorem raise_facts {xs : List Int} {s q : Int} (h : raiseC xs s q = 0) : vMay xs = true ∧ nMay s q = true ∧ vCount xs s ≠ 1099511627776 ∧ q = vCount xs s + 1 := by
  unfold raiseC at h
  cases hm : (vMay xs && nMay s q) with
  | false => rw [hm, if_pos rfl] at h; exact absurd h (by decide)
  | true =>
    obtain ⟨h1, h2⟩ := Bool.and_eq_true_iff.1 hm
    rw [hm, if_neg (by decide)] at h
    refine ⟨h1, h2, fun e => ?_, ?_⟩
    · rw [if_pos e] at h; exact absurd h (by decide)
    · by_cases g : vCount xs s = 1099511627776
      · rw [if_pos g] at h; exact absurd h (by decide)
      · rw [if_neg g] at h
        by_cases k : q = vCount xs s + 1
        · exact k
        · rw [if_pos k] at h; exact absurd h (by decide)
theorem vRaise_at (xs : List Int) (s q : Int) (k : Nat) (hk : k < 16) : (vRaise xs s q).getD k 0 = if (k : Int) + 1 = s then q else xs.getD k 0 := vMade_at _ k hk
theorem vRaise_count (xs : List Int) (s q : Int) (k : Nat) (hk : k < 16) : vCount (vRaise xs s q) ((k : Int) + 1) = if (k : Int) + 1 = s then q else vCount xs ((k : Int) + 1) := by
  rw [vCount_nat, vCount_nat, vRaise_at xs s q k hk]
theorem vRaise_may {xs : List Int} {s q : Int} (h : raiseC xs s q = 0) : vMay (vRaise xs s q) = true := by
  obtain ⟨h1, h2, _, _⟩ := raise_facts h
  have hs := of_decide_eq_true h2
  refine vMade_may _ fun k hk => ?_
  show 0 ≤ (if (k : Int) + 1 = s then q else xs.getD k 0) ∧ (if (k : Int) + 1 = s then q else xs.getD k 0) ≤ 1099511627776
  by_cases e : (k : Int) + 1 = s
  · rw [if_pos e]; omega
  · rw [if_neg e]; exact vMay_getD h1 k
/-- How many more the first k sites have. -/
theorem vRaise_more {xs : List Int} {s q : Int} (h : raiseC xs s q = 0) (k : Nat) (hk : k < 16) : vCount (vRaise xs s q) ((k : Int) + 1) - vCount xs ((k : Int) + 1) = if (k : Int) + 1 = s then 1 else 0 := by
  obtain ⟨_, _, _, h4⟩ := raise_facts h
  rw [vRaise_count xs s q k hk]
  by_cases e : (k : Int) + 1 = s
  · rw [if_pos e, if_pos e, h4, e]; omega
  · rw [if_neg e, if_neg e]; omega
theorem vRaise_has {xs : List Int} {s q : Int} (h : raiseC xs s q = 0) : decide (q ≤ vCount (vRaise xs s q) s) = true ∧ decide (q ≤ vCount xs s) = false := by
  obtain ⟨h1, h2, _, h4⟩ := raise_facts h
  have hs := of_decide_eq_true h2
  obtain ⟨k, hk⟩ : ∃ k : Nat, s = (k : Int) + 1 := ⟨(s - 1).toNat, by omega⟩
  refine ⟨decide_eq_true ?_, decide_eq_false (by omega)⟩
  rw [hk, vRaise_count xs _ q k (by omega), if_pos rfl]
  exact Int.le_refl _
theorem vRaise_order {xs : List Int} {s q : Int} (h : raiseC xs s q = 0) : vCov (vRaise xs s q) xs = true ∧ vCov xs (vRaise xs s q) = false := by
  obtain ⟨h1, h2, _, h4⟩ := raise_facts h
  have hs := of_decide_eq_true h2
  obtain ⟨k, hk⟩ : ∃ k : Nat, s = (k : Int) + 1 := ⟨(s - 1).toNat, by omega⟩
  constructor
  · refine (vCov_iff _ _).2 fun j hj => ?_
    rw [vRaise_at xs s q j hj]
    by_cases e : (j : Int) + 1 = s
    · rw [if_pos e]
      have : vCount xs s = xs.getD j 0 := by rw [← e]; exact vCount_nat xs j
      omega
    · rw [if_neg e]; exact Int.le_refl _
  · cases hc : vCov xs (vRaise xs s q) with
    | false => rfl
    | true =>
      have := (vCov_iff _ _).1 hc k (by omega)
      rw [vRaise_at xs s q k (by omega), if_pos hk.symm] at this
      have e2 : vCount xs s = xs.getD k 0 := by rw [hk]; exact vCount_nat xs k
      omega
end Go.Proofs.YthbophioohcphaaDoor
