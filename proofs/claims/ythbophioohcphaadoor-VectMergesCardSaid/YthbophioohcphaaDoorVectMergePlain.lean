/- What a merged vector is, plain. -/
import Derived.Test.YthbophioohcphaaDoorVectPlain
namespace Go.Proofs.YthbophioohcphaaDoor

theorem vMay_getD {xs : List Int} (h : vMay xs = true) (s : Nat) : 0 ≤ xs.getD s 0 ∧ xs.getD s 0 ≤ 1099511627776 := by
  have := vCount_bounds (vMay_parts h).2.1 ((s : Int) + 1)
  rwa [vCount_nat] at this
theorem vCov_iff (a b : List Int) : vCov a b = true ↔ ∀ s : Nat, s < 16 → b.getD s 0 ≤ a.getD s 0 := by
  unfold vCov
  rw [decide_eq_true_eq]
  constructor
  · intro h s hs
    have := h s hs
    rwa [vCount_nat, vCount_nat] at this
  · intro h s hs
    rw [vCount_nat, vCount_nat]
    exact h s hs
theorem vMerge_at (a b : List Int) (s : Nat) (h : s < 16) : (vMerge a b).getD s 0 = if a.getD s 0 < b.getD s 0 then b.getD s 0 else a.getD s 0 := vMade_at _ s h
theorem vMerge_may {a b : List Int} (ha : vMay a = true) (hb : vMay b = true) : vMay (vMerge a b) = true := vMade_may _ fun s _ => by
  have h1 := vMay_getD ha s
  have h2 := vMay_getD hb s
  split
  · exact h2
  · exact h1
theorem vMerge_left (a b : List Int) : vCov (vMerge a b) a = true := (vCov_iff _ _).2 fun s hs => by
  rw [vMerge_at _ _ s hs]
  split <;> omega
theorem vMerge_right (a b : List Int) : vCov (vMerge a b) b = true := (vCov_iff _ _).2 fun s hs => by
  rw [vMerge_at _ _ s hs]
  split <;> omega
theorem vMerge_least (a b c : List Int) : vCov c (vMerge a b) = (vCov c a && vCov c b) := by
  apply Bool.eq_iff_iff.2
  rw [Bool.and_eq_true, vCov_iff, vCov_iff, vCov_iff]
  constructor
  · intro h
    refine ⟨fun s hs => ?_, fun s hs => ?_⟩ <;>
    · have := h s hs
      rw [vMerge_at _ _ s hs] at this
      split at this <;> omega
  · rintro ⟨h1, h2⟩ s hs
    rw [vMerge_at _ _ s hs]
    have := h1 s hs
    have := h2 s hs
    split <;> omega
theorem vMade_length_le (f : Nat → Int) : (vMade f).length ≤ 16 := by rw [vMade_length]; exact vLast_le _ _
end Go.Proofs.YthbophioohcphaaDoor
