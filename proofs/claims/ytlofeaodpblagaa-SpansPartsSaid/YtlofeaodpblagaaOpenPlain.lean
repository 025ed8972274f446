/- What an opened list is, plain: shut again it is as it was. -/
import Derived.Test.YtlofeaodpblagaaSpansAlive
namespace Go.Proofs.Ytlofeaodpblagaa

theorem opC_zero {xs : List Sp} {p n : Int} (h : opC xs p n = 0) : sMay xs = true ∧ 0 ≤ p ∧ p ≤ 20000 ∧ 0 ≤ n ∧ ¬ sFull (sMark xs) p.toNat n.toNat := by
  unfold opC at h
  cases ha : spArgs xs p n with
  | false => rw [ha, if_neg (by decide)] at h; exact absurd h (by decide)
  | true =>
    rw [ha, if_pos rfl] at h
    obtain ⟨h1, h2⟩ := Bool.and_eq_true_iff.1 ha
    have h2 := of_decide_eq_true h2
    refine ⟨h1, h2.1, h2.2.1, h2.2.2, fun q => ?_⟩
    rw [if_pos ((fullB_iff _ _ _).2 q)] at h
    exact absurd h (by decide)
theorem opC_vals (xs : List Sp) (p n : Int) : opC xs p n = 0 ∨ opC xs p n = 1 ∨ opC xs p n = 4 := by
  unfold opC
  split
  · split
    · exact .inr (.inr rfl)
    · exact .inl rfl
  · exact .inr (.inl rfl)
theorem opL_mark (xs : List Sp) (p n : Int) (i : Nat) (hi : i < 20000) : sMark (opL xs p n) i = sOpenM (sMark xs) p.toNat n.toNat i := by
  unfold opL
  rw [sMade_mark, decide_eq_true hi, Bool.true_and]
theorem opL_may (xs : List Sp) (p n : Int) : sMay (opL xs p n) = true := (sMay_good _).2 (sMade_good _ _ (Nat.le_refl _))
theorem opL_length (xs : List Sp) (p n : Int) : (opL xs p n).length ≤ 20000 := sMade_length _ _
theorem open_facts {xs : List Sp} {p n : Int} (h : opC xs p n = 0) : shB (opL xs p n) p n = true ∧ shL (opL xs p n) p n = xs ∧ cntTo (sMark (opL xs p n)) 20000 = cntTo (sMark xs) 20000 := by
  obtain ⟨h1, h2, h3, h4, h5⟩ := opC_zero h
  refine ⟨?_, ?_, ?_⟩
  · unfold shB spArgs
    rw [opL_may, decide_eq_true (show 0 ≤ p ∧ p ≤ 20000 ∧ 0 ≤ n from ⟨h2, h3, h4⟩)]
    cases hz : holdsB (sMark (opL xs p n)) p.toNat n.toNat with
    | false => rfl
    | true =>
      obtain ⟨i, g1, g2, g3, g4⟩ := (holdsB_iff _ _ _).1 hz
      rw [opL_mark _ _ _ i g2] at g3
      exact absurd ⟨i, g1, g2, g3, g4⟩ (sOpen_holds _ _ _)
  · unfold shL
    refine sMade_eq ((sMay_good _).1 h1) fun i hi => ?_
    rw [← sOpen_shut (sMark xs) p.toNat n.toNat h5 i hi]
    unfold sShutM
    by_cases g : i < p.toNat
    · rw [if_pos g, if_pos g, opL_mark _ _ _ i hi]
    · rw [if_neg g, if_neg g]
      by_cases q : i + n.toNat < 20000
      · rw [opL_mark _ _ _ _ q]
      · rw [decide_eq_false q, Bool.false_and, Bool.false_and]
  · rw [cntTo_congr (fun i hi => opL_mark xs p n i hi)]
    exact sOpen_cnt _ _ _ (by omega) h5
end Go.Proofs.Ytlofeaodpblagaa
