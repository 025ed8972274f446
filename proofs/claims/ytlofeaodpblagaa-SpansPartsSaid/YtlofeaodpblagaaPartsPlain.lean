/- What two lists' parts are, plain; and a list that is opened twice. -/
import Derived.Test.YtlofeaodpblagaaOpenPlain
import Derived.Test.YtlofeaodpblagaaEdgesPlain
namespace Go.Proofs.Ytlofeaodpblagaa

theorem twoL_mark (k : Nat) (xs ys : List Sp) (i : Nat) (hi : i < 20000) : sMark (twoL k xs ys) i = twoB k (sMark xs i) (sMark ys i) := by
  unfold twoL
  rw [sMade_mark, decide_eq_true hi, Bool.true_and]
theorem twoL_may (k : Nat) (xs ys : List Sp) : sMay (twoL k xs ys) = true := (sMay_good _).2 (sMade_good _ _ (Nat.le_refl _))
theorem twoL_len (k : Nat) (xs ys : List Sp) : (twoL k xs ys).length ≤ 1000000 := Nat.le_trans (sMade_length _ _) (by decide)
/-- What one has alone, what the other one has alone, what both have: all of it. -/
theorem parts_all (xs ys : List Sp) : twoL 0 (twoL 0 (twoL 2 xs ys) (twoL 2 ys xs)) (twoL 1 xs ys) = twoL 0 xs ys := by
  show sMade _ 20000 = sMade _ 20000
  refine sMade_congr fun i hi => ?_
  rw [twoL_mark _ _ _ i hi, twoL_mark _ _ _ i hi, twoL_mark _ _ _ i hi, twoL_mark _ _ _ i hi]
  cases sMark xs i <;> cases sMark ys i <;> rfl
theorem parts_cnt (xs ys : List Sp) : cntTo (sMark (twoL 2 xs ys)) 20000 + cntTo (sMark (twoL 2 ys xs)) 20000 + cntTo (sMark (twoL 1 xs ys)) 20000 = cntTo (sMark (twoL 0 xs ys)) 20000 := by
  rw [cntTo_congr (fun i hi => twoL_mark 2 xs ys i hi), cntTo_congr (fun i hi => twoL_mark 2 ys xs i hi), cntTo_congr (fun i hi => twoL_mark 1 xs ys i hi), cntTo_congr (fun i hi => twoL_mark 0 xs ys i hi)]
  exact cntTo_parts (sMark xs) (sMark ys) 20000
/-- Which error Open tells of a list that may be, a point that is one, and a number from 0 on. -/
theorem opC_full {xs : List Sp} {p n : Int} (h1 : sMay xs = true) (h2 : 0 ≤ p) (h3 : p ≤ 20000) (h4 : 0 ≤ n) : (sFull (sMark xs) p.toNat n.toNat → opC xs p n = 4) ∧ (¬ sFull (sMark xs) p.toNat n.toNat → opC xs p n = 0) := by
  have ha : spArgs xs p n = true := by
    unfold spArgs
    rw [h1, decide_eq_true (show 0 ≤ p ∧ p ≤ 20000 ∧ 0 ≤ n from ⟨h2, h3, h4⟩)]
    rfl
  constructor
  · intro q
    unfold opC
    rw [if_pos ha, if_pos ((fullB_iff _ _ _).2 q)]
  · intro q
    unfold opC
    rw [if_pos ha, if_neg fun g => q ((fullB_iff _ _ _).1 g)]
/-- The list that Open tells. -/
def opD (xs : List Sp) (p n : Int) : List Sp := if opC xs p n = 0 then opL xs p n else []
theorem opD_wf (xs : List Sp) (p n : Int) : sWf (opD xs p n) := by
  unfold opD
  split
  · exact sWf_good (sMade_good _ _ (Nat.le_refl _))
  · exact sWf_nil
theorem opD_length (xs : List Sp) (p n : Int) : (opD xs p n).length ≤ 1000000 := by
  unfold opD
  split
  · exact Nat.le_trans (opL_length _ _ _) (by decide)
  · exact Nat.zero_le _
theorem sFull_congr {f g : Nat → Bool} (h : ∀ i, i < 20000 → f i = g i) (a n : Nat) : sFull f a n ↔ sFull g a n := by
  constructor
  · rintro ⟨i, h1, h2, h3, h4⟩
    exact ⟨i, h1, h2, by rw [← h i h2]; exact h3, h4⟩
  · rintro ⟨i, h1, h2, h3, h4⟩
    exact ⟨i, h1, h2, by rw [h i h2]; exact h3, h4⟩
theorem open_twice {xs : List Sp} {p n m : Int} (h1 : sMay xs = true) (h2 : 0 ≤ p) (h3 : p ≤ 20000) (h4 : 0 ≤ n) (h5 : 0 ≤ m) :
    ((opC xs p n ≠ 0 ∨ opC (opD xs p n) p m ≠ 0) → opC xs p (n + m) = 4) ∧ (opC xs p n = 0 → opC (opD xs p n) p m = 0 → opC xs p (n + m) = 0 ∧ opD (opD xs p n) p m = opD xs p (n + m)) := by
  have hnm : (n + m).toNat = n.toNat + m.toNat := by omega
  obtain ⟨f1, f2⟩ := opC_full h1 h2 h3 h4
  obtain ⟨g1, g2⟩ := opC_full h1 h2 h3 (show 0 ≤ n + m by omega)
  rw [hnm, sFull_twice] at g1 g2
  by_cases hf : sFull (sMark xs) p.toNat n.toNat
  · refine ⟨fun _ => g1 (.inl hf), fun q => ?_⟩
    rw [f1 hf] at q
    exact absurd q (by decide)
  · have e0 := f2 hf
    have hD : opD xs p n = opL xs p n := by unfold opD; rw [if_pos e0]
    rw [hD]
    obtain ⟨k1, k2⟩ := opC_full (opL_may xs p n) h2 h3 h5
    have hc := sFull_congr (fun i hi => opL_mark xs p n i hi) p.toNat m.toNat
    by_cases hq : sFull (sMark (opL xs p n)) p.toNat m.toNat
    · refine ⟨fun _ => g1 (.inr (hc.1 hq)), fun _ q => ?_⟩
      rw [k1 hq] at q
      exact absurd q (by decide)
    · have hz := g2 (by
        rintro (q | q)
        · exact hf q
        · exact hq (hc.2 q))
      refine ⟨fun q => ?_, fun _ _ => ⟨hz, ?_⟩⟩
      · rcases q with q | q
        · exact absurd e0 q
        · exact absurd (k2 hq) q
      · unfold opD
        rw [if_pos (k2 hq), if_pos hz]
        show sMade _ 20000 = sMade _ 20000
        refine sMade_congr fun i hi => ?_
        rw [hnm, ← sOpen_twice]
        show sOpenM (sMark (opL xs p n)) p.toNat m.toNat i = sOpenM (sOpenM (sMark xs) p.toNat n.toNat) p.toNat m.toNat i
        unfold sOpenM
        by_cases q1 : i < p.toNat
        · rw [if_pos q1, if_pos q1, opL_mark _ _ _ i hi]
          rfl
        · rw [if_neg q1, if_neg q1]
          by_cases q2 : i < p.toNat + m.toNat
          · rw [if_pos q2, if_pos q2]
          · rw [if_neg q2, if_neg q2, opL_mark _ _ _ _ (show i - m.toNat < 20000 by omega)]
            rfl
end Go.Proofs.Ytlofeaodpblagaa
