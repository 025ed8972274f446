/- A number in decimal is read as that number. Nothing of a program's own text. -/
import Derived.Test.YthbophioohcphaaDoorNamePlain
import Derived.Lib.AtoiTie
import Derived.Lib.AtoiAllCases
namespace Go.Proofs.YthbophioohcphaaDoor

/-- What Atoi tells beside its error. -/
def atoiV (l : List UInt8) : Int :=
  match Lib.atoiAll l with
  | .ok v => v
  | Lib.NumEnd.syntax => 0
  | .range => Lib.atoiSat l
theorem digitVal_dig (d : Nat) (h : d < 10) : Lib.digitVal (UInt8.ofNat (48 + d)) = some d := by
  have : ∀ d : Fin 10, Lib.digitVal (UInt8.ofNat (48 + d.1)) = some d.1 := by decide
  exact this ⟨d, h⟩
theorem decFrom_one (acc d : Nat) (h : d < 10) : Lib.decFrom acc [UInt8.ofNat (48 + d)] = some (acc * 10 + d) := by
  unfold Lib.decFrom
  rw [digitVal_dig d h]
  rfl
theorem decFrom_append (l m : List UInt8) : ∀ acc, Lib.decFrom acc (l ++ m) = (Lib.decFrom acc l).bind fun a => Lib.decFrom a m := by
  induction l with
  | nil => intro acc; rfl
  | cons b l ih =>
    intro acc
    simp only [List.cons_append, Lib.decFrom]
    cases Lib.digitVal b with
    | none => rfl
    | some d => exact ih _
theorem decFrom_dec (n : Nat) : Lib.decFrom 0 (Lib.decDigits n) = some n := by
  induction n using Nat.strongRecOn with
  | _ n ih =>
    rw [dec_step, decFrom_append]
    unfold decHd
    by_cases h : n / 10 = 0
    · rw [if_pos h]
      show Lib.decFrom 0 [UInt8.ofNat (48 + n % 10)] = _
      rw [decFrom_one 0 (n % 10) (by omega)]
      congr 1
      omega
    · rw [if_neg h, ih (n / 10) (by omega)]
      show Lib.decFrom (n / 10) [UInt8.ofNat (48 + n % 10)] = _
      rw [decFrom_one (n / 10) (n % 10) (by omega)]
      congr 1
      omega
theorem dec_head (n : Nat) : ∃ d r, Lib.decDigits n = UInt8.ofNat (48 + d) :: r ∧ d < 10 := by
  induction n using Nat.strongRecOn with
  | _ n ih =>
    rw [dec_step]
    unfold decHd
    by_cases h : n / 10 = 0
    · rw [if_pos h]
      exact ⟨n % 10, [], rfl, by omega⟩
    · rw [if_neg h]
      obtain ⟨d, r, he, hd⟩ := ih (n / 10) (by omega)
      rw [he]
      exact ⟨d, _, rfl, hd⟩
theorem ofNat_ne (d : Nat) (hd : d < 10) (k : UInt8) (hk : k.toNat < 48) : (UInt8.ofNat (48 + d) == k) = false := by
  apply beq_eq_false_iff_ne.2
  intro e
  have := congrArg UInt8.toNat e
  rw [UInt8.toNat_ofNat', Nat.mod_eq_of_lt (by omega)] at this
  omega
theorem atoi_dec (n : Nat) : Lib.atoi (Lib.decDigits n) = some (n : Int) := by
  have h1 := decFrom_dec n
  obtain ⟨d, r, he, hd⟩ := dec_head n
  rw [he] at h1 ⊢
  simp only [Lib.atoi]
  rw [ofNat_ne d hd 45 (by decide), ofNat_ne d hd 43 (by decide)]
  unfold Lib.decNat
  simp only [List.isEmpty_cons, Bool.false_eq_true, if_false]
  rw [h1]
  rfl
theorem atoiV_dec (n : Nat) (h : n < 10000000000000000) : atoiV (Lib.decDigits n) = n := by
  unfold atoiV
  rw [Lib.atoiAll_short _ (by have := dec_length h; omega), atoi_dec]
  rfl
theorem atoiV_none : atoiV [] = 0 := rfl
theorem atoiV_bounds (l : List UInt8) : -9223372036854775808 ≤ atoiV l ∧ atoiV l ≤ 9223372036854775807 := by
  unfold atoiV
  rcases h : Lib.atoiAll l with v | _ | _
  · exact Lib.atoiAll_bounds h
  · exact ⟨(by decide : (-9223372036854775808 : Int) ≤ 0), (by decide : (0 : Int) ≤ 9223372036854775807)⟩
  · exact Lib.atoiSat_bounds l
/-- A text cut at its first full stop is a name's just if it is the text of what the two numbers tell. -/
theorem noName_atoi {a b : List UInt8} (ha : ∀ x ∈ a, x ≠ 46) (h : nMay (atoiV a) (atoiV b) = false ∨ nText (atoiV a) (atoiV b) ≠ a ++ (46 :: b)) : noName (a ++ (46 :: b)) := fun s q hm he => by
  have hs := of_decide_eq_true hm
  have h0 := he
  unfold nText at h0
  rw [if_pos hm] at h0
  obtain ⟨e1, e2⟩ := cut_unique h0 (dec_digits _) ha
  have v1 : atoiV a = s := by rw [← e1, atoiV_dec _ (by omega)]; omega
  have v2 : atoiV b = q := by rw [← e2, atoiV_dec _ (by omega)]; omega
  rw [v1, v2] at h
  rcases h with h | h
  · rw [hm] at h; cases h
  · exact h he
end Go.Proofs.YthbophioohcphaaDoor
