/- Numbers as bytes: what is told of lists of bytes alone. Nothing of a program. -/
import Derived.Test.YtnlajfdgpdijjaaRows
import Derived.Lib.VarintMem
import Derived.Lib.VarintBits
import Derived.Lib.Zigzag
namespace Go.Proofs.Ytnlajfdgpdijjaa
open Go.Lib

/-- How many bytes of 128 or more stand ahead. -/
def hiL : List UInt8 → Nat
  | [] => 0
  | b :: r => if b.toNat < 128 then 0 else hiL r + 1
/-- What the bytes' seven bits spell, the lowest first. -/
def valL : List UInt8 → Nat
  | [] => 0
  | b :: r => b.toNat % 128 + 128 * valL r
/-- The number that stands next, with how many bytes it has; or the fault. -/
def takeL (l : List UInt8) (most : Nat) : Except Int (Nat × Nat) :=
  if 10 ≤ hiL l then .error 9
  else if l.length ≤ hiL l then .error 8
  else if (hiL l = 9 ∧ 1 < (l.getD (hiL l) 0).toNat) ∨ (0 < hiL l ∧ (l.getD (hiL l) 0).toNat = 0) then .error 9
  else if most < valL (l.take (hiL l + 1)) then .error 9
  else .ok (valL (l.take (hiL l + 1)), hiL l + 1)

theorem hiL_le : ∀ l : List UInt8, hiL l ≤ l.length
  | [] => Nat.le_refl _
  | b :: r => by
    unfold hiL
    have := hiL_le r
    split
    · exact Nat.zero_le _
    · rw [List.length_cons]; omega
theorem hiL_stop : ∀ (l : List UInt8) (k : Nat), k ≤ hiL l → k < l.length → (l.getD k 0).toNat < 128 → hiL l = k
  | [], k, _, h, _ => by simp at h
  | b :: r, 0, _, _, h => by
    unfold hiL
    rw [List.getD_cons_zero] at h
    rw [if_pos h]
  | b :: r, k + 1, h1, h2, h3 => by
    unfold hiL at h1 ⊢
    split at h1
    · omega
    · rename_i hb
      rw [if_neg hb, hiL_stop r k (by omega) (by rw [List.length_cons] at h2; omega) (by rwa [List.getD_cons_succ] at h3)]
theorem hiL_next : ∀ (l : List UInt8) (k : Nat), k ≤ hiL l → k < l.length → ¬ (l.getD k 0).toNat < 128 → k + 1 ≤ hiL l
  | [], k, _, h, _ => by simp at h
  | b :: r, 0, _, _, h => by
    unfold hiL
    rw [List.getD_cons_zero] at h
    rw [if_neg h]
    omega
  | b :: r, k + 1, h1, h2, h3 => by
    unfold hiL at h1 ⊢
    split at h1
    · omega
    · rename_i hb
      rw [if_neg hb]
      have := hiL_next r k (by omega) (by rw [List.length_cons] at h2; omega) (by rwa [List.getD_cons_succ] at h3)
      omega
theorem hiL_at (l : List UInt8) (h : hiL l < l.length) : (l.getD (hiL l) 0).toNat < 128 := by
  rcases Nat.lt_or_ge (l.getD (hiL l) 0).toNat 128 with g | g
  · exact g
  · have := hiL_next l (hiL l) (Nat.le_refl _) h (by omega)
    omega

theorem valL_lt : ∀ l : List UInt8, valL l < 128 ^ l.length
  | [] => by decide
  | b :: r => by
    have := valL_lt r
    unfold valL
    rw [List.length_cons, Nat.pow_succ]
    omega
theorem valL_snoc : ∀ (l : List UInt8) (b : UInt8), valL (l ++ [b]) = valL l + b.toNat % 128 * 128 ^ l.length
  | [], b => by simp [valL]
  | c :: r, b => by
    have := valL_snoc r b
    rw [List.cons_append]
    unfold valL
    rw [this, List.length_cons, Nat.pow_succ, Nat.mul_add, Nat.add_assoc]
    congr 2
    rw [Nat.mul_comm (128 ^ r.length) 128, ← Nat.mul_assoc, ← Nat.mul_assoc, Nat.mul_comm 128]
theorem valL_take (l : List UInt8) (k : Nat) (h : k < l.length) : valL (l.take (k + 1)) = valL (l.take k) + (l.getD k 0).toNat % 128 * 128 ^ k := by
  rw [List.take_succ_eq_append_getElem h, valL_snoc, List.length_take, Nat.min_eq_left (by omega)]
  simp [List.getD, h]
theorem valL_take_lt (l : List UInt8) (k : Nat) (h : k ≤ l.length) : valL (l.take k) < 128 ^ k := by
  have := valL_lt (l.take k)
  rwa [List.length_take, Nat.min_eq_left h] at this

theorem u8_of {b : UInt8} {n : Nat} (h : b.toNat = n) : n.toUInt8 = b := by
  subst h
  apply UInt8.toNat_inj.1
  have := b.toNat_lt
  simp

theorem valL_uvarint : ∀ n : Nat, valL (uvarint n) = n := by
  intro n
  induction n using Nat.strongRecOn with
  | ind n ih =>
    rcases Nat.lt_or_ge n 128 with h | h
    · rw [uvarint_small h]
      simp only [valL, Nat.mul_zero, Nat.add_zero]
      rw [toUInt8_toNat (by omega)]
      omega
    · rw [uvarint_big h]
      simp only [valL]
      rw [ih (n / 128) (by omega), toUInt8_toNat (by omega)]
      omega
theorem uvarint_inj {n m : Nat} (h : uvarint n = uvarint m) : n = m := by rw [← valL_uvarint n, h, valL_uvarint]

theorem hiL_uvarint (t : List UInt8) : ∀ n : Nat, hiL (uvarint n ++ t) + 1 = (uvarint n).length := by
  intro n
  induction n using Nat.strongRecOn with
  | ind n ih =>
    rcases Nat.lt_or_ge n 128 with h | h
    · rw [uvarint_small h]
      simp only [List.cons_append, List.nil_append, hiL]
      rw [toUInt8_toNat (by omega), if_pos h]
      rfl
    · rw [uvarint_big h]
      simp only [List.cons_append, hiL]
      rw [toUInt8_toNat (by omega), if_neg (by omega), List.length_cons, ← ih (n / 128) (by omega)]
theorem last_uvarint (t : List UInt8) : ∀ n : Nat, 0 < n → ((uvarint n ++ t).getD (hiL (uvarint n ++ t)) 0).toNat ≠ 0 := by
  intro n
  induction n using Nat.strongRecOn with
  | ind n ih =>
    intro hn
    rcases Nat.lt_or_ge n 128 with h | h
    · rw [uvarint_small h]
      simp only [List.cons_append, List.nil_append, hiL]
      rw [toUInt8_toNat (by omega), if_pos h, List.getD_cons_zero, toUInt8_toNat (by omega)]
      omega
    · have := ih (n / 128) (by omega) (by omega)
      rw [uvarint_big h]
      simp only [List.cons_append, hiL]
      rw [toUInt8_toNat (by omega), if_neg (by omega), List.getD_cons_succ]
      exact this

/-- What is put is taken again, with anything behind it. -/
theorem takeL_put {n most : Nat} (h64 : n < 18446744073709551616) (hm : n ≤ most) (t : List UInt8) : takeL (uvarint n ++ t) most = .ok (n, (uvarint n).length) := by
  have h1 := hiL_uvarint t n
  have h2 := uvarint_length64 h64
  have h3 := uvarint_pos n
  have hk : hiL (uvarint n ++ t) = (uvarint n).length - 1 := by omega
  have htake : (uvarint n ++ t).take (hiL (uvarint n ++ t) + 1) = uvarint n := by rw [h1, List.take_left]
  unfold takeL
  rw [if_neg (by omega), if_neg (by rw [List.length_append]; omega), if_neg, htake, valL_uvarint, if_neg (by omega), h1]
  rintro (⟨h9, hl⟩ | ⟨h0, hl⟩)
  · have hv := valL_take (uvarint n ++ t) (hiL (uvarint n ++ t)) (by rw [List.length_append]; omega)
    rw [htake, valL_uvarint] at hv
    have ha := hiL_at (uvarint n ++ t) (by rw [List.length_append]; omega)
    rw [Nat.mod_eq_of_lt ha, h9] at hv
    rw [h9] at hl
    have e : (128 : Nat) ^ 9 = 9223372036854775808 := by decide
    rw [e] at hv
    omega
  · refine last_uvarint t n ?_ hl
    rcases Nat.eq_zero_or_pos n with h | h
    · subst h
      rw [show (uvarint 0).length = 1 by rw [uvarint_small (by decide)]; rfl] at hk
      omega
    · exact h

theorem uvarint_valL : ∀ l : List UInt8, hiL l < l.length → (hiL l = 0 ∨ (l.getD (hiL l) 0).toNat ≠ 0) → uvarint (valL (l.take (hiL l + 1))) = l.take (hiL l + 1)
  | [], h, _ => by simp [hiL] at h
  | b :: r, h, hl => by
    unfold hiL at h hl ⊢
    by_cases hb : b.toNat < 128
    · rw [if_pos hb]
      simp only [Nat.zero_add, List.take_succ_cons, List.take_zero, valL, Nat.mul_zero, Nat.add_zero]
      rw [Nat.mod_eq_of_lt hb, uvarint_small hb, u8_of rfl]
    · rw [if_neg hb] at h hl ⊢
      rw [List.length_cons] at h
      rw [List.getD_cons_succ] at hl
      have hne : (r.getD (hiL r) 0).toNat ≠ 0 := hl.elim (fun e => by omega) id
      have ih := uvarint_valL r (by omega) (.inr hne)
      rw [List.take_succ_cons]
      simp only [valL]
      have hpos : 0 < valL (r.take (hiL r + 1)) := by
        rcases Nat.eq_zero_or_pos (valL (r.take (hiL r + 1))) with e | e
        · exfalso
          rw [e, uvarint_small (by decide)] at ih
          have hlen := congrArg List.length ih
          rw [List.length_take, Nat.min_eq_left (by omega)] at hlen
          have h0 : hiL r = 0 := by simpa using hlen.symm
          rw [h0] at ih hne
          obtain _ | ⟨c, r⟩ := r
          · simp at hne
          · simp only [Nat.zero_add, List.take_succ_cons, List.take_zero, List.cons.injEq, and_true] at ih
            rw [List.getD_cons_zero, ← ih] at hne
            exact hne rfl
        · exact e
      have hlt := b.toNat_lt
      rw [uvarint_big (by omega)]
      congr 1
      · exact u8_of (by omega)
      · rw [show (b.toNat % 128 + 128 * valL (r.take (hiL r + 1))) / 128 = valL (r.take (hiL r + 1)) by omega]
        exact ih

/-- What is taken are just the number's bytes. -/
theorem takeL_ok {l : List UInt8} {most n k : Nat} (h : takeL l most = .ok (n, k)) : n ≤ most ∧ n < 18446744073709551616 ∧ k ≤ l.length ∧ l.take k = uvarint n ∧ k = hiL l + 1 ∧ n = valL (l.take (hiL l + 1)) ∧ k ≤ 10 ∧ ¬ ((hiL l = 9 ∧ 1 < (l.getD (hiL l) 0).toNat) ∨ (0 < hiL l ∧ (l.getD (hiL l) 0).toNat = 0)) := by
  unfold takeL at h
  split at h
  · cases h
  split at h
  · cases h
  split at h
  · cases h
  split at h
  · cases h
  rename_i h1 h2 h3 h4
  cases h
  refine ⟨by omega, ?_, by omega, (uvarint_valL l (by omega) ?_).symm, rfl, rfl, by omega, h3⟩
  · have hv := valL_take l (hiL l) (by omega)
    have hb := valL_take_lt l (hiL l) (by omega)
    rcases Nat.lt_or_ge (hiL l) 9 with g | g
    · have h5 := valL_take_lt l (hiL l + 1) (by omega)
      exact Nat.lt_of_lt_of_le h5 (Nat.le_trans (Nat.pow_le_pow_right (by decide) (show hiL l + 1 ≤ 9 by omega)) (by decide))
    · have e9 : hiL l = 9 := by omega
      have e : (128 : Nat) ^ 9 = 9223372036854775808 := by decide
      have hl : ¬ 1 < (l.getD (hiL l) 0).toNat := fun hc => h3 (.inl ⟨e9, hc⟩)
      rw [hv]
      rw [e9] at hb hl ⊢
      rw [e] at hb ⊢
      have hm : (l.getD 9 0).toNat % 128 ≤ 1 := by omega
      generalize (l.getD 9 0).toNat % 128 = y at *
      generalize valL (l.take 9) = z at *
      omega
  · rcases Nat.eq_zero_or_pos (hiL l) with g | g
    · exact .inl g
    · exact .inr fun hc => h3 (.inr ⟨g, hc⟩)
/-- A fault is ErrForm or ErrShort. -/
theorem takeL_error {l : List UInt8} {most : Nat} {c : Int} (h : takeL l most = .error c) : c = 8 ∨ c = 9 := by
  unfold takeL at h
  split at h
  · cases h; exact .inr rfl
  split at h
  · cases h; exact .inl rfl
  split at h
  · cases h; exact .inr rfl
  split at h
  · cases h; exact .inr rfl
  · cases h
theorem take_example : takeL [128, 0] 5 = .error 9 := rfl
theorem put300 : uvarint 300 = [172, 2] := by rw [uvarint_big (by decide), uvarint_small (by decide)]; decide +kernel
theorem put1 : uvarint 1 = [1] := by rw [uvarint_small (by decide)]; rfl

theorem pow128 (k : Nat) : 128 ^ k = 2 ^ (7 * k) := by rw [show (128 : Nat) = 2 ^ 7 by rfl, ← Nat.pow_mul]
theorem val64 (l : List UInt8) (k : Nat) (hk : k < l.length) (h : k ≤ 8 ∨ (k = 9 ∧ (l.getD 9 0).toNat ≤ 1)) : valL (l.take (k + 1)) < 18446744073709551616 := by
  rcases h with h | ⟨rfl, h⟩
  · exact Nat.lt_of_lt_of_le (valL_take_lt l (k + 1) (by omega)) (Nat.le_trans (Nat.pow_le_pow_right (by decide) (show k + 1 ≤ 9 by omega)) (by decide))
  · have hv := valL_take l 9 hk
    have hb := valL_take_lt l 9 (by omega)
    have e : (128 : Nat) ^ 9 = 9223372036854775808 := by decide
    rw [e] at hv hb
    have hm : (l.getD 9 0).toNat % 128 ≤ 1 := by omega
    generalize (l.getD 9 0).toNat % 128 = y at *
    generalize valL (l.take 9) = z at *
    omega
/-- One byte more of a number. -/
theorem join_next (l : List UInt8) (k : Nat) (hk : k < l.length) (b : UInt8) (hb : l.getD k 0 = b) (hlt : valL (l.take (k + 1)) < 18446744073709551616) :
    bits .or .u64 (valL (l.take k)) (IntKind.u64.wrap ((b.toNat : Int) % 128 * 2 ^ (7 * k))) = (valL (l.take (k + 1)) : Nat) := by
  have h1 := valL_take l k hk
  have h2 := valL_take_lt l k (by omega)
  rw [hb] at h1
  rw [pow128] at h1 h2
  have e : ((b.toNat : Int) % 128 * 2 ^ (7 * k)) = ((b.toNat % 128 * 2 ^ (7 * k) : Nat) : Int) := by simp
  rw [e]
  have hx : b.toNat % 128 * 2 ^ (7 * k) < 18446744073709551616 := by omega
  rw [show IntKind.u64.wrap ((b.toNat % 128 * 2 ^ (7 * k) : Nat) : Int) = ((b.toNat % 128 * 2 ^ (7 * k) : Nat) : Int) by rw [IntKind.wrap_u64]; omega]
  rw [bits_join_low .u64 64 (by decide) wraps_u64 (7 * k) _ _ (by omega) (by exact_mod_cast h2) (by omega) (by omega) (by norm_cast; exact Nat.mul_mod_left _ _) (by omega), h1]
  omega
/-- '^m' at an int. -/
theorem i64_xor (m : Int) (h0 : -9223372036854775808 ≤ m) (h1 : m ≤ 9223372036854775807) : bits .xor .i64 (-1) m = -m - 1 := by
  by_cases h : 0 ≤ m
  · obtain ⟨x, rfl⟩ := Int.eq_ofNat_of_zero_le h
    exact i64_not x (by omega)
  · obtain ⟨x, rfl⟩ : ∃ x : Nat, m = -(x : Int) - 1 := ⟨(-(m + 1)).toNat, by omega⟩
    show IntKind.i64.wrap ((BitVec.ofInt 64 (-1) ^^^ BitVec.ofInt 64 (-(x : Int) - 1)).toNat : Int) = _
    have e1 : (BitVec.ofInt 64 (-1)).toNat = 2 ^ 64 - 1 := by decide
    have e2 : (BitVec.ofInt 64 (-(x : Int) - 1)).toNat = 2 ^ 64 - 1 - x := by
      rw [BitVec.toNat_ofInt]
      omega
    rw [BitVec.toNat_xor, e1, e2, xor_ones64 _ (by omega), IntKind.wrap_i64]
    omega
/-- A number with a sign. -/
theorem zig_neg {m : Int} (h : m < 0) (h1 : -9223372036854775808 ≤ m) : zigzag m = (2 * (-(m + 1)) + 1).toNat := by
  unfold zigzag
  rw [if_neg (by omega)]
  congr 1
  omega
theorem zig_lt {m : Int} (h0 : -9223372036854775808 ≤ m) (h1 : m ≤ 9223372036854775807) : zigzag m < 18446744073709551616 := by
  unfold zigzag
  split <;> omega
end Go.Proofs.Ytnlajfdgpdijjaa
