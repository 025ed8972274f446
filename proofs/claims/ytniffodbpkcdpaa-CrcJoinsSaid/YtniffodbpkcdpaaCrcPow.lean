/- Powers of zero bytes: what so many zero bytes make of each bit. -/
import Derived.Test.YtniffodbpkcdpaaCrcTable
namespace Go.Proofs.Ytniffodbpkcdpaa
open Go.RowKit

/-- What the parts of a word's first k bits make, made one. -/
def ofL (f : Nat → Nat) (m : Nat) : Nat → Nat
  | 0 => 0
  | k + 1 => if m.testBit k then ofL f m k ^^^ f k else ofL f m k
theorem ofL_yes {f : Nat → Nat} {m k : Nat} (h : m.testBit k = true) : ofL f m (k + 1) = ofL f m k ^^^ f k := by simp [ofL, h]
theorem ofL_no {f : Nat → Nat} {m k : Nat} (h : m.testBit k = false) : ofL f m (k + 1) = ofL f m k := by simp [ofL, h]
theorem ofL_lt {f : Nat → Nat} (hf : ∀ i, i < 32 → f i < 4294967296) (m : Nat) : ∀ k, k ≤ 32 → ofL f m k < 4294967296
  | 0, _ => by simp [ofL]
  | k + 1, h => by
    have ih := ofL_lt hf m k (by omega)
    cases hb : m.testBit k
    · rw [ofL_no hb]; exact ih
    · rw [ofL_yes hb]; exact Nat.xor_lt_two_pow (n := 32) ih (hf k (by omega))
theorem mod_next (m k : Nat) : m % 2 ^ (k + 1) = if m.testBit k then m % 2 ^ k ^^^ 2 ^ k else m % 2 ^ k := by
  apply Nat.eq_of_testBit_eq
  intro i
  cases hb : m.testBit k
  · simp only [Nat.testBit_mod_two_pow, Bool.false_eq_true, if_false]
    by_cases h : i = k
    · subst h; simp [hb]
    · rw [show decide (i < k + 1) = decide (i < k) from decide_eq_decide.2 (by omega)]
  · simp only [Nat.testBit_mod_two_pow, if_true, Nat.testBit_xor, Nat.testBit_two_pow]
    by_cases h : i = k
    · subst h; simp [hb]
    · rw [show decide (i < k + 1) = decide (i < k) from decide_eq_decide.2 (by omega)]
      simp [show ¬ k = i from fun e => h e.symm]
theorem ofL_steps (N m : Nat) : ∀ k, ofL (fun i => Crc.steps N (2 ^ i)) m k = Crc.steps N (m % 2 ^ k)
  | 0 => by simp [ofL, Nat.mod_one, Crc.steps_zero]
  | k + 1 => by
    rw [mod_next]
    cases hb : m.testBit k
    · rw [ofL_no hb, ofL_steps N m k]; simp
    · rw [ofL_yes hb, ofL_steps N m k, if_pos rfl, Crc.steps_xor]
/-- All bits of a word of 32 bits: what the zero bytes make of it. -/
theorem ofL_word (N : Nat) {m : Nat} (h : m < 4294967296) : ofL (fun i => Crc.steps N (2 ^ i)) m 32 = Crc.steps N m := by
  rw [ofL_steps, Nat.mod_eq_of_lt h]

theorem bit_yes {m k : Nat} (hm : m < 4294967296) (h : m.testBit k = true) : bits BinOp.and IntKind.u32 ((m : Int) / 2 ^ k) 1 = 1 := by
  have hd : m / 2 ^ k < 4294967296 := Nat.lt_of_le_of_lt (Nat.div_le_self _ _) hm
  have := and_one32 (m / 2 ^ k) hd
  rw [Nat.testBit_eq_decide_div_mod_eq] at h
  have h := of_decide_eq_true h
  simp only [Int.natCast_ediv, Int.natCast_pow, Int.cast_ofNat_Int] at this
  rw [this]
  have : (((m / 2 ^ k) % 2 : Nat) : Int) = 1 := by rw [h]; rfl
  simpa using this
theorem bit_no {m k : Nat} (hm : m < 4294967296) (h : m.testBit k = false) : bits BinOp.and IntKind.u32 ((m : Int) / 2 ^ k) 1 = 0 := by
  have hd : m / 2 ^ k < 4294967296 := Nat.lt_of_le_of_lt (Nat.div_le_self _ _) hm
  have := and_one32 (m / 2 ^ k) hd
  rw [Nat.testBit_eq_decide_div_mod_eq] at h
  have h := of_decide_eq_false h
  simp only [Int.natCast_ediv, Int.natCast_pow, Int.cast_ofNat_Int] at this
  rw [this]
  have : (((m / 2 ^ k) % 2 : Nat) : Int) = 0 := by have : (m / 2 ^ k) % 2 = 0 := by omega
                                                   rw [this]; rfl
  simpa using this
theorem xor_words (a b : Nat) (ha : a < 4294967296) (hb : b < 4294967296) : bits BinOp.xor IntKind.u32 (a : Int) (b : Int) = ((a ^^^ b : Nat) : Int) := u32_xor_nat a b ha hb

set_option maxRecDepth 100000 in
set_option maxHeartbeats 2000000 in
theorem of_any (f : Nat → Nat) (hf : ∀ i, i < 32 → f i < 4294967296) (b o m : Nat) (hm : m < 4294967296) (w : World) (hc : ∀ i, i < 32 → w.cell? ⟨b, o + i, none⟩ = some (.int .u32 (f i : Nat))) :
    Calls Try.prog 24 #[.pointer (some ⟨b, o, none⟩), .int .u32 m] w fun e w' => e = .returned (.int .u32 (ofL f m 32)) ∧ w' = w := by
  have HC := Lib.hid hc
  have HF := Lib.hid hf
  clear hc hf
  go_enter Try.func24, Try.ntmps24
  go_wp2
  go_loop [5, 7] (fun v i => ∃ k : Nat, k ≤ 32 ∧ i = .int .i64 k ∧ v = .int .u32 (ofL f m k)) (fun _ i => 32 - (intOf i).toNat)
  case atStart => exact ⟨0, by omega, rfl, rfl⟩
  case round =>
    obtain ⟨k, hk, rfl, rfl⟩ := hrel
    by_cases hlt : k < 32
    · have hcell := HC.out k hlt
      have hfk := HF.out k hlt
      have hol := ofL_lt HF.out m k hk
      cases hb : m.testBit k
      · have hn := Lib.hid (ofL_no (f := f) hb)
        have ht := bit_no hm hb
        go_wp2
        go_round
        case rel => exact ⟨k + 1, by omega, by go_num, cint_eq (by rw [hn.out])⟩
        case measure => simp [intOf]; omega
      · have hn := Lib.hid (ofL_yes (f := f) hb)
        have ht := bit_yes hm hb
        have hx := Lib.hid (xor_words _ _ hol hfk)
        go_wp2
        go_round
        case rel => exact ⟨k + 1, by omega, by go_num, cint_eq (by rw [hn.out]; exact hx.out)⟩
        case measure => simp [intOf]; omega
    · obtain rfl : k = 32 := by omega
      go_wp2
      go_ret
      exact ⟨rfl, rfl⟩
end Go.Proofs.Ytniffodbpkcdpaa
