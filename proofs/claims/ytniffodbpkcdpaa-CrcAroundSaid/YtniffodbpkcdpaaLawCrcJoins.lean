/- CrcJoins: the law's walk. -/
import Derived.Test.YtniffodbpkcdpaaCrcAlive
import Derived.Test.YtniffodbpkcdpaaCrcJoin
namespace Go.Proofs.Ytniffodbpkcdpaa
open Go.RowKit

theorem steps_more (a n : Nat) : Crc.more a (Crc.zeros n) ^^^ Crc.sum (Crc.zeros n) = Crc.steps (8 * n) a := by
  unfold Crc.sum Crc.more
  rw [Crc.run_zeros, Crc.run_zeros, Nat.xor_zero, Crc.steps_xor]
  generalize Crc.steps (8 * n) Crc.ones = x
  generalize Crc.steps (8 * n) a = y
  apply Nat.eq_of_testBit_eq
  intro i
  simp only [Nat.testBit_xor]
  cases Crc.ones.testBit i <;> cases x.testBit i <;> cases y.testBit i <;> rfl
theorem join_plain (l m : List Nat) : Crc.steps (8 * m.length) (Crc.sum l) ^^^ Crc.sum m = Crc.sum (l ++ m) := by
  rw [← steps_more, ← Crc.more_sum, ← Crc.join_sum m (Crc.sum l)]
  generalize Crc.more (Crc.sum l) (Crc.zeros m.length) = x
  generalize Crc.sum (Crc.zeros m.length) = y
  generalize Crc.sum m = z
  apply Nat.eq_of_testBit_eq
  intro i
  simp only [Nat.testBit_xor]
  cases x.testBit i <;> cases y.testBit i <;> cases z.testBit i <;> rfl
theorem byteL_append (s t : ByteArray) : byteL (s ++ t) = byteL s ++ byteL t := by simp [byteL]
theorem sum_lt (s : ByteArray) : Crc.sum (byteL s) < 4294967296 := by
  unfold Crc.sum Crc.more
  exact ones_lt (Crc.run_lt (by decide) (byteL_lt s))

set_option maxRecDepth 100000 in
set_option maxHeartbeats 2000000 in
theorem lawCrcJoins_any (s t : ByteArray) (w : World) (hs : s.size ≤ maxLen) (ht : t.size ≤ maxLen) :
    Calls Try.prog 5 #[.string s, .string t] w fun e W' => e = .returned (.bool true) ∧ Below w.heap.size w W' := by
  have hA := calive_any w
  by_cases h1 : 2000 < s.size ∨ 2000 < t.size
  · unfold maxLen at hs ht
    rcases h1 with h1 | h1 <;> by_cases h2 : 2000 < s.size
    all_goals
      go_enter Try.func5, Try.ntmps5
      go_wp2_with (go_at_call 9; refine hA.mono ?_; clear hA; rintro e w1 ⟨rfl, hb⟩)
    all_goals
      go_ret
      exact ⟨rfl, hb⟩
  · have hs2 : s.size ≤ 2000 := by omega
    have ht2 : t.size ≤ 2000 := by omega
    have hst : (s ++ t).size ≤ maxLen := by rw [ByteArray.size_append]; unfold maxLen; omega
    have c1 := fun w => crsum_any (s ++ t) hst w
    have c2 := fun w => csum_any s hs w
    have c3 := fun w => csum_any t ht w
    have c4 := fun w => cjoin_any (Crc.sum (byteL s)) (Crc.sum (byteL t)) t.size (sum_lt s) (sum_lt t) (by omega) w
    have c5 := fun w => cmore_any (Crc.sum (byteL s)) (sum_lt s) t ht w
    have c6 := fun w => csum_any (s ++ t) hst w
    rw [show ((t.size : Nat) : Int).toNat = (byteL t).length by rw [byteL_length]; rfl, join_plain, ← byteL_append] at c4
    rw [Crc.more_sum, ← byteL_append] at c5
    unfold maxLen at hs ht hst
    generalize Crc.sum (byteL s) = x at *
    generalize Crc.sum (byteL t) = y at *
    generalize Crc.sum (byteL (s ++ t)) = z at *
    clear hst h1 hs ht
    go_enter Try.func5, Try.ntmps5
    go_wp2_with fail
    refine hA.mono ?_
    clear hA
    rintro e w1 ⟨rfl, hb1⟩
    go_wp2_with fail
    refine (c1 _).mono ?_
    rintro e w1 ⟨rfl, rfl⟩
    go_wp2_with fail
    refine (c2 _).mono ?_
    rintro e w2 ⟨rfl, hb⟩
    have hb2 := hb1.trans (hb.mono hb1.size)
    go_wp2_with fail
    refine (c3 _).mono ?_
    rintro e w3 ⟨rfl, hb⟩
    have hb3 := hb2.trans (hb.mono hb2.size)
    go_wp2_with fail
    refine (c4 _).mono ?_
    rintro e w4 ⟨rfl, hb⟩
    have hb4 := hb3.trans (hb.mono hb3.size)
    go_wp2_with fail
    refine (c2 _).mono ?_
    rintro e w5 ⟨rfl, hb⟩
    have hb5 := hb4.trans (hb.mono hb4.size)
    go_wp2_with fail
    refine (c5 _).mono ?_
    rintro e w6 ⟨rfl, hb⟩
    have hb6 := hb5.trans (hb.mono hb5.size)
    go_wp2_with fail
    refine (c6 _).mono ?_
    rintro e w7 ⟨rfl, hb⟩
    have hb7 := hb6.trans (hb.mono hb6.size)
    go_wp2
    go_ret
    exact ⟨rfl, hb7⟩
end Go.Proofs.Ytniffodbpkcdpaa
