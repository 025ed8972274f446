/- Eight steps of a word: the program's and the document's. -/
import Derived.Test.YtckknopjhmpnhaaCrcPlain
import Derived.WalkKit
import Derived.WalkSpells
import Derived.WalkLawsBesides
import Derived.Lib.Hide
import Derived.Laws.BitsAllLaws
namespace Go.Proofs.Ytckknopjhmpnhaa
open Go.RowKit

theorem and_one32 (m : Nat) (h : m < 4294967296) : bits BinOp.and IntKind.u32 (m : Int) 1 = (m : Int) % 2 := by
  have := u32_and_nat m 1 h (by decide)
  rw [Nat.and_one_is_mod] at this
  simpa using this
theorem xor_poly (m : Nat) (h : m < 4294967296) : bits BinOp.xor IntKind.u32 ((m : Int) / 2) 2197175160 = ((m / 2 ^^^ Crc.poly : Nat) : Int) := by
  have := u32_xor_nat (m / 2) 2197175160 (by omega) (by decide)
  unfold Crc.poly
  simpa using this
theorem step_odd {m : Nat} (h : m % 2 = 1) : Crc.step m = m / 2 ^^^ Crc.poly := by unfold Crc.step; rw [if_pos h]
theorem step_even {m : Nat} (h : ¬ m % 2 = 1) : Crc.step m = m / 2 := by unfold Crc.step; rw [if_neg h]
theorem steps_next (k n : Nat) : Crc.steps (k + 1) n = Crc.step (Crc.steps k n) := by rw [Crc.steps_add]; rfl
theorem ret_u32 {a b : Int} (h : a = b) : Ending.returned (.int .u32 a) = .returned (.int .u32 b) := by rw [h]
theorem cint_eq {k : IntKind} {a b : Int} (h : a = b) : Value.int k a = .int k b := by rw [h]

set_option maxHeartbeats 400000 in
theorem step_any (n : Nat) (hn : n < 4294967296) (w : World) :
    Calls Try.prog 45 #[.int .u32 n] w fun e w' => e = .returned (.int .u32 (Crc.step n)) ∧ w' = w := by
  by_cases h : n % 2 = 1
  · have hs := Lib.hid (step_odd h)
    have hx := Lib.hid (xor_poly n hn)
    have ht : ((n : Int) % 2 == 1) = true := beq_iff_eq.2 (by omega)
    clear h
    go_enter Try.func45, Try.ntmps45
    go_wp2
    go_ret
    exact ⟨ret_u32 (by rw [hs.out]; exact hx.out), rfl⟩
  · have hs := Lib.hid (step_even h)
    have ht : ((n : Int) % 2 == 1) = false := beq_eq_false_iff_ne.2 (by omega)
    clear h
    go_enter Try.func45, Try.ntmps45
    go_wp2
    go_ret
    exact ⟨ret_u32 (by rw [hs.out]; simp), rfl⟩

set_option maxHeartbeats 1000000 in
theorem steps_any (n : Nat) (hn : n < 4294967296) (w : World) :
    Calls Try.prog 55 #[.int .u32 n] w fun e w' => e = .returned (.int .u32 (Crc.steps 8 n)) ∧ w' = w := by
  go_enter Try.func55, Try.ntmps55
  go_wp2
  go_loop [0, 4] (fun v i => ∃ k : Nat, k ≤ 8 ∧ i = .int .i64 k ∧ v = .int .u32 (Crc.steps k n)) (fun _ i => 8 - (intOf i).toNat)
  case atStart => exact ⟨0, by omega, rfl, rfl⟩
  case round =>
    obtain ⟨k, hk, rfl, rfl⟩ := hrel
    by_cases hlt : k < 8
    · have hs := steps_next k n
      have hm := Crc.steps_lt k hn
      generalize Crc.steps k n = m at *
      have ha := and_one32 m hm
      by_cases h : m % 2 = 1
      · have hs := Lib.hid (hs.trans (step_odd h))
        have hx := Lib.hid (xor_poly m hm)
        have ht : ((m : Int) % 2 == 1) = true := beq_iff_eq.2 (by omega)
        clear h
        go_wp2
        go_round
        case rel => exact ⟨k + 1, by omega, by go_num, cint_eq (by rw [hs.out]; exact hx.out)⟩
        case measure => simp [intOf]; omega
      · have hs := Lib.hid (hs.trans (step_even h))
        have ht : ((m : Int) % 2 == 1) = false := beq_eq_false_iff_ne.2 (by omega)
        clear h
        go_wp2
        go_round
        case rel => exact ⟨k + 1, by omega, by go_num, cint_eq (by rw [hs.out]; simp)⟩
        case measure => simp [intOf]; omega
    · obtain rfl : k = 8 := by omega
      go_wp2
      go_ret
      exact ⟨rfl, rfl⟩
end Go.Proofs.Ytckknopjhmpnhaa
