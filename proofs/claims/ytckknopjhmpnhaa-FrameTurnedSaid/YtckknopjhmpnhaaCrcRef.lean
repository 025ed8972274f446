/- The document's words of the table, sums, and sums that go on. -/
import Derived.Test.YtckknopjhmpnhaaCrcSteps
import Derived.Lib.Strings
namespace Go.Proofs.Ytckknopjhmpnhaa
open Go.RowKit

/-- The bytes of a text as numbers. -/
def byteL (s : ByteArray) : List Nat := s.data.toList.map (·.toNat)
theorem byteL_lt (s : ByteArray) : ∀ b ∈ byteL s, b < 256 := by
  intro b hb
  obtain ⟨x, _, rfl⟩ := List.mem_map.1 hb
  exact UInt8.toNat_lt x
theorem byteL_length (s : ByteArray) : (byteL s).length = s.size := by rw [Lib.size_eq]; exact List.length_map _
theorem byteL_take (s : ByteArray) (k : Nat) (h : k < s.size) : (byteL s).take (k + 1) = (byteL s).take k ++ [s[k].toNat] := by
  rw [List.take_succ_eq_append_getElem (by rw [byteL_length]; exact h)]
  simp only [byteL, List.getElem_map]
  rfl
theorem run_next (w : Nat) (s : ByteArray) (k : Nat) (h : k < s.size) : Crc.run w ((byteL s).take (k + 1)) = Crc.byteIn (Crc.run w ((byteL s).take k)) s[k].toNat := by
  rw [byteL_take s k h, Crc.run_append]; rfl
theorem run_take_lt {w : Nat} (s : ByteArray) (k : Nat) (hw : w < 4294967296) : Crc.run w ((byteL s).take k) < 4294967296 := Crc.run_lt hw (fun b hb => byteL_lt s b (List.mem_of_mem_take hb))
theorem run_all (w : Nat) (s : ByteArray) : Crc.run w ((byteL s).take s.size) = Crc.run w (byteL s) := by
  rw [List.take_of_length_le (by rw [byteL_length]; exact Nat.le_refl _)]
theorem xor_byte (m : Nat) (h : m < 4294967296) (b : UInt8) : bits BinOp.xor IntKind.u32 (m : Int) ((b.toNat : Int) % 4294967296) = ((m ^^^ b.toNat : Nat) : Int) := by
  have hb := UInt8.toNat_lt b
  rw [show (b.toNat : Int) % 4294967296 = (b.toNat : Int) by omega]
  exact u32_xor_nat m b.toNat h (by omega)
theorem ones_lt {n : Nat} (h : n < 4294967296) : Crc.ones ^^^ n < 4294967296 := Nat.xor_lt_two_pow (n := 32) (by decide) h
theorem ones_sub {n : Nat} (h : n < 4294967296) : ((4294967295 : Int) - (n : Int)) = ((Crc.ones ^^^ n : Nat) : Int) := by rw [Crc.ones_xor h]; unfold Crc.ones; omega

set_option maxHeartbeats 2000000 in
theorem crmore_any (n : Nat) (hn : n < 4294967296) (s : ByteArray) (hs : s.size ≤ maxLen) (w : World) :
    Calls Try.prog 32 #[.int .u32 n, .string s] w fun e w' => e = .returned (.int .u32 (Crc.more n (byteL s))) ∧ w' = w := by
  unfold maxLen at hs
  have h0 := Lib.hid (ones_sub hn)
  have h1 := ones_lt hn
  go_enter Try.func32, Try.ntmps32
  go_wp2
  go_loop [5, 6] (fun v i => ∃ k : Nat, k ≤ s.size ∧ i = .int .i64 k ∧ v = .int .u32 (Crc.run (Crc.ones ^^^ n) ((byteL s).take k))) (fun _ i => s.size - (intOf i).toNat)
  case atStart => exact ⟨0, by omega, rfl, cint_eq h0.out⟩
  case round =>
    obtain ⟨k, hk, rfl, rfl⟩ := hrel
    have hm := run_take_lt s k h1
    by_cases hlt : k < s.size
    · have H := Lib.hid (run_next (Crc.ones ^^^ n) s k hlt)
      generalize Crc.run (Crc.ones ^^^ n) ((byteL s).take k) = m at *
      obtain ⟨b, hb⟩ : ∃ b, s[k] = b := ⟨_, rfl⟩
      have hx := xor_byte m hm b
      have hx2 : m ^^^ b.toNat < 4294967296 := Nat.xor_lt_two_pow (n := 32) hm (by have := UInt8.toNat_lt b; omega)
      rw [hb] at H
      go_wp2
      go_loop [5, 7] (fun v i => ∃ j : Nat, j ≤ 8 ∧ i = .int .i64 j ∧ v = .int .u32 (Crc.steps j (m ^^^ b.toNat))) (fun _ i => 8 - (intOf i).toNat)
      case atStart => exact ⟨0, by omega, rfl, rfl⟩
      case round =>
        obtain ⟨j, hj, rfl, rfl⟩ := hrel
        by_cases hlj : j < 8
        · have hs := Lib.hid (steps_next j (m ^^^ b.toNat))
          have hm2 := Crc.steps_lt j hx2
          generalize Crc.steps j (m ^^^ b.toNat) = m2 at *
          have hS := step_any m2 hm2 w
          go_wp2_with (go_at_call 45; refine hS.mono ?_; clear hS; rintro e w' ⟨rfl, rfl⟩)
          go_round
          case rel => exact ⟨j + 1, by omega, by go_num, cint_eq (by rw [hs.out])⟩
          case measure => simp [intOf]; omega
        · obtain rfl : j = 8 := by omega
          go_wp2
          go_round
          case rel => exact ⟨k + 1, by omega, by go_num, cint_eq (by rw [H.out]; rfl)⟩
          case measure => simp [intOf]; omega
    · obtain rfl : k = s.size := by omega
      rw [run_all] at hm ⊢
      have h3 := Lib.hid (ones_sub hm)
      go_wp2
      go_ret
      exact ⟨ret_u32 h3.out, rfl⟩

set_option maxHeartbeats 400000 in
theorem crsum_any (s : ByteArray) (hs : s.size ≤ maxLen) (w : World) :
    Calls Try.prog 23 #[.string s] w fun e w' => e = .returned (.int .u32 (Crc.sum (byteL s))) ∧ w' = w := by
  have hM := crmore_any 0 (by decide) s hs w
  go_enter Try.func23, Try.ntmps23
  go_wp2_with (go_at_call 32; refine hM.mono ?_; clear hM; rintro e w' ⟨rfl, rfl⟩)
  go_ret
  exact ⟨rfl, rfl⟩
end Go.Proofs.Ytckknopjhmpnhaa
