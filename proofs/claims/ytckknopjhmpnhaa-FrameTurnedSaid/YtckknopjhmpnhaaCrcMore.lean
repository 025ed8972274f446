/- More, Sum: by the table. -/
import Derived.Test.YtckknopjhmpnhaaCrcTable
namespace Go.Proofs.Ytckknopjhmpnhaa
open Go.RowKit

theorem xor_mod (m b : Nat) (hb : b < 256) : (m ^^^ b) % 256 = (m % 256) ^^^ b := by
  rw [show (256 : Nat) = 2 ^ 8 from rfl, Nat.xor_mod_two_pow, Nat.mod_eq_of_lt (a := b) (by omega)]
theorem xor_div (m b : Nat) (hb : b < 256) : (m ^^^ b) / 256 = m / 256 := by
  rw [show (256 : Nat) = 2 ^ 8 from rfl, Nat.xor_div_two_pow, Nat.div_eq_of_lt (a := b) (by omega), Nat.xor_zero]
theorem byte_in (m b : Nat) (hb : b < 256) : Crc.byteIn m b = Crc.steps 8 ((m % 256) ^^^ b) ^^^ (m / 256) := by
  unfold Crc.byteIn
  rw [Crc.steps8_table, xor_mod m b hb, xor_div m b hb]
theorem idx_lt (m : Nat) (b : UInt8) : (m % 256) ^^^ b.toNat < 256 := Nat.xor_lt_two_pow (n := 8) (by omega) (UInt8.toNat_lt b)
theorem xor_idx (m : Nat) (b : UInt8) : bits BinOp.xor IntKind.u8 ((m : Int) % 256) (b.toNat : Int) = (((m % 256) ^^^ b.toNat : Nat) : Int) := by
  have := u8_xor_nat (m % 256) b.toNat (by omega) (UInt8.toNat_lt b)
  simpa using this
theorem xor_high (a m : Nat) (ha : a < 4294967296) (hm : m < 4294967296) : bits BinOp.xor IntKind.u32 (a : Int) ((m : Int) / 256) = ((a ^^^ (m / 256) : Nat) : Int) := by
  have := u32_xor_nat a (m / 256) ha (by omega)
  simpa using this

theorem not_u32 (n : Nat) (h : n < 4294967296) : bits BinOp.xor IntKind.u32 IntKind.u32.max (n : Int) = ((Crc.ones ^^^ n : Nat) : Int) := by
  rw [show IntKind.u32.max = ((4294967295 : Nat) : Int) from by decide]
  exact u32_xor_nat 4294967295 n (by decide) h

set_option maxRecDepth 100000 in
set_option maxHeartbeats 2000000 in
theorem cmore_any (n : Nat) (hn : n < 4294967296) (s : ByteArray) (hs : s.size ≤ maxLen) (w : World) :
    Calls Try.prog 31 #[.int .u32 n, .string s] w fun e w' => e = .returned (.int .u32 (Crc.more n (byteL s))) ∧ Below w.heap.size w w' := by
  unfold maxLen at hs
  obtain ⟨hz, hi⟩ := zero_of_info zero256
  have hu := Try.underlying79
  have hT := ctable_any w
  rw [← fillC_zero .u32 (Crc.steps 8) 256] at hz
  go_enter Try.func31, Try.ntmps31
  go_wp2_with fail
  refine hT.mono ?_
  clear hT
  rintro e w1 ⟨rfl, hb⟩
  have hsz := fillC_size .u32 (Crc.steps 8) 256 256
  have hi' : (Try.prog.info? 79).map (·.size) = some (fillC .u32 (Crc.steps 8) 256 256).size := by rw [hsz]; exact hi
  have h1 := fillC_one .u32 (Crc.steps 8) 256 256
  have hold : (fillC .u32 (Crc.steps 8) 256 0).size = (fillC .u32 (Crc.steps 8) 256 256).size := by rw [hsz, fillC_size]
  go_wp2_with (refine wpList_store_row rfl 79 _ _ rfl w1.heap.size _ rfl rfl 79 _ (heap_alloc_new w1 (.cells (fillC .u32 (Crc.steps 8) 256 0) 79)) hi' hold h1 ?_; rw [World.setRow_alloc_new])
  clear hi hu hi' h1 hold hsz
  have h0 := Lib.hid (not_u32 n hn)
  have hm0 := ones_lt hn
  have hcell : ∀ i : Nat, i < 256 → (w1.alloc (.cells (fillC .u32 (Crc.steps 8) 256 256) 79)).cell? ⟨w1.heap.size, i, none⟩ = some (.int .u32 (Crc.steps 8 i : Nat)) := fun i hi => by
    rw [World.cell?_alloc_at _ _ _ _ rfl, fillC_at _ _ _ _ i hi, if_pos hi]
  have hb2 : Below w.heap.size w (w1.alloc (.cells (fillC .u32 (Crc.steps 8) 256 256) 79)) := hb.alloc hb.size _
  generalize w1.alloc (.cells (fillC .u32 (Crc.steps 8) 256 256) 79) = w2 at *
  have HC := Lib.hid hcell
  clear hcell
  go_loop [6, 13] (fun v i => ∃ k : Nat, k ≤ s.size ∧ i = .int .i64 k ∧ v = .int .u32 (Crc.run (Crc.ones ^^^ n) ((byteL s).take k))) (fun _ i => s.size - (intOf i).toNat)
  case atStart => exact ⟨0, by omega, rfl, cint_eq h0.out⟩
  case round =>
    obtain ⟨k, hk, rfl, rfl⟩ := hrel
    have hm := run_take_lt s k hm0
    by_cases hlt : k < s.size
    · have H := Lib.hid (run_next (Crc.ones ^^^ n) s k hlt)
      generalize Crc.run (Crc.ones ^^^ n) ((byteL s).take k) = m at *
      obtain ⟨b, hb⟩ : ∃ b, s[k] = b := ⟨_, rfl⟩
      rw [hb] at H
      have hx := xor_idx m b
      have hcell := HC.out _ (idx_lt m b)
      have hidx := idx_lt m b
      have hB := Lib.hid (byte_in m b.toNat (UInt8.toNat_lt b))
      have hst := Crc.steps_lt 8 (show (m % 256) ^^^ b.toNat < 4294967296 by omega)
      generalize (m % 256) ^^^ b.toNat = j at *
      generalize Crc.steps 8 j = x at *
      have hy := Lib.hid (xor_high x m hst hm)
      go_wp2
      go_round
      case rel => exact ⟨k + 1, by omega, by go_num, cint_eq (by rw [H.out, hB.out]; exact hy.out)⟩
      case measure => simp [intOf]; omega
    · obtain rfl : k = s.size := by omega
      rw [run_all] at hm ⊢
      have h3 := Lib.hid (not_u32 _ hm)
      go_wp2
      go_ret
      exact ⟨ret_u32 h3.out, hb2⟩

set_option maxHeartbeats 400000 in
theorem csum_any (s : ByteArray) (hs : s.size ≤ maxLen) (w : World) :
    Calls Try.prog 19 #[.string s] w fun e w' => e = .returned (.int .u32 (Crc.sum (byteL s))) ∧ Below w.heap.size w w' := by
  have hM := cmore_any 0 (by decide) s hs w
  go_enter Try.func19, Try.ntmps19
  go_wp2_with (go_at_call 31; refine hM.mono ?_; clear hM; rintro e w' ⟨rfl, hb⟩)
  go_ret
  exact ⟨rfl, hb⟩
end Go.Proofs.Ytckknopjhmpnhaa
