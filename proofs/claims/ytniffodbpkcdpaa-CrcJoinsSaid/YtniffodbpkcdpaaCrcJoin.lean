/- Join: n zero bytes gone through by powers. -/
import Derived.Test.YtniffodbpkcdpaaCrcPowers
import Derived.Test.YtniffodbpkcdpaaShelf
import Derived.Lib.ItoaNum
import Derived.Lib.RabinKarpLaws
namespace Go.Proofs.Ytniffodbpkcdpaa
open Go.RowKit

theorem lt_bitLen (n : Nat) (h : n < 9223372036854775808) : n < 2 ^ Lib.bitLen n := by
  by_cases h0 : n = 0
  · subst h0; exact Nat.pow_pos (by decide)
  · exact (Lib.bitLenAux_bounds 64 n (by omega) h0).2.2
theorem bitLen_63 (n : Nat) (h : n < 9223372036854775808) : Lib.bitLen n ≤ 63 := Lib.bitLen_le n 63 (by decide) h
theorem mod_add (n k : Nat) (h : n.testBit k = true) : n % 2 ^ (k + 1) = n % 2 ^ k + 2 ^ k := by
  rw [Nat.mod_pow_succ]
  rw [Nat.testBit_eq_decide_div_mod_eq] at h
  rw [of_decide_eq_true h, Nat.mul_one]
theorem mod_same (n k : Nat) (h : n.testBit k = false) : n % 2 ^ (k + 1) = n % 2 ^ k := by
  rw [Nat.mod_pow_succ]
  rw [Nat.testBit_eq_decide_div_mod_eq] at h
  have h := of_decide_eq_false h
  rw [show n / 2 ^ k % 2 = 0 by omega, Nat.mul_zero, Nat.add_zero]
theorem behind_yes (m n k : Nat) (h : n.testBit k = true) : Crc.steps (8 * (n % 2 ^ (k + 1))) m = Crc.steps (8 * 2 ^ k) (Crc.steps (8 * (n % 2 ^ k)) m) := by
  rw [mod_add n k h, Nat.mul_add, Crc.steps_add]
theorem behind_no (m n k : Nat) (h : n.testBit k = false) : Crc.steps (8 * (n % 2 ^ (k + 1))) m = Crc.steps (8 * (n % 2 ^ k)) m := by rw [mod_same n k h]
theorem and_one64 (m : Nat) (h : m < 9223372036854775808) : bits BinOp.and IntKind.i64 (m : Int) 1 = (m : Int) % 2 := by
  have := and_one m h
  simpa using this
theorem nbit_yes {n k : Nat} (hn : n < 9223372036854775808) (h : n.testBit k = true) : bits BinOp.and IntKind.i64 ((n : Int) / 2 ^ k) 1 = 1 := by
  have hd : n / 2 ^ k < 9223372036854775808 := Nat.lt_of_le_of_lt (Nat.div_le_self _ _) hn
  have := and_one64 (n / 2 ^ k) hd
  rw [Nat.testBit_eq_decide_div_mod_eq] at h
  have h := of_decide_eq_true h
  simp only [Int.natCast_ediv, Int.natCast_pow, Int.cast_ofNat_Int] at this
  rw [this]
  have : (((n / 2 ^ k) % 2 : Nat) : Int) = 1 := by rw [h]; rfl
  simpa using this
theorem nbit_no {n k : Nat} (hn : n < 9223372036854775808) (h : n.testBit k = false) : bits BinOp.and IntKind.i64 ((n : Int) / 2 ^ k) 1 = 0 := by
  have hd : n / 2 ^ k < 9223372036854775808 := Nat.lt_of_le_of_lt (Nat.div_le_self _ _) hn
  have := and_one64 (n / 2 ^ k) hd
  rw [Nat.testBit_eq_decide_div_mod_eq] at h
  have h := of_decide_eq_false h
  simp only [Int.natCast_ediv, Int.natCast_pow, Int.cast_ofNat_Int] at this
  rw [this]
  have e : (n / 2 ^ k) % 2 = 0 := by omega
  have : (((n / 2 ^ k) % 2 : Nat) : Int) = 0 := by rw [e]; rfl
  simpa using this

set_option maxRecDepth 100000 in
set_option maxHeartbeats 2000000 in
theorem behind_any (m n : Nat) (hm : m < 4294967296) (hn : n < 9223372036854775808) (w : World) :
    Calls Try.prog 21 #[.int .u32 m, .int .i64 n] w fun e w' => e = .returned (.int .u32 (Crc.steps (8 * n) m)) ∧ Below w.heap.size w w' := by
  obtain ⟨hz, hi⟩ := zero_of_info zero63
  have hu := Try.underlying45
  obtain ⟨Z, hZ⟩ : ∃ Z, Array.replicate 2016 (Value.int .u32 0) = Z := ⟨_, rfl⟩
  have hZs : Z.size = 2016 := by rw [← hZ]; exact Array.size_replicate
  rw [hZ] at hz
  clear hZ
  have HI0 := Lib.hid hi
  clear hi
  have hL := Try.bits_Len (n : Int) w (by omega) (by omega)
  have hc63 := bitLen_63 n hn
  have hcn := lt_bitLen n hn
  rw [show (n : Int).toNat = n from rfl] at hL
  generalize Lib.bitLen n = c at *
  have hP := powers_any c hc63
  go_enter Try.func21, Try.ntmps21
  go_wp2_with fail
  refine hL.mono ?_
  clear hL
  rintro e w0 ⟨rfl, rfl⟩
  go_wp2_with fail
  refine (hP _).mono ?_
  clear hP
  rintro e w1 ⟨⟨C, rfl, hg⟩, hb⟩
  have HI := Lib.hid (show (Try.prog.info? 45).map (·.size) = some C.size by rw [hg.size]; exact HI0.out)
  have HO := Lib.hid hg.one
  have hold := Lib.hid (show Z.size = C.size by rw [hZs, hg.size])
  have key : ∀ (op : Oper) (ops rest Q a), op.guard = none → op.op = .store 45 (.tmp 6) (.tmp 12) → a.eval (.tmp 6) = .pointer (some ⟨w1.heap.size, 0, none⟩) → a.eval (.tmp 12) = .agg C → wpList Try.prog ops Q rest (a.put op.dst undef) (w1.alloc (.cells C 45)) → wpList Try.prog ops Q (op :: rest) a (w1.alloc (.cells Z 45)) :=
    fun op ops rest Q a h1 h2 h3 h4 h5 => wpList_store_row h1 45 _ _ h2 w1.heap.size C h3 h4 45 Z (heap_alloc_new w1 _) HI.out hold.out HO.out (by rw [World.setRow_alloc_new]; exact h5)
  have hb2 : Below w0.heap.size w0 (w1.alloc (.cells C 45)) := hb.alloc hb.size _
  clear hZs hb
  go_wp2_with (refine key _ _ _ _ _ rfl rfl (by simp [Act.eval]) (by simp [Act.eval]) ?_)
  have hcells : ∀ j, j < c → ∀ i, i < 32 → (w1.alloc (.cells C 45)).cell? ⟨w1.heap.size, j * 32 + i, none⟩ = some (.int .u32 (powF (8 * 2 ^ j) i : Nat)) := fun j hj i hi => by
    rw [cell_of_row _ _ _ _ _ _ (heap_alloc_new w1 _), Nat.mul_comm j 32]; exact hg.at_ j hj i hi
  clear key HI HO hold HI0 hu hg
  generalize w1.alloc (.cells C 45) = w2 at *
  have HC := Lib.hid hcells
  have HN := Lib.hid hcn
  clear hcells hcn
  go_loop [0, 14] (fun v i => ∃ k : Nat, k ≤ c ∧ i = .int .i64 k ∧ v = .int .u32 (Crc.steps (8 * (n % 2 ^ k)) m : Nat)) (fun _ i => c - (intOf i).toNat)
  case atStart => exact ⟨0, by omega, rfl, by rw [Nat.pow_zero, Nat.mod_one]; rfl⟩
  case round =>
    obtain ⟨k, hk, rfl, rfl⟩ := hrel
    by_cases hlt : k < c
    · have hx := Crc.steps_lt (8 * (n % 2 ^ k)) hm
      have hO := of_any (powF (8 * 2 ^ k)) (fun i hi => powF_lt _ hi) w1.heap.size (k * 32) _ hx w2 (HC.out k hlt)
      rw [show ofL (powF (8 * 2 ^ k)) (Crc.steps (8 * (n % 2 ^ k)) m) 32 = Crc.steps (8 * 2 ^ k) (Crc.steps (8 * (n % 2 ^ k)) m) from ofL_word _ hx] at hO
      cases hb : n.testBit k
      · have hn' := Lib.hid (behind_no m n k hb)
        have ht := nbit_no hn hb
        generalize Crc.steps (8 * (n % 2 ^ k)) m = x at *
        clear hO
        go_wp2
        go_round
        case rel => exact ⟨k + 1, by omega, by go_num, cint_eq (by rw [hn'.out])⟩
        case measure => simp [intOf]; omega
      · have hn' := Lib.hid (behind_yes m n k hb)
        have ht := nbit_yes hn hb
        generalize Crc.steps (8 * (n % 2 ^ k)) m = x at *
        generalize Crc.steps (8 * 2 ^ k) x = y at *
        go_wp2_with (go_at_call 24; refine hO.mono ?_; clear hO; rintro e w2 ⟨rfl, rfl⟩)
        go_round
        case rel => exact ⟨k + 1, by omega, by go_num, cint_eq (by rw [hn'.out])⟩
        case measure => simp [intOf]; omega
    · obtain rfl : k = c := by omega
      rw [Nat.mod_eq_of_lt HN.out]
      go_wp2
      go_ret
      exact ⟨rfl, hb2⟩

set_option maxRecDepth 100000 in
set_option maxHeartbeats 1000000 in
theorem cjoin_any (a b : Nat) (n : Int) (ha : a < 4294967296) (hb : b < 4294967296) (h1 : n ≤ 9223372036854775807) (w : World) :
    Calls Try.prog 18 #[.int .u32 a, .int .u32 b, .int .i64 n] w fun e w' => e = .returned (.int .u32 (Crc.steps (8 * n.toNat) a ^^^ b : Nat)) ∧ Below w.heap.size w w' := by
  have hB := behind_any a n.toNat ha (by omega) w
  have hx := Crc.steps_lt (8 * n.toNat) ha
  generalize Crc.steps (8 * n.toNat) a = x at *
  have hy := Lib.hid (xor_words x b hx hb)
  rw [show ((n.toNat : Nat) : Int) = max n 0 by omega] at hB
  go_enter Try.func18, Try.ntmps18
  go_wp2_with (go_at_call 21; refine hB.mono ?_; clear hB; rintro e w1 ⟨rfl, hb1⟩)
  go_ret
  exact ⟨ret_u32 hy.out, hb1⟩
end Go.Proofs.Ytniffodbpkcdpaa
