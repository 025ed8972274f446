/- CrcRaw: the law's walk. -/
import Derived.Test.YtniffodbpkcdpaaLawCrcJoins
import Derived.Test.YtniffodbpkcdpaaConvOwn
import Derived.Deep.OwnRows
namespace Go.Proofs.Ytniffodbpkcdpaa
open Go.RowKit

theorem more_lt (a : Nat) (ha : a < 4294967296) (s : ByteArray) : Crc.more a (byteL s) < 4294967296 := by
  unfold Crc.more
  exact ones_lt (Crc.run_lt (ones_lt ha) (byteL_lt s))
/-- n zero bytes as a text. -/
def zeroS (n : Nat) : ByteArray := ⟨(List.replicate n (0 : UInt8)).toArray⟩
theorem zeroS_size (n : Nat) : (zeroS n).size = n := by rw [Lib.size_eq]; simp [zeroS]
theorem byteL_zeroS (n : Nat) : byteL (zeroS n) = Crc.zeros n := by simp [byteL, zeroS, Crc.zeros]
theorem raw_plain (a b n : Nat) : (Crc.more a (byteL (zeroS n)) ^^^ b) ^^^ Crc.sum (byteL (zeroS n)) = Crc.steps (8 * n) a ^^^ b := by
  rw [byteL_zeroS, ← steps_more]
  generalize Crc.more a (Crc.zeros n) = x
  generalize Crc.sum (Crc.zeros n) = y
  apply Nat.eq_of_testBit_eq
  intro i
  simp only [Nat.testBit_xor]
  cases x.testBit i <;> cases y.testBit i <;> cases b.testBit i <;> rfl
theorem conv_zeros (W : World) (n : Nat) : (convert 33 9 (.slice (some ⟨W.heap.size, 0, none⟩) n n)).run Try.prog (W.alloc (.cells (madeCells #[.int .u8 0] n) 5)) = .ok (.string (zeroS n)) (W.alloc (.cells (madeCells #[.int .u8 0] n) 5)) := by
  have h := run_convert_bytes_back (P := Try.prog) (W.alloc (.cells (madeCells #[.int .u8 0] n) 5)) 33 9 5 ⟨W.heap.size, 0, none⟩ n (List.replicate n 0) Try.underlying33 Try.underlying5 Try.underlying9 ?_
  · rw [List.length_replicate] at h
    exact h
  · intro j hj
    have e : (⟨W.heap.size, 0, none⟩ : Addr).add j = ⟨W.heap.size, j, none⟩ := by simp [Addr.add]; omega
    rw [List.length_replicate] at hj
    rw [e, World.cell?_alloc_at _ _ _ _ rfl, ← Array.getElem?_toList, toList_madeCells_one, List.getElem?_replicate, if_pos hj]
    simp

set_option maxRecDepth 100000 in
set_option maxHeartbeats 2000000 in
theorem lawCrcRaw_any (a b n : Int) (w : World) (ha0 : 0 ≤ a) (ha1 : a < 4294967296) (hb0 : 0 ≤ b) (hb1 : b < 4294967296) (hn0 : -9223372036854775808 ≤ n) (hn1 : n ≤ 9223372036854775807) :
    Calls Try.prog 6 #[.int .u32 a, .int .u32 b, .int .i64 n] w fun e W' => e = .returned (.bool true) ∧ Below w.heap.size w W' := by
  obtain ⟨x, rfl⟩ := Int.eq_ofNat_of_zero_le ha0
  obtain ⟨y, rfl⟩ := Int.eq_ofNat_of_zero_le hb0
  have hx : x < 4294967296 := by omega
  have hy : y < 4294967296 := by omega
  clear ha0 ha1 hb0 hb1
  have hA := calive_any w
  by_cases h1 : 5000 < n
  · go_enter Try.func6, Try.ntmps6
    go_wp2_with (go_at_call 9; refine hA.mono ?_; clear hA; rintro e w1 ⟨rfl, hb⟩)
    go_ret
    exact ⟨rfl, hb⟩
  · have hS : (zeroS n.toNat).size ≤ maxLen := by rw [zeroS_size]; unfold maxLen; omega
    have c1 := fun w => cjoin_any x y n hx hy hn1 w
    have c2 := fun w => crmore_any x hx (zeroS n.toNat) hS w
    have c3 := fun w => crsum_any (zeroS n.toNat) hS w
    have hp := raw_plain x y n.toNat
    have hmore := more_lt x hx (zeroS n.toNat)
    have hsum := sum_lt (zeroS n.toNat)
    generalize Crc.more x (byteL (zeroS n.toNat)) = p at *
    generalize Crc.sum (byteL (zeroS n.toNat)) = q at *
    have x1 := xor_words p y hmore hy
    have x2 := xor_words (p ^^^ y) q (Nat.xor_lt_two_pow (n := 32) hmore hy) hsum
    rw [hp] at x2
    generalize Crc.steps (8 * n.toNat) x ^^^ y = r at *
    generalize p ^^^ y = py at *
    clear hp hmore hsum hS
    by_cases h0 : 0 < n
    · obtain ⟨k, rfl⟩ := Int.eq_ofNat_of_zero_le (show 0 ≤ n by omega)
      rw [Int.toNat_natCast] at c2 c3
      have hmk := fun w => run_make_row' (P := Try.prog) 33 5 (.int .u8 0) 1 Try.underlying33 infoU8 rfl .i64 .i64 k (by omega) (by omega) w
      have hcv := fun W => conv_zeros W k
      generalize zeroS k = zs at *
      go_enter Try.func6, Try.ntmps6
      go_wp2_with fail
      refine hA.mono ?_
      clear hA
      rintro e w1 ⟨rfl, hb1⟩
      have hb2 := hb1.alloc hb1.size (.cells (madeCells #[.int .u8 0] k) 5)
      go_wp2_with fail
      refine (c1 _).mono ?_
      rintro e w2 ⟨rfl, hb⟩
      have hb3 := hb2.trans (hb.mono hb2.size)
      go_wp2_with fail
      refine (c2 _).mono ?_
      rintro e w2 ⟨rfl, rfl⟩
      go_wp2_with fail
      refine (c3 _).mono ?_
      rintro e w2 ⟨rfl, rfl⟩
      go_wp2
      go_ret
      exact ⟨rfl, hb3⟩
    · rw [show n.toNat = 0 by omega, show zeroS 0 = ⟨#[]⟩ from rfl] at c2 c3
      go_enter Try.func6, Try.ntmps6
      go_wp2_with fail
      refine hA.mono ?_
      clear hA
      rintro e w1 ⟨rfl, hb1⟩
      go_wp2_with fail
      refine (c1 _).mono ?_
      rintro e w2 ⟨rfl, hb⟩
      have hb3 := hb1.trans (hb.mono hb1.size)
      go_wp2_with fail
      refine (c2 _).mono ?_
      rintro e w2 ⟨rfl, rfl⟩
      go_wp2_with fail
      refine (c3 _).mono ?_
      rintro e w2 ⟨rfl, rfl⟩
      go_wp2
      go_ret
      exact ⟨rfl, hb3⟩
end Go.Proofs.Ytniffodbpkcdpaa
