/- NumsPut: the law's walk. -/
import Derived.Test.YtcceanhhcoajpaaNumsAlive
namespace Go.Proofs.Ytcceanhhcoajpaa
open Go.RowKit Go.Shelf

set_option maxRecDepth 100000 in
set_option maxHeartbeats 2000000 in
theorem lawNumsPut_any (n m : Int) (s : ByteArray) (w : World) (hn0 : 0 ≤ n) (hn1 : n < 18446744073709551616) (hm0 : -9223372036854775808 ≤ m) (hm1 : m ≤ 9223372036854775807) (hs : s.size ≤ maxLen) :
    Calls Try.prog 3 #[.int .u64 n, .int .i64 m, .string s] w fun e W' => e = .returned (.bool true) ∧ Below w.heap.size w W' := by
  unfold maxLen at hs
  obtain ⟨k, rfl⟩ := Int.eq_ofNat_of_zero_le hn0
  have hA := nalive_any w
  by_cases h1 : 3000 < s.size
  · clear hn0 hn1 hm0 hm1
    go_enter Try.func3, Try.ntmps3
    go_wp2_with (go_at_call 6; refine hA.mono ?_; clear hA; rintro e w1 ⟨rfl, hb⟩)
    go_ret
    exact ⟨rfl, hb⟩
  · have hs2 : s.size ≤ 3000 := by omega
    have p1 := fun w => put_any k (by omega) w
    have p2 := fun w => rput_any k (by omega) w
    have q1 := fun w => putInt_any m hm0 hm1 w
    have q2 := fun w => rputInt_any m hm0 hm1 w
    have r1 := fun w => putText_any s (by omega) w
    have r2 := fun w => rputText_any s (by omega) w
    generalize Lib.uvarint k = l1 at *
    generalize Lib.uvarint (Lib.zigzag m) = l2 at *
    generalize rowL s.data.toList = l3 at *
    clear h1 hn0 hn1 hm0 hm1
    go_enter Try.func3, Try.ntmps3
    go_wp2_with fail
    refine hA.mono ?_
    clear hA
    rintro e w1 ⟨rfl, hb1⟩
    go_wp2_with fail
    refine (p1 _).mono ?_
    rintro e w2 ⟨rfl, hb⟩
    have hb2 := hb1.trans (hb.mono hb1.size)
    go_wp2_with fail
    refine (p2 _).mono ?_
    rintro e w3 ⟨rfl, hb⟩
    have hb3 := hb2.trans (hb.mono hb2.size)
    go_wp2_with fail
    refine (q1 _).mono ?_
    rintro e w4 ⟨rfl, hb⟩
    have hb4 := hb3.trans (hb.mono hb3.size)
    go_wp2_with fail
    refine (q2 _).mono ?_
    rintro e w5 ⟨rfl, hb⟩
    have hb5 := hb4.trans (hb.mono hb4.size)
    go_wp2_with fail
    refine (r1 _).mono ?_
    rintro e w6 ⟨rfl, hb⟩
    have hb6 := hb5.trans (hb.mono hb5.size)
    go_wp2_with fail
    refine (r2 _).mono ?_
    rintro e w7 ⟨rfl, hb⟩
    have hb7 := hb6.trans (hb.mono hb6.size)
    go_wp2
    go_ret
    exact ⟨rfl, hb7⟩
end Go.Proofs.Ytcceanhhcoajpaa
