/- CrcSums: the law's walk. -/
import Derived.Test.YtniffodbpkcdpaaCrcAlive
import Derived.Test.YtniffodbpkcdpaaCrcPut
namespace Go.Proofs.Ytniffodbpkcdpaa
open Go.RowKit

set_option maxRecDepth 100000 in
set_option maxHeartbeats 2000000 in
theorem lawCrcSums_any (s : ByteArray) (n : Int) (w : World) (hs : s.size ≤ maxLen) (hn0 : 0 ≤ n) (hn1 : n < 4294967296) :
    Calls Try.prog 3 #[.string s, .int .u32 n] w fun e W' => e = .returned (.bool true) ∧ Below w.heap.size w W' := by
  obtain ⟨k, rfl⟩ := Int.eq_ofNat_of_zero_le hn0
  have hk : k < 4294967296 := by omega
  have hA := calive_any w
  have c1 := fun w => csum_any s hs w
  have c2 := fun w => crsum_any s hs w
  have c3 := fun w => cmore_any k hk s hs w
  have c4 := fun w => crmore_any k hk s hs w
  have c5 := fun w => cput_any k w
  have c6 := fun w => crput_any k hk w
  unfold maxLen at hs
  generalize Crc.sum (byteL s) = x at *
  generalize Crc.more k (byteL s) = y at *
  generalize putL k = l at *
  clear hn0 hn1
  by_cases h1 : 2000 < s.size
  · go_enter Try.func3, Try.ntmps3
    go_wp2_with (go_at_call 9; refine hA.mono ?_; clear hA; rintro e w1 ⟨rfl, hb⟩)
    go_ret
    exact ⟨rfl, hb⟩
  · go_enter Try.func3, Try.ntmps3
    go_wp2_with fail
    refine hA.mono ?_
    clear hA
    rintro e w1 ⟨rfl, hb1⟩
    go_wp2_with fail
    refine (c1 _).mono ?_
    rintro e w2 ⟨rfl, hb⟩
    have hb2 := hb1.trans (hb.mono hb1.size)
    go_wp2_with fail
    refine (c2 _).mono ?_
    rintro e w2 ⟨rfl, rfl⟩
    go_wp2_with fail
    refine (c3 _).mono ?_
    rintro e w3 ⟨rfl, hb⟩
    have hb3 := hb2.trans (hb.mono hb2.size)
    go_wp2_with fail
    refine (c4 _).mono ?_
    rintro e w3 ⟨rfl, rfl⟩
    go_wp2_with fail
    refine (c5 _).mono ?_
    rintro e w4 ⟨rfl, hb⟩
    have hb4 := hb3.trans (hb.mono hb3.size)
    go_wp2_with fail
    refine (c6 _).mono ?_
    rintro e w5 ⟨rfl, hb⟩
    have hb5 := hb4.trans (hb.mono hb4.size)
    go_wp2
    go_ret
    exact ⟨rfl, hb5⟩
end Go.Proofs.Ytniffodbpkcdpaa
