/- alive: the document's example of sums. -/
import Derived.Test.YtniffodbpkcdpaaCrcMore
namespace Go.Proofs.Ytniffodbpkcdpaa
open Go.RowKit

theorem sum_example : Crc.sum (byteL ⟨#[49, 50, 51, 52, 53, 54, 55, 56, 57]⟩) = 3808858755 := by decide +kernel
theorem sum_nothing : Crc.sum (byteL ⟨#[]⟩) = 0 := by decide +kernel

set_option maxRecDepth 100000 in
set_option maxHeartbeats 2000000 in
theorem calive_any (w : World) : Calls Try.prog 9 #[] w fun e W' => e = .returned (.bool true) ∧ Below w.heap.size w W' := by
  have h1 := fun w => csum_any ⟨#[49, 50, 51, 52, 53, 54, 55, 56, 57]⟩ (by decide) w
  have h2 := fun w => csum_any ⟨#[]⟩ (by decide) w
  rw [sum_example] at h1
  rw [sum_nothing] at h2
  go_enter Try.func9, Try.ntmps9
  go_wp2_with fail
  refine (h1 _).mono ?_
  clear h1
  rintro e w1 ⟨rfl, hb1⟩
  go_wp2_with fail
  refine (h2 _).mono ?_
  clear h2
  rintro e w2 ⟨rfl, hb⟩
  have hb2 := hb1.trans (hb.mono hb1.size)
  go_wp2
  go_ret
  exact ⟨rfl, hb2⟩
end Go.Proofs.Ytniffodbpkcdpaa
