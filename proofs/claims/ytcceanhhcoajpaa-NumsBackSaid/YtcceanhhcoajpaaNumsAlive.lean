/- alive: the document's example of numbers as bytes. -/
import Derived.Test.YtcceanhhcoajpaaNumsPut
import Derived.Test.YtcceanhhcoajpaaNumsNum
namespace Go.Proofs.Ytcceanhhcoajpaa
open Go.RowKit Go.Shelf

set_option maxRecDepth 100000 in
set_option maxHeartbeats 2000000 in
theorem nalive_any (w : World) : Calls Try.prog 6 #[] w fun e W' => e = .returned (.bool true) ∧ Below w.heap.size w W' := by
  have hR := read_any ⟨#[128, 0]⟩ w (by decide)
  have hP := fun w => put_any 300 (by decide) w
  rw [put300] at hP
  have hI := fun w => putInt_any (-1) (by decide) (by decide) w
  rw [show Lib.zigzag (-1) = 1 from rfl, put1] at hI
  go_enter Try.func6, Try.ntmps6
  go_wp2_with fail
  refine hR.mono ?_
  clear hR
  rintro e w1 ⟨B, rfl, hB, hrd, hb1⟩
  go_wp2_with fail
  refine (num_any B ⟨#[128, 0]⟩ 5 w1 hrd (by decide)).mono ?_
  rintro e w2 (⟨c, hc, rfl, hr2, hk2⟩ | ⟨n, k, hk, _⟩)
  · rw [show (⟨#[128, 0]⟩ : ByteArray).data.toList = [128, 0] from rfl, take_example] at hc
    obtain rfl : (9 : Int) = c := by simpa using hc
    have hb2 := hb1.trans (hk2.below (M := w.heap.size) hb1.size (fun k hk => by omega))
    clear hc hk2 hrd
    go_wp2_with fail
    refine (hP _).mono ?_
    clear hP
    rintro e w3 ⟨rfl, hb3⟩
    go_wp2_with fail
    refine (hI _).mono ?_
    clear hI
    rintro e w4 ⟨rfl, hb4⟩
    have hr4 := (hr2.below hb3 hr2.lt).below hb4 (hr2.below hb3 hr2.lt).lt
    go_wp2_with fail
    refine (fault_any B _ 9 w4 hr4).mono ?_
    rintro e _ ⟨rfl, rfl⟩
    go_wp2
    go_ret
    exact ⟨rfl, (hb2.trans (hb3.mono hb2.size)).trans (hb4.mono (hb2.trans (hb3.mono hb2.size)).size)⟩
  · rw [show (⟨#[128, 0]⟩ : ByteArray).data.toList = [128, 0] from rfl, take_example] at hk
    cases hk
end Go.Proofs.Ytcceanhhcoajpaa
