/- RunesDigest: the law's walk. -/
import Derived.Test.YtbaofbbikdbppaaDoorAlive
import Derived.Test.YtbaofbbikdbppaaDoorDig
namespace Go.Proofs.YtbaofbbikdbppaaDoor
open Go.RowKit Go.Shelf

theorem dig_nil : dig [] = 14695981039346656037 := rfl

set_option maxHeartbeats 1000000 in
theorem lawDigest_any (s t : ByteArray) (w : World) (hs : s.size ≤ maxLen) (ht : t.size ≤ maxLen) (hT : Lib.Utf8Tabs 0 1 w) :
    Calls Tryd.prog 8 #[.string s, .string t] w fun e W' => e = .returned (.bool true) ∧ Below w.heap.size w W' := by
  unfold maxLen at hs ht
  have hA := alive_any w hT
  by_cases h1 : 2000 < s.size
  · go_enter Tryd.func8, Tryd.ntmps8
    go_wp2_with (go_at_call 9; refine hA.mono ?_; clear hA; rintro e w1 ⟨rfl, hb⟩)
    go_ret
    exact ⟨rfl, hb⟩
  · by_cases h2 : 2000 < t.size
    · go_enter Tryd.func8, Tryd.ntmps8
      go_wp2_with (go_at_call 9; refine hA.mono ?_; clear hA; rintro e w1 ⟨rfl, hb⟩)
      go_ret
      exact ⟨rfl, hb⟩
    · have d1 := fun w => digest_any s w (by unfold maxLen; omega)
      have r1 := fun w => rdigest_any s w (by unfold maxLen; omega)
      have d2 := fun w => digest_any (s ++ t) w (by unfold maxLen; rw [ByteArray.size_append]; omega)
      have r2 := fun w => rdigest_any (s ++ t) w (by unfold maxLen; rw [ByteArray.size_append]; omega)
      have d3 := fun w => digest_any ⟨#[]⟩ w (by decide)
      rw [show dig (⟨#[]⟩ : ByteArray).data.toList = 14695981039346656037 from rfl] at d3
      generalize dig s.data.toList = x at *
      generalize dig (s ++ t).data.toList = y at *
      go_enter Tryd.func8, Tryd.ntmps8
      go_wp2_with fail
      refine hA.mono ?_
      clear hA
      rintro e w1 ⟨rfl, hb⟩
      go_wp2_with fail
      refine (d1 w1).mono ?_
      rintro e _ ⟨rfl, rfl⟩
      go_wp2_with fail
      refine (r1 w1).mono ?_
      rintro e _ ⟨rfl, rfl⟩
      go_wp2_with fail
      refine (d2 w1).mono ?_
      rintro e _ ⟨rfl, rfl⟩
      go_wp2_with fail
      refine (r2 w1).mono ?_
      rintro e _ ⟨rfl, rfl⟩
      go_wp2_with fail
      refine (d3 w1).mono ?_
      rintro e _ ⟨rfl, rfl⟩
      go_wp2
      go_ret
      exact ⟨rfl, hb⟩
end Go.Proofs.YtbaofbbikdbppaaDoor
