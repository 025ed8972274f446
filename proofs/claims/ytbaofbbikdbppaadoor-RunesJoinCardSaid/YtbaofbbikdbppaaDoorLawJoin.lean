/- RunesJoin: the law's walk. -/
import Derived.Test.YtbaofbbikdbppaaDoorAlive
import Derived.Test.YtbaofbbikdbppaaDoorJoin
namespace Go.Proofs.YtbaofbbikdbppaaDoor
open Go.RowKit Go.Shelf

set_option maxRecDepth 100000 in
set_option maxHeartbeats 2000000 in
theorem lawJoin_any (v : Value) (xs : List Int) (w : World) (hx : xs.length ≤ maxLen) (hR : Reads32 w v xs) (hT : Lib.Utf8Tabs 0 1 w) :
    Calls Tryd.prog 4 #[v] w fun e W' => e = .returned (.bool true) ∧ Below w.heap.size w W' := by
  unfold maxLen at hx
  have hA := alive_any w hT
  have hR' := hR
  obtain ⟨ao, cap, rfl, _⟩ := hR'
  by_cases h1 : 2000 < xs.length
  · have h1' : (2000 : Int) < (xs.length : Int) := by omega
    clear hR
    go_enter Tryd.func4, Tryd.ntmps4
    go_wp2_with (go_at_call 9; refine hA.mono ?_; clear hA; rintro e w1 ⟨rfl, hb⟩)
    go_ret
    exact ⟨rfl, hb⟩
  · have h2 : xs.length ≤ 2000 := by omega
    have hJ := fun w1 (h : Below w.heap.size w w1) => join_any _ xs (by omega) w1 (hR.below h)
    have hK := fun w1 (h : Below w.heap.size w w1) => rjoin_any _ xs (by omega) w1 (hR.below h)
    have HR := Lib.hid hR
    clear hR h1
    cases ha : allValid xs with
    | true =>
      have Ha := Lib.hid ha
      clear ha
      go_enter Tryd.func4, Tryd.ntmps4
      go_wp2_with fail
      refine hA.mono ?_
      clear hA
      rintro e w1 ⟨rfl, hb1⟩
      go_wp2_with fail
      refine (hJ w1 hb1).mono ?_
      clear hJ
      rintro e w2 ⟨he, hb⟩
      rw [if_pos Ha.out] at he
      subst he
      have hb2 := hb1.trans (hb.mono hb1.size)
      go_wp2_with fail
      refine (hK w2 hb2).mono ?_
      clear hK
      rintro e w3 ⟨he, hb⟩
      rw [if_pos Ha.out] at he
      subst he
      have hb3 := hb2.trans (hb.mono hb2.size)
      go_wp2
      go_ret
      exact ⟨rfl, hb3⟩
    | false =>
      have Ha := Lib.hid (show ¬ allValid xs = true by rw [ha]; simp)
      clear ha
      go_enter Tryd.func4, Tryd.ntmps4
      go_wp2_with fail
      refine hA.mono ?_
      clear hA
      rintro e w1 ⟨rfl, hb1⟩
      go_wp2_with fail
      refine (hJ w1 hb1).mono ?_
      clear hJ
      rintro e w2 ⟨he, hb⟩
      rw [if_neg Ha.out] at he
      subst he
      have hb2 := hb1.trans (hb.mono hb1.size)
      go_wp2_with fail
      refine (hK w2 hb2).mono ?_
      clear hK
      rintro e w3 ⟨he, hb⟩
      rw [if_neg Ha.out] at he
      subst he
      have hb3 := hb2.trans (hb.mono hb2.size)
      go_wp2
      go_ret
      exact ⟨rfl, hb3⟩
end Go.Proofs.YtbaofbbikdbppaaDoor
