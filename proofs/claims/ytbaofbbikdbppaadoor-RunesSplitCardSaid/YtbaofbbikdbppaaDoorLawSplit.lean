/- RunesSplit: the law's walk. -/
import Derived.Test.YtbaofbbikdbppaaDoorAlive
import Derived.Test.YtbaofbbikdbppaaDoorSplit
import Derived.Test.YtbaofbbikdbppaaDoorRefSplit
import Derived.Test.YtbaofbbikdbppaaDoorRefSame
namespace Go.Proofs.YtbaofbbikdbppaaDoor
open Go.RowKit Go.Shelf

set_option maxRecDepth 100000 in
set_option maxHeartbeats 2000000 in
theorem lawSplit_any (s : ByteArray) (w : World) (hs : s.size ≤ maxLen) (hT : Lib.Utf8Tabs 0 1 w) :
    Calls Tryd.prog 3 #[.string s] w fun e W' => e = .returned (.bool true) ∧ Below w.heap.size w W' := by
  unfold maxLen at hs
  have hA := alive_any w hT
  by_cases h1 : 2000 < s.size
  · go_enter Tryd.func3, Tryd.ntmps3
    go_wp2_with (go_at_call 9; refine hA.mono ?_; clear hA; rintro e w1 ⟨rfl, hb⟩)
    go_ret
    exact ⟨rfl, hb⟩
  · have hs2 : s.size ≤ 2000 := by omega
    have hR := fun w => rsplit_any s (by omega) w
    have hRL := fun w => rlen_any s (by omega) w
    have hM := fun w1 (h : Below w.heap.size w w1) => may_any s (by unfold maxLen; omega) w1 (Utf8Tabs_below hT h)
    have hL := fun w1 (h : Below w.heap.size w w1) => len_any s (by unfold maxLen; omega) w1 (Utf8Tabs_below hT h)
    cases hr : runesL s.data.toList with
    | none =>
      have hS := fun w1 (h : Below w.heap.size w w1) => split_none s (by omega) w1 (Utf8Tabs_below hT h) hr
      rw [hr] at hR hRL
      rw [show mayB s.data.toList = false by unfold mayB; rw [hr]; rfl] at hM
      rw [lenL_none hr] at hL
      clear hr h1
      go_enter Tryd.func3, Tryd.ntmps3
      go_wp2_with fail
      refine hA.mono ?_
      clear hA
      rintro e w1 ⟨rfl, hb1⟩
      go_wp2_with fail
      refine (hS w1 hb1).mono ?_
      clear hS
      rintro e w2 ⟨rfl, hb⟩
      have hb2 := hb1.trans (hb.mono hb1.size)
      go_wp2_with fail
      refine (hR w2).mono ?_
      clear hR
      rintro e w3 ⟨hb, rfl⟩
      have hb3 := hb2.trans (hb.mono hb2.size)
      go_wp2_with fail
      refine (hM w3 hb3).mono ?_
      clear hM
      rintro e w4 ⟨rfl, hb⟩
      have hb4 := hb3.trans (hb.mono hb3.size)
      go_wp2_with fail
      refine (hL w4 hb4).mono ?_
      clear hL
      rintro e w5 ⟨rfl, hb⟩
      have hb5 := hb4.trans (hb.mono hb4.size)
      go_wp2_with fail
      refine (hRL w5).mono ?_
      clear hRL
      rintro e w6 ⟨rfl, hb⟩
      have hb6 := hb5.trans (hb.mono hb5.size)
      go_wp2
      go_ret
      exact ⟨rfl, hb6⟩
    | some rs =>
      have hS := fun w1 (h : Below w.heap.size w w1) => split_some s (by omega) w1 (Utf8Tabs_below hT h) rs hr
      rw [hr] at hR hRL
      rw [show mayB s.data.toList = true by unfold mayB; rw [hr]; rfl] at hM
      rw [lenL_some hr] at hL
      have hlen : rs.length ≤ 2000 := by
        have := runes_le hr
        rw [← Lib.size_eq] at this
        omega
      clear hr h1
      go_enter Tryd.func3, Tryd.ntmps3
      go_wp2_with fail
      refine hA.mono ?_
      clear hA
      rintro e w1 ⟨rfl, hb1⟩
      go_wp2_with fail
      refine (hS w1 hb1).mono ?_
      clear hS
      rintro e w2 ⟨v, rfl, hv, hb⟩
      have hb2 := hb1.trans (hb.mono hb1.size)
      have rv := Reads32.of_own hv
      clear hv
      go_wp2_with fail
      refine (hR w2).mono ?_
      clear hR
      rintro e w3 ⟨hb, u, rfl, hu⟩
      have hb3 := hb2.trans (hb.mono hb2.size)
      have ru := Reads32.of_own hu
      have rv := rv.below hb
      clear hu
      go_wp2_with fail
      refine (hM w3 hb3).mono ?_
      clear hM
      rintro e w4 ⟨rfl, hb⟩
      have hb4 := hb3.trans (hb.mono hb3.size)
      have ru := ru.below hb
      have rv := rv.below hb
      go_wp2_with fail
      refine (hL w4 hb4).mono ?_
      clear hL
      rintro e w5 ⟨rfl, hb⟩
      have hb5 := hb4.trans (hb.mono hb4.size)
      have ru := ru.below hb
      have rv := rv.below hb
      go_wp2_with fail
      refine (hRL w5).mono ?_
      clear hRL
      rintro e w6 ⟨rfl, hb⟩
      have hb6 := hb5.trans (hb.mono hb5.size)
      have ru := ru.below hb
      have rv := rv.below hb
      have hSame := same_any v u rs rs (by omega) (by omega) w6 rv ru
      rw [decide_eq_true rfl] at hSame
      go_wp2_with fail
      refine hSame.mono ?_
      rintro e w7 ⟨rfl, hb⟩
      go_wp2
      go_ret
      exact ⟨rfl, hb6.trans (hb.mono hb6.size)⟩
end Go.Proofs.YtbaofbbikdbppaaDoor
