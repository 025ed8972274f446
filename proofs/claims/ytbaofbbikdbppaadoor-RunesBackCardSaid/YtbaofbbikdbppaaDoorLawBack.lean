/- RunesBack: the law's walk. -/
import Derived.Test.YtbaofbbikdbppaaDoorAlive
import Derived.Test.YtbaofbbikdbppaaDoorSplit
import Derived.Test.YtbaofbbikdbppaaDoorJoin
namespace Go.Proofs.YtbaofbbikdbppaaDoor
open Go.RowKit Go.Shelf

theorem bytes_of_list {s : ByteArray} {l : List UInt8} (h : s.data.toList = l) : (⟨l.toArray⟩ : ByteArray) = s := by
  apply ByteArray.ext
  apply Array.toList_inj.1
  rw [h]
theorem slice_of_own' {W : World} {base : Nat} {e : TypeId} {v : Value} {rs : List Int} {l : List Value} (h : W.ownsRow base e 1 v rs.length l) : ∃ ao cap, v = .slice ao rs.length cap := by
  rcases h.2 with ⟨hv, h0⟩ | ⟨g, cap, cur, hv, _, _, h1, h2, _⟩
  · exact ⟨none, 0, by rw [hv, h0]⟩
  · exact ⟨_, _, hv⟩

set_option maxRecDepth 100000 in
set_option maxHeartbeats 2000000 in
theorem lawBack_any (s : ByteArray) (a : Int) (w : World) (hs : s.size ≤ maxLen) (hT : Lib.Utf8Tabs 0 1 w) :
    Calls Tryd.prog 6 #[.string s, .int .i64 a] w fun e W' => e = .returned (.bool true) ∧ Below w.heap.size w W' := by
  unfold maxLen at hs
  have hA := alive_any w hT
  by_cases h1 : 2000 < s.size
  · go_enter Tryd.func6, Tryd.ntmps6
    go_wp2_with (go_at_call 9; refine hA.mono ?_; clear hA; rintro e w1 ⟨rfl, hb⟩)
    go_ret
    exact ⟨rfl, hb⟩
  · have hs2 : s.size ≤ 2000 := by omega
    clear h1
    cases hr : runesL s.data.toList with
    | none =>
      have hS := fun w1 (h : Below w.heap.size w w1) => split_none s (by omega) w1 (Utf8Tabs_below hT h) hr
      clear hr
      go_enter Tryd.func6, Tryd.ntmps6
      go_wp2_with fail
      refine hA.mono ?_
      clear hA
      rintro e w1 ⟨rfl, hb1⟩
      go_wp2_with fail
      refine (hS w1 hb1).mono ?_
      clear hS
      rintro e w2 ⟨rfl, hb⟩
      have hb2 := hb1.trans (hb.mono hb1.size)
      go_wp2
      go_ret
      exact ⟨rfl, hb2⟩
    | some rs =>
      obtain ⟨hj, hv⟩ := runesL_join hr
      have hlen : rs.length ≤ 2000 := by
        have := runes_le hr
        rw [← Lib.size_eq] at this
        omega
      have hS := fun w1 (h : Below w.heap.size w w1) => split_some s (by omega) w1 (Utf8Tabs_below hT h) rs hr
      have hJ := fun v w1 (h : Reads32 w1 v rs) => join_any v rs (by omega) w1 h
      have Hall := Lib.hid (allValid_iff.2 hv)
      have Hst := Lib.hid (bytes_of_list hj)
      have hq : (joinL rs == s.toList) = true := by rw [Lib.toList_data]; exact beq_iff_eq.2 hj.symm
      have hq2 : (!joinL rs == s.toList) = false := by rw [hq]; rfl
      by_cases hio : a < 0 ∨ (rs.length : Int) < a
      · have hC := fun w1 (h : Below w.heap.size w w1) => cut_out s (by omega) 0 a w1 (Utf8Tabs_below hT h) rs hr (by omega)
        clear hr hj hv
        have hio' : a < 0 ∨ (0 ≤ a ∧ (rs.length : Int) < a) := by omega
        clear hio
        rcases hio' with h1 | ⟨h1, h2⟩
        all_goals
          go_enter Tryd.func6, Tryd.ntmps6
          go_wp2_with fail
          refine hA.mono ?_
          clear hA
          rintro e w1 ⟨rfl, hb1⟩
          go_wp2_with fail
          refine (hS w1 hb1).mono ?_
          clear hS
          rintro e w2 ⟨v, rfl, hv, hb⟩
          have hb2 := hb1.trans (hb.mono hb1.size)
          have rv := Reads32.of_own hv
          obtain ⟨ao, cap, rfl⟩ := slice_of_own' hv
          clear hv
          go_wp2_with fail
          refine (hJ _ w2 rv).mono ?_
          clear hJ
          rintro e w3 ⟨he, hb⟩
          rw [if_pos Hall.out] at he
          subst he
          have hb3 := hb2.trans (hb.mono hb2.size)
          go_wp2_with fail
          refine (hC w3 hb3).mono ?_
          clear hC
          rintro e w4 ⟨rfl, hb⟩
          have hb4 := hb3.trans (hb.mono hb3.size)
          go_wp2
          go_ret
          exact ⟨rfl, hb4⟩
      · obtain ⟨k, rfl⟩ : ∃ k : Nat, a = k := ⟨a.toNat, by omega⟩
        have hk : k ≤ rs.length := by omega
        have hC1 := fun w1 (h : Below w.heap.size w w1) => cut_in s (by omega) 0 k w1 (Utf8Tabs_below hT h) rs hr (by omega) (by omega)
        have hC2 := fun w1 (h : Below w.heap.size w w1) => cut_in s (by omega) k (rs.length - k) w1 (Utf8Tabs_below hT h) rs hr hk (Nat.le_refl _)
        rw [List.drop_zero] at hC1
        rw [List.take_of_length_le (by rw [List.length_drop]; omega)] at hC2
        have hja : (joinL (rs.take k)).length ≤ 2000 := by
          have : s.data.toList.length = (joinL (rs.take k)).length + (joinL (rs.drop k)).length := by
            rw [← List.length_append, ← joinL_append, List.take_append_drop]
            exact congrArg List.length hj
          rw [← Lib.size_eq] at this
          omega
        have hjb : (joinL (rs.drop k)).length ≤ 2000 := by
          have : s.data.toList.length = (joinL (rs.take k)).length + (joinL (rs.drop k)).length := by
            rw [← List.length_append, ← joinL_append, List.take_append_drop]
            exact congrArg List.length hj
          rw [← Lib.size_eq] at this
          omega
        have hL := fun w1 (h : Below w.heap.size w w1) => len_any ⟨(joinL (rs.take k)).toArray⟩ (by unfold maxLen; rw [Lib.size_eq]; show (joinL (rs.take k)).length ≤ _; omega) w1 (Utf8Tabs_below hT h)
        rw [show lenL (⟨(joinL (rs.take k)).toArray⟩ : ByteArray).data.toList = (k : Int) by
          rw [lenL_some (rs := rs.take k) (runesL_split (fun r h => hv r (List.mem_of_mem_take h))), List.length_take]
          omega] at hL
        have hcast : ((rs.length - k : Nat) : Int) = (rs.length : Int) - (k : Int) := by omega
        rw [hcast] at hC2
        have hjj : joinL (rs.take k) ++ joinL (rs.drop k) = s.data.toList := by rw [← joinL_append, List.take_append_drop]; exact hj.symm
        have Hjj := Lib.hid hjj
        have hk1 : (0 : Int) ≤ (k : Int) := by omega
        have hk2 : (k : Int) ≤ (rs.length : Int) := by omega
        clear hr hj hv hcast hjj hio
        go_enter Tryd.func6, Tryd.ntmps6
        go_wp2_with fail
        refine hA.mono ?_
        clear hA
        rintro e w1 ⟨rfl, hb1⟩
        go_wp2_with fail
        refine (hS w1 hb1).mono ?_
        clear hS
        rintro e w2 ⟨v, rfl, hv, hb⟩
        have hb2 := hb1.trans (hb.mono hb1.size)
        have rv := Reads32.of_own hv
        obtain ⟨ao, cap, rfl⟩ := slice_of_own' hv
        clear hv
        go_wp2_with fail
        refine (hJ _ w2 rv).mono ?_
        clear hJ
        rintro e w3 ⟨he, hb⟩
        rw [if_pos Hall.out] at he
        subst he
        have hb3 := hb2.trans (hb.mono hb2.size)
        go_wp2_with fail
        refine (hC1 w3 hb3).mono ?_
        clear hC1
        rintro e w4 ⟨rfl, hb⟩
        have hb4 := hb3.trans (hb.mono hb3.size)
        go_wp2_with fail
        refine (hC2 w4 hb4).mono ?_
        clear hC2
        rintro e w5 ⟨rfl, hb⟩
        have hb5 := hb4.trans (hb.mono hb4.size)
        have hcc : ((⟨(joinL (rs.take k)).toArray⟩ : ByteArray) ++ ⟨(joinL (rs.drop k)).toArray⟩) = s := by
          apply ByteArray.ext
          apply Array.toList_inj.1
          simp
          exact Hjj.out
        go_wp2_with fail
        refine (hL w5 hb5).mono ?_
        clear hL
        rintro e w6 ⟨rfl, hb⟩
        have hb6 := hb5.trans (hb.mono hb5.size)
        go_wp2
        go_ret
        exact ⟨rfl, hb6⟩
end Go.Proofs.YtbaofbbikdbppaaDoor
