/- Cut: the text of some runes. -/
import Derived.Test.YtbaofbbikdbppaaDoorByteOf
namespace Go.Proofs.YtbaofbbikdbppaaDoor
open Go.RowKit Go.Shelf

set_option maxHeartbeats 400000 in
theorem clone_any (s : ByteArray) (w : World) (hs : s.size ≤ 1000000) :
    Calls Tryd.prog 30 #[.string s] w fun e W' => e = .returned (.string s) ∧ Below w.heap.size w W' := by
  have hC := Tryd.stringslite_Clone s w (by omega)
  go_enter Tryd.func30, Tryd.ntmps30
  go_wp2_with (go_at_call 35; refine hC.mono ?_; rintro e w1 ⟨rfl, hb⟩)
  go_ret
  exact ⟨rfl, hb⟩

set_option maxHeartbeats 400000 in
theorem cut_none (s : ByteArray) (hs : s.size ≤ 1000000) (a b : Int) (w : World) (hT : Lib.Utf8Tabs 0 1 w) (hr : runesL s.data.toList = none) :
    Calls Tryd.prog 18 #[.string s, .int .i64 a, .int .i64 b] w fun e W' => e = .returned (.tuple #[.string ⟨#[]⟩, .int .i64 2]) ∧ Below w.heap.size w W' := by
  have hL := len_any s (by unfold maxLen; omega) w hT
  rw [lenL_none hr] at hL
  clear hr
  go_enter Tryd.func18, Tryd.ntmps18
  go_wp2_with (go_at_call 13; refine hL.mono ?_; clear hL; rintro e w1 ⟨rfl, hb⟩)
  go_ret2
  exact ⟨rfl, hb⟩

set_option maxHeartbeats 400000 in
theorem cut_out (s : ByteArray) (hs : s.size ≤ 1000000) (a b : Int) (w : World) (hT : Lib.Utf8Tabs 0 1 w) (rs : List Int) (hr : runesL s.data.toList = some rs)
    (ho : a < 0 ∨ rs.length < a ∨ b < 0 ∨ rs.length - a < b) :
    Calls Tryd.prog 18 #[.string s, .int .i64 a, .int .i64 b] w fun e W' => e = .returned (.tuple #[.string ⟨#[]⟩, .int .i64 3]) ∧ Below w.heap.size w W' := by
  have hL := len_any s (by unfold maxLen; omega) w hT
  rw [lenL_some hr] at hL
  have hlen : rs.length ≤ s.size := by rw [Lib.size_eq]; exact runes_le hr
  clear hr
  by_cases h1 : a < 0
  · go_enter Tryd.func18, Tryd.ntmps18
    go_wp2_with (go_at_call 13; refine hL.mono ?_; clear hL; rintro e w1 ⟨rfl, hb⟩)
    go_ret2
    exact ⟨rfl, hb⟩
  · have h1' : 0 ≤ a := by omega
    by_cases h2 : (rs.length : Int) < a
    · go_enter Tryd.func18, Tryd.ntmps18
      go_wp2_with (go_at_call 13; refine hL.mono ?_; clear hL; rintro e w1 ⟨rfl, hb⟩)
      go_ret2
      exact ⟨rfl, hb⟩
    · have h2' : a ≤ (rs.length : Int) := by omega
      by_cases h3 : b < 0
      · go_enter Tryd.func18, Tryd.ntmps18
        go_wp2_with (go_at_call 13; refine hL.mono ?_; clear hL; rintro e w1 ⟨rfl, hb⟩)
        go_ret2
        exact ⟨rfl, hb⟩
      · have h3' : 0 ≤ b := by omega
        have h4 : (rs.length : Int) - a < b := by omega
        clear ho h1 h2 h3
        go_enter Tryd.func18, Tryd.ntmps18
        go_wp2_with (go_at_call 13; refine hL.mono ?_; clear hL; rintro e w1 ⟨rfl, hb⟩)
        go_ret2
        exact ⟨rfl, hb⟩

set_option maxHeartbeats 1000000 in
theorem cut_in (s : ByteArray) (hs : s.size ≤ 1000000) (a b : Nat) (w : World) (hT : Lib.Utf8Tabs 0 1 w) (rs : List Int) (hr : runesL s.data.toList = some rs)
    (ha : a ≤ rs.length) (hb : b ≤ rs.length - a) :
    Calls Tryd.prog 18 #[.string s, .int .i64 a, .int .i64 b] w fun e W' => e = .returned (.tuple #[.string ⟨(joinL ((rs.drop a).take b)).toArray⟩, .int .i64 0]) ∧ Below w.heap.size w W' := by
  have hL := len_any s (by unfold maxLen; omega) w hT
  rw [lenL_some hr] at hL
  have hlen : rs.length ≤ s.size := by rw [Lib.size_eq]; exact runes_le hr
  obtain ⟨hj, hv⟩ := runesL_join hr
  have hsplit : s.data.toList = joinL (rs.take a) ++ joinL (rs.drop a) := by rw [← joinL_append, List.take_append_drop]; exact hj
  have hA : (joinL (rs.take a)).length ≤ s.size := by
    rw [Lib.size_eq, hsplit, List.length_append]; omega
  have hB1 := fun w1 (h : Below w.heap.size w w1) => byteOf_any s hs w1 (Utf8Tabs_below hT h) rs hr a ha
  obtain ⟨A, eA⟩ : ∃ A, (joinL (rs.take a)).length = A := ⟨_, rfl⟩
  rw [eA] at hA hB1
  have hrest : (s.extract A s.size).data.toList = joinL (rs.drop a) := by
    rw [Lib.extract_data, List.take_of_length_le (by rw [List.length_drop, ← Lib.size_eq]; omega), hsplit, ← eA, List.drop_left]
  have hrr : runesL (s.extract A s.size).data.toList = some (rs.drop a) := by
    rw [hrest]; exact runesL_split (fun r h => hv r (List.mem_of_mem_drop h))
  have hrs : (s.extract A s.size).size = s.size - A := by simp
  have hB2 := fun w1 (h : Below w.heap.size w w1) => byteOf_any (s.extract A s.size) (by omega) w1 (Utf8Tabs_below hT h) (rs.drop a) hrr b (by rw [List.length_drop]; exact hb)
  obtain ⟨B, eB⟩ : ∃ B, (joinL ((rs.drop a).take b)).length = B := ⟨_, rfl⟩
  rw [eB] at hB2
  have hB : B ≤ s.size - A := by
    rw [← hrs, Lib.size_eq, hrest, ← eB]
    conv => rhs; rw [← List.take_append_drop b (rs.drop a), joinL_append, List.length_append]
    omega
  have hres : (s.extract A s.size).extract 0 B = ⟨(joinL ((rs.drop a).take b)).toArray⟩ := by
    rw [Lib.extract_eq, hrest, List.drop_zero, Nat.sub_zero, ← eB]
    congr 2
    conv => lhs; rw [← List.take_append_drop b (rs.drop a), joinL_append]
    rw [List.take_append_drop, List.take_left]
  have Hres := Lib.hid hres
  have h1 : (a : Int) ≤ rs.length := by omega
  have h2 : (b : Int) ≤ (rs.length : Int) - a := by omega
  have hC := fun w1 => clone_any ((s.extract A s.size).extract 0 B) w1 (by simp; omega)
  clear hres hrest hrr hsplit hj hv eA eB hr hrs
  go_enter Tryd.func18, Tryd.ntmps18
  go_wp2_with (go_at_call 13; refine hL.mono ?_; clear hL; rintro e w1 ⟨rfl, hb1⟩)
  refine (hB1 w1 hb1).mono ?_
  clear hB1
  rintro e w2 ⟨rfl, hb2⟩
  have hb12 := hb1.trans (hb2.mono hb1.size)
  go_wp2_with fail
  refine (hB2 w2 hb12).mono ?_
  clear hB2
  rintro e w3 ⟨rfl, hb3⟩
  have hb13 := hb12.trans (hb3.mono hb12.size)
  go_wp2_with fail
  refine (hC w3).mono ?_
  rintro e w4 ⟨rfl, hb4⟩
  go_wp2
  go_ret2
  exact ⟨by rw [← Hres.out]; rfl, hb13.trans (hb4.mono hb13.size)⟩
end Go.Proofs.YtbaofbbikdbppaaDoor
