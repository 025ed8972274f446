/- strings.Cut at a full stop. -/
import Derived.Test.YthbophioohcphaaDoorRefName
import Derived.Test.YthbophioohcphaaDoorShelf
import Derived.Lib.IndexLaws
namespace Go.Proofs.YthbophioohcphaaDoor
open Go.RowKit

/-- What Cut tells of a text and a full stop. -/
def CutPost (s : ByteArray) (w : World) (e : Ending) (w' : World) : Prop :=
  (((∀ x ∈ s.data.toList, x ≠ 46) ∧ e = .returned (.tuple #[.string s, .string ⟨#[]⟩, .bool false])) ∨
    (∃ a b : ByteArray, s.data.toList = a.data.toList ++ (46 :: b.data.toList) ∧ (∀ x ∈ a.data.toList, x ≠ 46) ∧ e = .returned (.tuple #[.string a, .string b, .bool true]))) ∧ Below w.heap.size w w'
theorem CutPost.none {s : ByteArray} {w w' : World} (h : ∀ x ∈ s.data.toList, x ≠ 46) (hb : Below w.heap.size w w') : CutPost s w (.returned (.tuple #[.string s, .string ⟨#[]⟩, .bool false])) w' := ⟨.inl ⟨h, rfl⟩, hb⟩
theorem CutPost.some {s a b : ByteArray} {w w' : World} (h : s.data.toList = a.data.toList ++ (46 :: b.data.toList)) (ha : ∀ x ∈ a.data.toList, x ≠ 46) (hb : Below w.heap.size w w') : CutPost s w (.returned (.tuple #[.string a, .string b, .bool true])) w' := ⟨.inr ⟨a, b, h, ha, rfl⟩, hb⟩
theorem extract_list (s : ByteArray) (a b : Nat) : (s.extract a b).data.toList = (s.data.toList.take b).drop a := by
  simp [ByteArray.data_extract, Array.toList_extract, List.drop_take, List.extract_eq_take_drop]
set_option maxRecDepth 100000 in
set_option maxHeartbeats 4000000 in
theorem cut_in (s : ByteArray) (w : World) (hs : s.size ≤ 1000000) :
    Calls Tryd.prog 46 #[.string s, .string ⟨#[46]⟩] w (CutPost s w) := by
  have hI := Tryd.stringslite_Index_one s 46 w
  have hge := Lib.indexByte_ge s.data.toList 46
  have hz : (⟨#[46]⟩ : ByteArray).size = 1 := rfl
  rcases Int.lt_or_le (Lib.indexByte s.data.toList 46) 0 with hneg | hpos
  · have hn1 : Lib.indexByte s.data.toList 46 = -1 := by omega
    have HN := Lib.hid (show ∀ x ∈ s.data.toList, x ≠ 46 from fun x hx e => by
      obtain ⟨k, hk, he⟩ := List.mem_iff_getElem.1 hx
      exact Lib.indexByte_none hn1 k (by rw [List.getElem?_eq_getElem hk, he, e]))
    rw [hn1] at hI
    clear hge hneg hn1
    go_enter Tryd.func46, Tryd.ntmps46
    go_wp2_with fail
    refine hI.mono ?_
    clear hI
    rintro e _ ⟨rfl, rfl⟩
    go_wp2
    go_ret3
    exact CutPost.none HN.out (Below.refl _ _)
  · obtain ⟨o, ho⟩ := Int.eq_ofNat_of_zero_le hpos
    obtain ⟨h1, h2⟩ := Lib.indexByte_some ho
    have hol : o < s.data.toList.length := by
      rcases Nat.lt_or_ge o s.data.toList.length with g | g
      · exact g
      · rw [List.getElem?_eq_none g] at h1; cases h1
    have hos : o < s.size := by rw [Lib.size_eq]; exact hol
    have HC := Lib.hid (show s.data.toList = (s.extract 0 o).data.toList ++ (46 :: (s.extract (o + 1) s.size).data.toList) by
      have e1 : s.data.toList.take s.size = s.data.toList := List.take_of_length_le (by rw [Lib.size_eq]; exact Nat.le_refl _)
      rw [extract_list, extract_list, List.drop_zero, e1]
      have h3 : s.data.toList[o] = 46 := by rw [List.getElem?_eq_getElem hol] at h1; exact Option.some.inj h1
      rw [← h3, List.getElem_cons_drop, List.take_append_drop])
    have HA := Lib.hid (show ∀ x ∈ (s.extract 0 o).data.toList, x ≠ 46 from fun x hx e => by
      rw [extract_list, List.drop_zero] at hx
      obtain ⟨k, hk, he⟩ := List.mem_iff_getElem.1 hx
      have hk' := hk
      rw [List.length_take] at hk'
      refine h2 k (by omega) ?_
      rw [List.getElem?_eq_getElem (by omega)]
      rw [List.getElem_take] at he
      rw [he, e])
    rw [ho] at hI
    have i1 : IntKind.i64.wrap ((o : Int) + 1) = (o : Int) + 1 := by simp only [IntKind.wrap_i64]; omega
    have i2 : (0 : Int) ≤ (o : Int) + 1 ∧ (o : Int) + 1 ≤ (s.size : Int) := ⟨by omega, by omega⟩
    have i3 : (o : Int) ≤ (s.size : Int) := by omega
    clear hge ho h1 h2 hol hpos
    go_enter Tryd.func46, Tryd.ntmps46
    go_wp2_with fail
    refine hI.mono ?_
    clear hI
    rintro e _ ⟨rfl, rfl⟩
    go_wp2_with fail
    go_quiet (fail)
    go_wp2
    go_ret3
    exact CutPost.some HC.out HA.out (below_draws (Below.refl _ _) _)
set_option maxRecDepth 100000 in
set_option maxHeartbeats 4000000 in
theorem cut_any (s : ByteArray) (w : World) (hs : s.size ≤ 1000000) :
    Calls Tryd.prog 36 #[.string s, .string ⟨#[46]⟩] w (CutPost s w) := by
  have hI := cut_in s w hs
  go_enter Tryd.func36, Tryd.ntmps36
  go_wp2_with fail
  refine hI.mono ?_
  clear hI
  rintro e w2 ⟨⟨h, rfl⟩ | ⟨a, b, h, ha, rfl⟩, hb⟩
  · have H := Lib.hid h
    clear h
    go_wp2
    go_ret3
    exact CutPost.none H.out hb
  · have H := Lib.hid h
    have HA := Lib.hid ha
    clear h ha
    go_wp2
    go_ret3
    exact CutPost.some H.out HA.out hb
end Go.Proofs.YthbophioohcphaaDoor
