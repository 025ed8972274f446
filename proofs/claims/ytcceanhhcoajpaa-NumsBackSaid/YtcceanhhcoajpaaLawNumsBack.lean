/- NumsBack: the law's walk. -/
import Derived.Test.YtcceanhhcoajpaaNumsAlive
import Derived.Test.YtcceanhhcoajpaaNumsOk
import Derived.Deep.RegionHeld
namespace Go.Proofs.Ytcceanhhcoajpaa
open Go.RowKit Go.Shelf

set_option maxRecDepth 100000 in
set_option maxHeartbeats 8000000 in
theorem lawNumsBack_any (n m : Int) (s t : ByteArray) (w : World) (hn0 : 0 ≤ n) (hn1 : n < 18446744073709551616) (hm0 : -9223372036854775808 ≤ m) (hm1 : m ≤ 9223372036854775807) (hs : s.size ≤ maxLen) (ht : t.size ≤ maxLen) :
    Calls Try.prog 4 #[.int .u64 n, .int .i64 m, .agg #[.string s, .string t]] w fun e W' => e = .returned (.bool true) ∧ Below w.heap.size w W' := by
  unfold maxLen at hs ht
  obtain ⟨k, rfl⟩ := Int.eq_ofNat_of_zero_le hn0
  have hA := nalive_any (w.alloc (.cells #[.string s, .string t] 28))
  have hbx := (Below.refl w.heap.size w).alloc (Nat.le_refl _) (.cells #[.string s, .string t] 28)
  have x0 : (w.alloc (.cells #[.string s, .string t] 28)).cell? ⟨w.heap.size, 0, none⟩ = some (.string s) := by rw [World.cell?_alloc_mark]; rfl
  have x1 : (w.alloc (.cells #[.string s, .string t] 28)).cell? ⟨w.heap.size, 1, none⟩ = some (.string t) := by rw [World.cell?_alloc_mark]; rfl
  by_cases h1 : 1000 < s.size
  · clear hn0 hn1 hm0 hm1
    go_enter Try.func4, Try.ntmps4
    go_wp2_with fail
    refine hA.mono ?_
    clear hA
    rintro e w1 ⟨rfl, hb1⟩
    replace x0 := cell_below x0 hb1
    replace x1 := cell_below x1 hb1
    replace hbx := hbx.trans (hb1.mono hbx.size)
    clear hb1
    go_wp2
    go_ret
    exact ⟨rfl, hbx⟩
  by_cases h2 : 1000 < t.size
  · clear hn0 hn1 hm0 hm1
    go_enter Try.func4, Try.ntmps4
    go_wp2_with fail
    refine hA.mono ?_
    clear hA
    rintro e w1 ⟨rfl, hb1⟩
    replace x0 := cell_below x0 hb1
    replace x1 := cell_below x1 hb1
    replace hbx := hbx.trans (hb1.mono hbx.size)
    clear hb1
    go_wp2
    go_ret
    exact ⟨rfl, hbx⟩
  have hs2 : s.size ≤ 1000 := by omega
  have ht2 : t.size ≤ 1000 := by omega
  have p1 := fun w => put_any k (by omega) w
  have p2 := fun w => putInt_any m hm0 hm1 w
  have p3 := fun w => putText_any s (by omega) w
  have g1 := Lib.uvarint_length64 (x := k) (by omega)
  have g2 := Lib.uvarint_length64 (zig_lt hm0 hm1)
  have g3 : (rowL s.data.toList).length ≤ 1010 := by
    unfold rowL
    rw [List.length_append, ← Lib.size_eq]
    have := Lib.uvarint_length64 (x := s.size) (by omega)
    omega
  obtain ⟨l1, hl1⟩ : ∃ l, Lib.uvarint k = l := ⟨_, rfl⟩
  obtain ⟨l2, hl2⟩ : ∃ l, Lib.uvarint (Lib.zigzag m) = l := ⟨_, rfl⟩
  obtain ⟨l3, hl3⟩ : ∃ l, rowL s.data.toList = l := ⟨_, rfl⟩
  rw [hl1] at p1 g1
  rw [hl2] at p2 g2
  rw [hl3] at p3 g3
  have hXl : ((⟨l1.toArray⟩ ++ ⟨l2.toArray⟩ ++ ⟨l3.toArray⟩ ++ t : ByteArray)).data.toList = l1 ++ (l2 ++ (l3 ++ t.data.toList)) := by simp
  have hXs : ((⟨l1.toArray⟩ ++ ⟨l2.toArray⟩ ++ ⟨l3.toArray⟩ ++ t : ByteArray)).size ≤ 1000000000 := by
    rw [Lib.size_eq, hXl, List.length_append, List.length_append, List.length_append, ← Lib.size_eq]
    omega
  have p4 := fun w => read_any (⟨l1.toArray⟩ ++ ⟨l2.toArray⟩ ++ ⟨l3.toArray⟩ ++ t) w hXs
  have HXl := Lib.hid hXl
  have HXs := Lib.hid hXs
  clear hXl hXs
  have Hn := Lib.hid (show k < 18446744073709551616 by omega)
  have Hm0 := Lib.hid hm0
  have Hm1 := Lib.hid hm1
  have Hl1 := Lib.hid hl1
  have Hl2 := Lib.hid hl2
  have Hl3 := Lib.hid hl3
  clear h1 h2 hn0 hn1 hm0 hm1 hl1 hl2 hl3
  go_enter Try.func4, Try.ntmps4
  go_wp2_with fail
  refine hA.mono ?_
  clear hA
  rintro e w1 ⟨rfl, hb1⟩
  replace x0 := cell_below x0 hb1
  replace x1 := cell_below x1 hb1
  replace hbx := hbx.trans (hb1.mono hbx.size)
  clear hb1
  go_wp2
  go_region_held (fun W => W.cell? ⟨w.heap.size, 0, none⟩ = some (.string s) ∧ W.cell? ⟨w.heap.size, 1, none⟩ = some (.string t)) (first | exact ⟨y0, y1⟩ | exact ⟨x0, x1⟩ | assumption) (first
    | (go_at_call 7; refine (p1 _).mono ?_; clear p1; rintro e w2 ⟨rfl, hb2⟩; have y0 := cb hb2 x0; have y1 := cb hb2 x1)
    | (go_at_call 9; refine (p2 _).mono ?_; clear p2; rintro e w3 ⟨rfl, hb3⟩; replace y0 := cb hb3 y0; replace y1 := cb hb3 y1)
    | (go_at_call 11; refine (p3 _).mono ?_; clear p3; rintro e w4 ⟨rfl, hb4⟩; replace y0 := cb hb4 y0; replace y1 := cb hb4 y1)
    | (go_at_call 13; refine (p4 _).mono ?_; clear p4; rintro e w5 ⟨B, rfl, hB, hr, hb5⟩; replace y0 := cb hb5 y0; replace y1 := cb hb5 y1))
  all_goals
    have hlt := cell_lt (cb hb4 (cb hb3 (cb hb2 x0)))
    have hbw : Below w.heap.size w w5 := by
      have a1 : Below w.heap.size w w1.drew := ⟨hbx.os, hbx.tape, hbx.output, hbx.size, hbx.block⟩
      have a2 := a1.trans (hb2.mono a1.size)
      have a3 := a2.trans (hb3.mono a2.size)
      have a4 := a3.trans (hb4.mono a3.size)
      exact a4.trans (hb5.mono a4.size)
    have hne : w.heap.size ≠ B := by have : w.heap.size < w4.heap.size := hlt; omega
    have hle : w.heap.size ≤ B := by have : w.heap.size < w4.heap.size := hlt; omega
    have c1 := fun W (h : Rd B _ 0 W) => num_ok B (⟨l1.toArray⟩ ++ ⟨l2.toArray⟩ ++ ⟨l3.toArray⟩ ++ t) k k (l2 ++ (l3 ++ t.data.toList)) (by rw [HXl.out, Hl1.out]) Hn.out (Nat.le_refl _) W h HXs.out
    have hz2 : (⟨(l2 ++ (l3 ++ t.data.toList)).toArray⟩ : ByteArray).size ≤ 1000000000 := by
      rw [Lib.size_eq]
      simp only [List.length_append, ← Lib.size_eq]
      omega
    have hz3 : (⟨(l3 ++ t.data.toList).toArray⟩ : ByteArray).size ≤ 1000000000 := by
      rw [Lib.size_eq]
      simp only [List.length_append, ← Lib.size_eq]
      omega
    have c2 := fun W (h : Rd B _ 0 W) => int_ok B (⟨(l2 ++ (l3 ++ t.data.toList)).toArray⟩) m (l3 ++ t.data.toList) (by rw [Hl2.out]) Hm0.out Hm1.out W h hz2
    have c3 := fun W (h : Rd B _ 0 W) => text_ok B (⟨(l3 ++ t.data.toList).toArray⟩) s.data.toList t.data.toList (by rw [Hl3.out]) s.size (by rw [← Lib.size_eq]; omega) (by omega) W h hz3
    have es : (⟨s.data.toList.toArray⟩ : ByteArray) = s := (bytes_ext rfl).symm
    have et : (⟨t.data.toList.toArray⟩ : ByteArray) = t := (bytes_ext rfl).symm
    rw [es, et] at c3
    have c4 := fun W (h : Rd B t 0 W) => left_any B t 0 W h
    have c5 := fun W (h : Rd B t 0 W) => fault_any B t 0 W h
    clear x0 x1 hbx hb2 hb3 hb4 hb5 hz2 hz3 es et hB hlt
    generalize (⟨l1.toArray⟩ ++ ⟨l2.toArray⟩ ++ ⟨l3.toArray⟩ ++ t : ByteArray) = X at *
    generalize (⟨(l2 ++ (l3 ++ t.data.toList)).toArray⟩ : ByteArray) = X2 at *
    generalize (⟨(l3 ++ t.data.toList).toArray⟩ : ByteArray) = X3 at *
    go_wp2
    go_region_held (fun W => W.cell? ⟨w.heap.size, 0, none⟩ = some (.string s) ∧ W.cell? ⟨w.heap.size, 1, none⟩ = some (.string t)) (first | exact ⟨y0, y1⟩ | assumption) (first
      | (go_at_call 14; refine (c1 _ (by exact hr)).mono ?_; clear c1; rintro e w6 ⟨rfl, hr6, hk6⟩; replace y0 := ck hk6 hne y0; replace y1 := ck hk6 hne y1)
      | (go_at_call 15; refine (c2 _ hr6).mono ?_; clear c2; rintro e w7 ⟨rfl, hr7, hk7⟩; replace y0 := ck hk7 hne y0; replace y1 := ck hk7 hne y1)
      | (go_at_call 16; refine (c3 _ hr7).mono ?_; clear c3; rintro e w8 ⟨rfl, hr8, hk8⟩; replace y0 := ck hk8 hne y0; replace y1 := ck hk8 hne y1)
      | (go_at_call 17; refine (c4 _ hr8).mono ?_; clear c4; rintro e _ ⟨rfl, rfl⟩)
      | (go_at_call 18; refine (c5 _ hr8).mono ?_; clear c5; rintro e _ ⟨rfl, rfl⟩))
    all_goals
      have b5 : Below w.heap.size w w5.drew := ⟨hbw.os, hbw.tape, hbw.output, hbw.size, hbw.block⟩
      have b6 := b5.trans (hk6.below (M := w.heap.size) b5.size (fun j hj => by omega))
      have b7 := b6.trans (hk7.below (M := w.heap.size) b6.size (fun j hj => by omega))
      have b8 := b7.trans (hk8.below (M := w.heap.size) b7.size (fun j hj => by omega))
      clear hk6 hk7 hk8 b5 b6 b7 hbw
      go_wp2
      go_ret
      exact ⟨rfl, b8⟩
end Go.Proofs.Ytcceanhhcoajpaa
