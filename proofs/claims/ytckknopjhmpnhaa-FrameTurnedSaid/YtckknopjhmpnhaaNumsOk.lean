/- What was put is read again: Num, Int, Text where what stands next is right. -/
import Derived.Test.YtckknopjhmpnhaaNumsPut
import Derived.Test.YtckknopjhmpnhaaNumsText
namespace Go.Proofs.Ytckknopjhmpnhaa
open Go.RowKit Go.Shelf

theorem bytes_ext {a : ByteArray} {l : List UInt8} (h : a.data.toList = l) : a = ⟨l.toArray⟩ := by
  apply ByteArray.ext
  apply Array.toList_inj.1
  rw [h]
theorem extract_rest {s : ByteArray} {a r : List UInt8} (h : s.data.toList = a ++ r) : s.extract a.length s.size = ⟨r.toArray⟩ := by
  have hs := Lib.size_eq s
  rw [h, List.length_append] at hs
  apply bytes_ext
  rw [Lib.extract_data, h, List.drop_left, List.take_of_length_le (by omega)]
theorem extract_head {s : ByteArray} {a r : List UInt8} (h : s.data.toList = a ++ r) : s.extract 0 a.length = ⟨a.toArray⟩ := by
  apply bytes_ext
  rw [Lib.extract_data, h, List.drop_zero, Nat.sub_zero, List.take_left]

theorem num_ok (B : Nat) (s : ByteArray) (n most : Nat) (r : List UInt8) (hl : s.data.toList = Lib.uvarint n ++ r) (hn : n < 18446744073709551616) (hm : n ≤ most) (w : World) (h : Rd B s 0 w) (hs : s.size ≤ 1000000000) :
    Calls Try.prog 39 #[.pointer (some ⟨B, 0, none⟩), .int .u64 most] w fun e w' => e = .returned (.int .u64 n) ∧ Rd B ⟨r.toArray⟩ 0 w' ∧ Keep (fun k => k = B) w.heap.size w w' := by
  refine (num_any B s most w h hs).mono ?_
  have ht := takeL_put hn hm r
  rw [← hl] at ht
  rintro e w' (⟨c, hc, _⟩ | ⟨n', k, hk, rfl, hr, hp⟩)
  · rw [ht] at hc; cases hc
  · rw [ht] at hk
    cases hk
    rw [extract_rest hl] at hr
    exact ⟨rfl, hr, hp⟩
theorem text_ok (B : Nat) (s : ByteArray) (x r : List UInt8) (hl : s.data.toList = rowL x ++ r) (most : Int) (hm : (x.length : Int) ≤ most) (hm1 : most ≤ 9223372036854775807) (w : World) (h : Rd B s 0 w) (hs : s.size ≤ 1000000000) :
    Calls Try.prog 43 #[.pointer (some ⟨B, 0, none⟩), .int .i64 most] w fun e w' => e = .returned (.string ⟨x.toArray⟩) ∧ Rd B ⟨r.toArray⟩ 0 w' ∧ Keep (fun k => k = B) w.heap.size w w' := by
  obtain ⟨M, rfl⟩ := Int.eq_ofNat_of_zero_le (show 0 ≤ most by omega)
  refine (text_any B s M M (by omega) (by omega) w h hs).mono ?_
  unfold rowL at hl
  rw [List.append_assoc] at hl
  have hsz := Lib.size_eq s
  rw [hl, List.length_append, List.length_append] at hsz
  have ht := takeL_put (n := x.length) (most := M) (by omega) (by omega) (x ++ r)
  have htt : textL s.data.toList M = .ok (x.length, (Lib.uvarint x.length).length) := by
    unfold textL
    rw [hl, ht]
    simp only
    rw [if_neg (by rw [List.length_append, List.length_append]; omega)]
  rintro e w' (⟨c, hc, _⟩ | ⟨n', k, hk, rfl, hr, hp⟩)
  · rw [htt] at hc; cases hc
  · rw [htt] at hk
    cases hk
    rw [extract_rest hl] at hr ⊢
    rw [extract_rest (s := ⟨(x ++ r).toArray⟩) (a := x) (r := r) (by simp)] at hr
    rw [extract_head (s := ⟨(x ++ r).toArray⟩) (a := x) (r := r) (by simp)]
    exact ⟨rfl, hr, hp⟩
end Go.Proofs.Ytckknopjhmpnhaa
