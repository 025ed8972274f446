/- Put, PutInt, PutText: the program's and the document's. -/
import Derived.Test.YtnlajfdgpdijjaaNumsPlain
import Derived.Test.YtnlajfdgpdijjaaWriteByte
import Derived.WalkSpells
import Derived.WalkLawsBesides
import Derived.Lib.Hide
import Derived.BigCall
namespace Go.Proofs.Ytnlajfdgpdijjaa
open Go.RowKit Go.Shelf
open Go.Lib (uvarint uvarint_length64 uvarint_small uvarint_big uvarint_pos toUInt8_toNat zigzag)

set_option maxRecDepth 100000 in
set_option maxHeartbeats 2000000 in
theorem put_any (n : Nat) (hn : n < 18446744073709551616) (w : World) :
    Calls Try.prog 116 #[.int .u64 n] w fun e w' => e = .returned (.string ⟨(uvarint n).toArray⟩) ∧ Below w.heap.size w w' := by
  have h10 := uvarint_length64 hn
  obtain ⟨l, hl⟩ : ∃ l, uvarint n = l := ⟨_, rfl⟩
  rw [hl] at h10 ⊢
  have Hl := Lib.hid hl
  clear hl
  go_enter Try.func116, Try.ntmps116
  go_wp2
  go_loopw [0] (fun v wr => ∃ (m : Nat) (done : List UInt8), v = .int .u64 m ∧ m < 18446744073709551616 ∧ done ++ uvarint m = l ∧ Lib.IsBuilderF 102 5 w.heap.size w.heap.size (Lib.byteCells done) wr ∧ Below w.heap.size w wr) (fun v _ => (intOf v).toNat)
  case atStart => exact ⟨n, [], rfl, hn, Hl.out, Lib.IsBuilderF.of (Lib.fresh_isBuilder _ _ w), (Below.refl _ w).alloc (Nat.le_refl _) _⟩
  case round =>
    rename_i wr
    obtain ⟨m, done, rfl, hm, hd, hI, hb⟩ := hrel
    have hlen : done.length ≤ 10 := by rw [← hd, List.length_append] at h10; omega
    have hW := fun c => writeByte_k w.heap.size w.heap.size (Lib.byteCells done) c wr hI (by rw [Lib.byteCells_length]; omega) hb.size
    have hbig : 128 ≤ m → (∃ d : Nat, d < 256 ∧ ((m : Int) % 128 + 128) = d ∧ done ++ [d.toUInt8] ++ uvarint (m / 128) = l) := fun h => ⟨m % 128 + 128, by omega, by omega, by rw [← hd, uvarint_big h]; simp⟩
    have hsml : m < 128 → done ++ [m.toUInt8] = l := fun h => by rw [← hd, uvarint_small h]
    have hdn : done.length ≤ 10 := hlen
    clear hd
    rcases Nat.lt_or_ge m 128 with hlt | hge
    · have h1 := Lib.hid (hsml hlt)
      clear hsml hbig
      have hE := Lib.byteCells_snoc done (show m < 256 by omega)
      rw [h1.out] at hE
      have HE := Lib.hid hE
      clear hE
      go_wp2_with (go_at_call 118; refine (hW _).mono ?_; clear hW; rintro e w1 ⟨rfl, hI1, hb1⟩)
      rw [← HE.out] at hI1
      refine (Try.Builder_String_any_f w.heap.size w.heap.size l w1 (.inr hI1) (by have := hb.size; have := hb1.size; omega)).mono ?_
      rintro e w2 ⟨rfl, _, hb2⟩
      go_wp2
      go_ret
      exact ⟨rfl, (hb.trans hb1).trans hb2⟩
    · obtain ⟨d, hd1, hd2, hd3⟩ := hbig hge
      have Hd3 := Lib.hid hd3
      have hE := Lib.byteCells_snoc done hd1
      have HE := Lib.hid hE
      clear hsml hbig hd3 hE
      go_wp2_with (go_at_call 118; refine (hW _).mono ?_; clear hW; rintro e w1 ⟨rfl, hI1, hb1⟩)
      rw [← HE.out] at hI1
      exact ⟨⟨m / 128, _, by congr 1, by omega, Hd3.out, .inr hI1, hb.trans hb1⟩, by simp [RowKit.intOf]; omega⟩
set_option maxRecDepth 100000 in
set_option maxHeartbeats 2000000 in
theorem rput_any (n : Nat) (hn : n < 18446744073709551616) (w : World) :
    Calls Try.prog 57 #[.int .u64 n] w fun e w' => e = .returned (.string ⟨(uvarint n).toArray⟩) ∧ Below w.heap.size w w' := by
  obtain ⟨i0, hi, hz0, hz1, hz2⟩ := info_parts infoU8
  have h10 := uvarint_length64 hn
  obtain ⟨l, hl⟩ : ∃ l, uvarint n = l := ⟨_, rfl⟩
  rw [hl] at h10 ⊢
  have Hl := Lib.hid hl
  clear hl
  go_enter Try.func57, Try.ntmps57
  go_wp2
  go_loopw [0, 3] (fun v u wr => ∃ (m : Nat) (done : List UInt8), v = .int .u64 m ∧ m < 18446744073709551616 ∧ done ++ uvarint m = l ∧ wr.ownsRow w.heap.size 5 1 u done.length (Lib.byteCells done) ∧ Below w.heap.size w wr) (fun v _ _ => (intOf v).toNat)
  case atStart => exact ⟨n, [], rfl, hn, Hl.out, World.ownsRow_nil _ _ _ _, Below.refl _ _⟩
  case round =>
    rename_i wr
    obtain ⟨m, done, rfl, hm, hd, hown, hb⟩ := hrel
    have hdn : done.length ≤ 10 := by rw [← hd, List.length_append] at h10; omega
    have hbig : 128 ≤ m → (∃ d : Nat, d < 256 ∧ ((m : Int) % 128 + 128) = d ∧ done ++ [d.toUInt8] ++ uvarint (m / 128) = l) := fun h => ⟨m % 128 + 128, by omega, by omega, by rw [← hd, uvarint_big h]; simp⟩
    have hsml : m < 128 → done ++ [m.toUInt8] = l := fun h => by rw [← hd, uvarint_small h]
    clear hd
    rcases Nat.lt_or_ge m 128 with hlt | hge
    · have h1 := Lib.hid (hsml hlt)
      clear hsml hbig
      have hE := Lib.byteCells_snoc done (show m < 256 by omega)
      rw [h1.out] at hE
      have HE := Lib.hid hE
      clear hE
      go_wp2_with (at_builtin; refine wpList_append_own _ rfl _ _ 100 rfl w.heap.size 5 i0 (.int .u8 0) 1 1 Try.underlying100 hi hz0 hz1 hz2 rfl (by decide) _ _ _ rfl (hown.alloc _) ⟨wr.heap.size, 0, none⟩ 1 1 [.int .u8 (m : Int)] rfl rfl ?c1 ?c2 ?c3 ?c4 ?c5 ?_)
      case c1 =>
        intro j u hj
        match j, hj with
        | 0, hj => simp at hj; subst hj; simp [Addr.add]; omega
      case c2 => intro u hu; simp at hu; subst hu; rfl
      case c3 => unfold maxLen; omega
      case c4 => omega
      case c5 => have := hb.size; simp; omega
      intro v' w2 hown' hgrow _
      have hown2 : w2.ownsRow w.heap.size 5 1 v' l.length (Lib.byteCells l) := by
        rw [HE.out, ← h1.out, List.length_append]
        exact hown'
      have hconv := conv_own hown2
      go_wp2
      go_ret
      exact ⟨rfl, (hb.alloc hb.size _).grown hgrow (by have := hb.size; simp; omega) (fun k hk => (hown.lt k hk).1)⟩
    · obtain ⟨d, hd1, hd2, hd3⟩ := hbig hge
      have Hd3 := Lib.hid hd3
      have hE := Lib.byteCells_snoc done hd1
      have HE := Lib.hid hE
      clear hsml hbig hd3 hE
      go_wp2_with (at_builtin; refine wpList_append_own _ rfl _ _ 100 rfl w.heap.size 5 i0 (.int .u8 0) 1 1 Try.underlying100 hi hz0 hz1 hz2 rfl (by decide) _ _ _ rfl (hown.alloc _) ⟨wr.heap.size, 0, none⟩ 1 1 [.int .u8 (d : Int)] rfl rfl ?c1 ?c2 ?c3 ?c4 ?c5 ?_)
      case c1 =>
        intro j u hj
        match j, hj with
        | 0, hj => simp at hj; subst hj; simp [Addr.add]
      case c2 => intro u hu; simp at hu; subst hu; rfl
      case c3 => unfold maxLen; omega
      case c4 => omega
      case c5 => have := hb.size; simp; omega
      intro v' w2 hown' hgrow _
      go_wp2
      refine ⟨⟨m / 128, _, by congr 1, by omega, Hd3.out, ?_, (hb.alloc hb.size _).grown hgrow (by have := hb.size; simp; omega) (fun k hk => (hown.lt k hk).1)⟩, by simp [RowKit.intOf]; omega⟩
      rw [HE.out, List.length_append]
      exact hown'

/-- The bytes of a row. -/
def rowL (l : List UInt8) : List UInt8 := uvarint l.length ++ l

set_option maxHeartbeats 1000000 in
theorem putText_any (s : ByteArray) (hs : s.size ≤ 1000000000) (w : World) :
    Calls Try.prog 127 #[.string s] w fun e w' => e = .returned (.string ⟨(rowL s.data.toList).toArray⟩) ∧ Below w.heap.size w w' := by
  have hP := put_any s.size (by omega) w
  have h10 := uvarint_length64 (show s.size < 18446744073709551616 by omega)
  have hrow : rowL s.data.toList = uvarint s.size ++ s.data.toList := by unfold rowL; rw [← Lib.size_eq]
  rw [hrow]
  go_enter Try.func127, Try.ntmps127
  go_wp2_with (go_at_call 116; refine hP.mono ?_; clear hP; rintro e w1 ⟨rfl, hb⟩)
  go_ret
  refine ⟨congrArg Ending.returned (congrArg Value.string ?_), hb⟩
  apply ByteArray.ext
  simp

set_option maxHeartbeats 1000000 in
theorem rputText_any (s : ByteArray) (hs : s.size ≤ 1000000000) (w : World) :
    Calls Try.prog 49 #[.string s] w fun e w' => e = .returned (.string ⟨(rowL s.data.toList).toArray⟩) ∧ Below w.heap.size w w' := by
  have hP := rput_any s.size (by omega) w
  have h10 := uvarint_length64 (show s.size < 18446744073709551616 by omega)
  have hrow : rowL s.data.toList = uvarint s.size ++ s.data.toList := by unfold rowL; rw [← Lib.size_eq]
  rw [hrow]
  go_enter Try.func49, Try.ntmps49
  go_wp2_with (go_at_call 57; refine hP.mono ?_; clear hP; rintro e w1 ⟨rfl, hb⟩)
  go_ret
  refine ⟨congrArg Ending.returned (congrArg Value.string ?_), hb⟩
  apply ByteArray.ext
  simp
end Go.Proofs.Ytnlajfdgpdijjaa
