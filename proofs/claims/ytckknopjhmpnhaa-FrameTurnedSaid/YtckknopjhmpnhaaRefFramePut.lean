/- The document's frames: Put. -/
import Derived.Test.YtckknopjhmpnhaaRefFrame
import Derived.Test.YtckknopjhmpnhaaCrcRef
import Derived.Test.YtckknopjhmpnhaaCrcSumLt
import Derived.Deep.RegionHeld
namespace Go.Proofs.Ytckknopjhmpnhaa
open Go.RowKit Go.Shelf

theorem cat_bytes (a b : List UInt8) : (⟨a.toArray⟩ : ByteArray) ++ ⟨b.toArray⟩ = ⟨(a ++ b).toArray⟩ := by
  apply ByteArray.ext
  simp
theorem size_bytes (a : List UInt8) : (⟨a.toArray⟩ : ByteArray).size = a.length := by rw [Lib.size_eq]
/-- A frame's value. -/
def frOf (f : Fr) : Value := frV f.kind f.site f.seq f.ack ⟨f.body.toArray⟩
/-- Three bytes, built and made a text: at once, behind a draw, and behind what leaves them alone. -/
theorem conv_three_at {W : World} {B : Nat} {k : UInt8} {t : TypeId} {fr : Nat × Nat} (h : W.heap[B]? = some (.cells #[.int .u8 70, .int .u8 83, .int .u8 (k.toNat : Nat)] t fr)) :
    (convert 42 9 (.slice (some ⟨B, 0, none⟩) 3 3)).run Try.prog W = .ok (.string ⟨[70, 83, k].toArray⟩) W := by
  refine run_convert_bytes_back _ 42 9 5 _ _ [70, 83, k] Try.underlying42 Try.underlying5 Try.underlying9 ?_
  intro j hj
  have e : (⟨B, 0, none⟩ : Addr).add j = ⟨B, j, none⟩ := by simp [Addr.add]; omega
  rw [e, cell_of_row _ _ _ _ _ _ h]
  match j, hj with
  | 0, _ => rfl
  | 1, _ => rfl
  | 2, _ => rfl
theorem conv_three (W : World) (k : UInt8) : (convert 42 9 (.slice (some ⟨W.heap.size, 0, none⟩) 3 3)).run Try.prog (W.alloc (.cells #[.int .u8 70, .int .u8 83, .int .u8 (k.toNat : Nat)] 5)).drew = .ok (.string ⟨[70, 83, k].toArray⟩) (W.alloc (.cells #[.int .u8 70, .int .u8 83, .int .u8 (k.toNat : Nat)] 5)).drew :=
  conv_three_at (W := (W.alloc (.cells #[.int .u8 70, .int .u8 83, .int .u8 (k.toNat : Nat)] 5)).drew) (heap_alloc_new W _)
theorem conv_three_now (W : World) (k : UInt8) : (convert 42 9 (.slice (some ⟨W.heap.size, 0, none⟩) 3 3)).run Try.prog (W.alloc (.cells #[.int .u8 70, .int .u8 83, .int .u8 (k.toNat : Nat)] 5)) = .ok (.string ⟨[70, 83, k].toArray⟩) (W.alloc (.cells #[.int .u8 70, .int .u8 83, .int .u8 (k.toNat : Nat)] 5)) :=
  conv_three_at (heap_alloc_new W _)
theorem conv_three_after {W W' : World} {k : UInt8} (hb : Below (W.alloc (.cells #[.int .u8 70, .int .u8 83, .int .u8 (k.toNat : Nat)] 5)).drew.heap.size (W.alloc (.cells #[.int .u8 70, .int .u8 83, .int .u8 (k.toNat : Nat)] 5)).drew W') :
    (convert 42 9 (.slice (some ⟨W.heap.size, 0, none⟩) 3 3)).run Try.prog W' = .ok (.string ⟨[70, 83, k].toArray⟩) W' := by
  refine conv_three_at (t := 5) (fr := (0, 0)) ?_
  rw [hb.block _ (by show W.heap.size < (W.alloc _).heap.size; simp)]
  exact heap_alloc_new W _
/-- The box of a frame. -/
def FBox (N : Nat) (k s q a : Int) (b : ByteArray) (w W : World) : Prop :=
  W.cell? ⟨N, 0, none⟩ = some (.int .i64 k) ∧ W.cell? ⟨N, 1, none⟩ = some (.int .i64 s) ∧ W.cell? ⟨N, 2, none⟩ = some (.int .i64 q) ∧ W.cell? ⟨N, 3, none⟩ = some (.int .i64 a) ∧ W.cell? ⟨N, 4, none⟩ = some (.string b) ∧ Below N w W
theorem FBox.keep {N : Nat} {k s q a : Int} {b : ByteArray} {w W W' : World} (h : FBox N k s q a b w W) (hb : Below W.heap.size W W') : FBox N k s q a b w W' := by
  obtain ⟨h0, h1, h2, h3, h4, h5⟩ := h
  have hl : N < W.heap.size := World.block_lt_of_cell? W _ h0
  exact ⟨(hb.cell (p := ⟨N, 0, none⟩) hl).trans h0, (hb.cell (p := ⟨N, 1, none⟩) hl).trans h1, (hb.cell (p := ⟨N, 2, none⟩) hl).trans h2, (hb.cell (p := ⟨N, 3, none⟩) hl).trans h3, (hb.cell (p := ⟨N, 4, none⟩) hl).trans h4, h5.trans (hb.mono (Nat.le_of_lt hl))⟩
theorem FBox.drew {N : Nat} {k s q a : Int} {b : ByteArray} {w W : World} (h : FBox N k s q a b w W) : FBox N k s q a b w W.drew := ⟨h.1, h.2.1, h.2.2.1, h.2.2.2.1, h.2.2.2.2.1, h.2.2.2.2.2.drew⟩
theorem FBox.new (k s q a : Int) (b : ByteArray) (w : World) (t : TypeId) : FBox w.heap.size k s q a b w (w.alloc (.cells #[.int .i64 k, .int .i64 s, .int .i64 q, .int .i64 a, .string b] t)) := by
  have h := heap_alloc_new w (.cells #[.int .i64 k, .int .i64 s, .int .i64 q, .int .i64 a, .string b] t)
  exact ⟨cell_of_row _ _ 0 _ _ _ h, cell_of_row _ _ 1 _ _ _ h, cell_of_row _ _ 2 _ _ _ h, cell_of_row _ _ 3 _ _ _ h, cell_of_row _ _ 4 _ _ _ h, (Below.refl _ w).alloc (Nat.le_refl _) _⟩

set_option maxRecDepth 100000 in
set_option maxHeartbeats 4000000 in
theorem rFPut_any (f : Fr) (hf : frMay f) (w : World) :
    Calls Try.prog 13 #[frOf f] w fun e w' => e = .returned (.string ⟨(frPut f).toArray⟩) ∧ Below w.heap.size w w' := by
  obtain ⟨kind, site, seq, ack, body⟩ := f
  obtain ⟨⟨h1, h2, h3⟩, h4⟩ := hf
  simp only at h1 h2 h3 h4
  unfold frOf frV
  simp only
  have q1 := fun w => rput_any site (by omega) w
  have q3 := fun w => rput_any ack (by omega) w
  have w2 : IntKind.u64.wrap (site : Int) = (site : Int) := by simp only [IntKind.wrap_u64]; omega
  have w4 : IntKind.u64.wrap (ack : Int) = (ack : Int) := by simp only [IntKind.wrap_u64]; omega
  rcases h4 with ⟨rfl, h5, h6, h7⟩ | ⟨rfl, rfl, rfl⟩
  · have q2 := fun w => rput_any seq (by omega) w
    have q4 := fun w => rputText_any ⟨body.toArray⟩ (by rw [size_bytes]; omega) w
    have w3 : IntKind.u64.wrap (seq : Int) = (seq : Int) := by simp only [IntKind.wrap_u64]; omega
    have w1 : IntKind.u8.wrap 1 = 1 := by decide
    have hfin : frPut ⟨1, site, seq, ack, body⟩ = [70, 83, 1] ++ Lib.uvarint site ++ Lib.uvarint seq ++ Lib.uvarint ack ++ rowL body ++ sumB ([70, 83, 1] ++ Lib.uvarint site ++ Lib.uvarint seq ++ Lib.uvarint ack ++ rowL body) := by
      have hh : frHead ⟨1, site, seq, ack, body⟩ = [70, 83, 1] ++ Lib.uvarint site ++ Lib.uvarint seq ++ Lib.uvarint ack ++ rowL body := by
        unfold frHead
        rw [if_pos rfl]
        simp [show Nat.toUInt8 1 = 1 from rfl]
      unfold frPut
      rw [hh]
    have hbody : (⟨body.toArray⟩ : ByteArray).data.toList = body := by simp
    rw [hbody] at q4
    obtain ⟨A1, hA1⟩ : ∃ A : ByteArray, A = ⟨(Lib.uvarint site).toArray⟩ := ⟨_, rfl⟩
    rw [← hA1] at q1
    have s1 : A1.size ≤ 10 := by rw [hA1, size_bytes]; exact Lib.uvarint_length64 (by omega)
    obtain ⟨A2, hA2⟩ : ∃ A : ByteArray, A = ⟨(Lib.uvarint seq).toArray⟩ := ⟨_, rfl⟩
    rw [← hA2] at q2
    have s2 : A2.size ≤ 10 := by rw [hA2, size_bytes]; exact Lib.uvarint_length64 (by omega)
    obtain ⟨A3, hA3⟩ : ∃ A : ByteArray, A = ⟨(Lib.uvarint ack).toArray⟩ := ⟨_, rfl⟩
    rw [← hA3] at q3
    have s3 : A3.size ≤ 10 := by rw [hA3, size_bytes]; exact Lib.uvarint_length64 (by omega)
    obtain ⟨A4, hA4⟩ : ∃ A : ByteArray, A = ⟨(rowL body).toArray⟩ := ⟨_, rfl⟩
    rw [← hA4] at q4
    have s4 : A4.size ≤ 1048586 := by rw [hA4, size_bytes]; unfold rowL; rw [List.length_append]; have := Lib.uvarint_length64 (x := body.length) (by omega); omega
    have hx1 := fun w => crsum_any (⟨#[70, 83, 1]⟩ ++ A1 ++ A2 ++ A3 ++ A4) (by simp only [ByteArray.size_append]; rw [show (⟨#[70, 83, 1]⟩ : ByteArray).size = 3 from rfl]; unfold maxLen; omega) w
    have hx2 := fun w => crput_any (Crc.sum (byteL (⟨#[70, 83, 1]⟩ ++ A1 ++ A2 ++ A3 ++ A4))) (sum_lt _) w
    have hE : (⟨#[70, 83, 1]⟩ ++ A1 ++ A2 ++ A3 ++ A4 ++ ⟨(putL (Crc.sum (byteL (⟨#[70, 83, 1]⟩ ++ A1 ++ A2 ++ A3 ++ A4)))).toArray⟩ : ByteArray) = ⟨(frPut ⟨1, site, seq, ack, body⟩).toArray⟩ := by
      rw [hfin, hA1, hA2, hA3, hA4, show (⟨#[70, 83, 1]⟩ : ByteArray) = ⟨[70, 83, 1].toArray⟩ from rfl]
      simp only [cat_bytes]
      unfold sumB byteL
      simp
    have HE := Lib.hid hE
    clear hE hfin hA1 hA2 hA3 hA4 hbody
    obtain ⟨A5, hA5⟩ : ∃ A : ByteArray, A = ⟨(putL (Crc.sum (byteL (⟨#[70, 83, 1]⟩ ++ A1 ++ A2 ++ A3 ++ A4)))).toArray⟩ := ⟨_, rfl⟩
    rw [← hA5] at hx2 HE
    have s5 : A5.size = 4 := by rw [hA5, size_bytes]; rfl
    clear hA5
    generalize Crc.sum (byteL (⟨#[70, 83, 1]⟩ ++ A1 ++ A2 ++ A3 ++ A4)) = x at *
    have k1 : ¬ 9223372036854775807 < 3 + A1.size := by omega
    have k2 : ¬ 9223372036854775807 < 3 + A1.size + A2.size := by omega
    have k3 : ¬ 9223372036854775807 < 3 + A1.size + A2.size + A3.size := by omega
    have k4 : ¬ 9223372036854775807 < 3 + A1.size + A2.size + A3.size + A4.size := by omega
    have hc := fun W => conv_three W 1
    have hcn := fun W => conv_three_now W 1
    rw [show (((1 : UInt8).toNat : Nat) : Int) = 1 from rfl] at hc hcn
    have hb0 := FBox.new 1 site seq ack ⟨body.toArray⟩ w 23
    go_enter Try.func13, Try.ntmps13
    go_wp2_with fail
    generalize w.alloc (.cells #[.int .i64 1, .int .i64 site, .int .i64 seq, .int .i64 ack, .string ⟨body.toArray⟩] 23) = w0 at *
    go_region_held (fun W => W.cell? ⟨w.heap.size, 0, none⟩ = some (.int .i64 1) ∧ W.cell? ⟨w.heap.size, 1, none⟩ = some (.int .i64 site) ∧ W.cell? ⟨w.heap.size, 2, none⟩ = some (.int .i64 seq) ∧ W.cell? ⟨w.heap.size, 3, none⟩ = some (.int .i64 ack) ∧ W.cell? ⟨w.heap.size, 4, none⟩ = some (.string ⟨body.toArray⟩) ∧ Below w.heap.size w W)
      (first | exact FBox.drew hb0 | assumption | exact FBox.keep (by assumption) hb | exact FBox.keep (by assumption) ((Below.refl _ _).alloc (Nat.le_refl _) _))
      (first | (go_at_call 20; refine (q1 _).mono ?_; rintro e w2 ⟨rfl, hb⟩; try (have hcv2 := conv_three_after (k := 1) hb)))
    all_goals
      rename_i hHeld
      have hH2 := FBox.drew hHeld
      obtain ⟨d0, d1, d2, d3, d4, hbW⟩ := id hHeld
      clear hHeld hc hcn hb0
      try clear hcv2
      go_wp2_with fail
      clear d0 d1 d2 d3 d4
      go_region_held (fun W => W.cell? ⟨w.heap.size, 0, none⟩ = some (.int .i64 1) ∧ W.cell? ⟨w.heap.size, 1, none⟩ = some (.int .i64 site) ∧ W.cell? ⟨w.heap.size, 2, none⟩ = some (.int .i64 seq) ∧ W.cell? ⟨w.heap.size, 3, none⟩ = some (.int .i64 ack) ∧ W.cell? ⟨w.heap.size, 4, none⟩ = some (.string ⟨body.toArray⟩) ∧ Below w.heap.size w W)
        (first | exact hH2 | assumption | exact FBox.keep (by assumption) hb)
        (first | (go_at_call 20; (first | (with_reducible refine (q2 _).mono ?_) | (with_reducible refine (q3 _).mono ?_)); rintro e w2 ⟨rfl, hb⟩) | (go_at_call 21; refine (q4 _).mono ?_; rintro e w2 ⟨rfl, hb⟩))
      rename_i hHeld
      obtain ⟨d0, d1, d2, d3, d4, hbW⟩ := id hHeld
      clear hHeld hH2
      go_wp2_with fail
      refine (hx1 _).mono ?_
      rintro e w3 ⟨rfl, rfl⟩
      go_wp2_with fail
      refine (hx2 _).mono ?_
      rintro e w4 ⟨rfl, hb⟩
      have hbe := hbW.trans (hb.mono hbW.size)
      go_wp2
      go_ret
      exact ⟨congrArg Ending.returned (congrArg Value.string HE.out), hbe⟩
  · have w1 : IntKind.u8.wrap 2 = 2 := by decide
    have hfin : frPut ⟨2, site, 0, ack, []⟩ = [70, 83, 2] ++ Lib.uvarint site ++ Lib.uvarint ack ++ sumB ([70, 83, 2] ++ Lib.uvarint site ++ Lib.uvarint ack) := by
      have hh : frHead ⟨2, site, 0, ack, []⟩ = [70, 83, 2] ++ Lib.uvarint site ++ Lib.uvarint ack := by
        unfold frHead
        rw [if_neg (show ¬ (2 : Nat) = 1 by decide)]
        simp [show Nat.toUInt8 2 = 2 from rfl]
      unfold frPut
      rw [hh]
    obtain ⟨A1, hA1⟩ : ∃ A : ByteArray, A = ⟨(Lib.uvarint site).toArray⟩ := ⟨_, rfl⟩
    rw [← hA1] at q1
    have s1 : A1.size ≤ 10 := by rw [hA1, size_bytes]; exact Lib.uvarint_length64 (by omega)
    obtain ⟨A3, hA3⟩ : ∃ A : ByteArray, A = ⟨(Lib.uvarint ack).toArray⟩ := ⟨_, rfl⟩
    rw [← hA3] at q3
    have s3 : A3.size ≤ 10 := by rw [hA3, size_bytes]; exact Lib.uvarint_length64 (by omega)
    have hx1 := fun w => crsum_any (⟨#[70, 83, 2]⟩ ++ A1 ++ A3) (by simp only [ByteArray.size_append]; rw [show (⟨#[70, 83, 2]⟩ : ByteArray).size = 3 from rfl]; unfold maxLen; omega) w
    have hx2 := fun w => crput_any (Crc.sum (byteL (⟨#[70, 83, 2]⟩ ++ A1 ++ A3))) (sum_lt _) w
    have hE : (⟨#[70, 83, 2]⟩ ++ A1 ++ A3 ++ ⟨(putL (Crc.sum (byteL (⟨#[70, 83, 2]⟩ ++ A1 ++ A3)))).toArray⟩ : ByteArray) = ⟨(frPut ⟨2, site, 0, ack, []⟩).toArray⟩ := by
      rw [hfin, hA1, hA3, show (⟨#[70, 83, 2]⟩ : ByteArray) = ⟨[70, 83, 2].toArray⟩ from rfl]
      simp only [cat_bytes]
      unfold sumB byteL
      simp
    have HE := Lib.hid hE
    clear hE hfin hA1 hA3
    obtain ⟨A5, hA5⟩ : ∃ A : ByteArray, A = ⟨(putL (Crc.sum (byteL (⟨#[70, 83, 2]⟩ ++ A1 ++ A3)))).toArray⟩ := ⟨_, rfl⟩
    rw [← hA5] at hx2 HE
    have s5 : A5.size = 4 := by rw [hA5, size_bytes]; rfl
    clear hA5
    generalize Crc.sum (byteL (⟨#[70, 83, 2]⟩ ++ A1 ++ A3)) = x at *
    have k1 : ¬ 9223372036854775807 < 3 + A1.size := by omega
    have hc := fun W => conv_three W 2
    have hcn := fun W => conv_three_now W 2
    rw [show (((2 : UInt8).toNat : Nat) : Int) = 2 from rfl] at hc hcn
    have hb0 := FBox.new 2 site 0 ack ⟨#[]⟩ w 23
    go_enter Try.func13, Try.ntmps13
    go_wp2_with fail
    generalize w.alloc (.cells #[.int .i64 2, .int .i64 site, .int .i64 0, .int .i64 ack, .string ⟨#[]⟩] 23) = w0 at *
    go_region_held (fun W => W.cell? ⟨w.heap.size, 0, none⟩ = some (.int .i64 2) ∧ W.cell? ⟨w.heap.size, 1, none⟩ = some (.int .i64 site) ∧ W.cell? ⟨w.heap.size, 2, none⟩ = some (.int .i64 0) ∧ W.cell? ⟨w.heap.size, 3, none⟩ = some (.int .i64 ack) ∧ W.cell? ⟨w.heap.size, 4, none⟩ = some (.string ⟨#[]⟩) ∧ Below w.heap.size w W)
      (first | exact FBox.drew hb0 | assumption | exact FBox.keep (by assumption) hb | exact FBox.keep (by assumption) ((Below.refl _ _).alloc (Nat.le_refl _) _))
      (first | (go_at_call 20; refine (q1 _).mono ?_; rintro e w2 ⟨rfl, hb⟩; try (have hcv2 := conv_three_after (k := 2) hb)))
    all_goals
      rename_i hHeld
      obtain ⟨d0, d1, d2, d3, d4, hbW⟩ := id hHeld
      clear hHeld hc hcn hb0
      try clear hcv2
      go_wp2_with fail
      refine (q3 _).mono ?_
      rintro e w3 ⟨rfl, hb⟩
      have hbv := hbW.trans (hb.mono hbW.size)
      clear d0 d1 d2 d3 d4
      go_wp2_with fail
      refine (hx1 _).mono ?_
      rintro e w3 ⟨rfl, rfl⟩
      go_wp2_with fail
      refine (hx2 _).mono ?_
      rintro e w4 ⟨rfl, hb⟩
      have hbe := hbv.trans (hb.mono hbv.size)
      go_wp2
      go_ret
      exact ⟨congrArg Ending.returned (congrArg Value.string HE.out), hbe⟩
end Go.Proofs.Ytckknopjhmpnhaa
