/- The program's frames: Put of the other kind. -/
import Derived.Test.YtckknopjhmpnhaaFramePut
namespace Go.Proofs.Ytckknopjhmpnhaa
open Go.RowKit Go.Shelf

set_option maxRecDepth 100000 in
set_option maxHeartbeats 4000000 in
theorem pFPut_two (site ack : Nat) (hf : frMay ⟨2, site, 0, ack, []⟩) (w : World) :
    Calls Try.prog 9 #[frOf ⟨2, site, 0, ack, []⟩] w fun e w' => e = .returned (.tuple #[.string ⟨(frPut ⟨2, site, 0, ack, []⟩).toArray⟩, .int .i64 0]) ∧ Below w.heap.size w w' := by
  have hmay : mayI 2 site 0 ack (⟨#[]⟩ : ByteArray).size = true := (mayI_fr 2 site 0 ack []).trans (decide_eq_true hf)
  obtain ⟨⟨h1, h2, h3⟩, _⟩ := hf
  simp only at h1 h2 h3
  unfold frOf frV
  simp only
  rw [show ((2 : Nat) : Int) = 2 from rfl, show ((0 : Nat) : Int) = 0 from rfl, show (([] : List UInt8).toArray) = #[] from rfl]
  have hM := fun w => pMay_any 2 site 0 ack ⟨#[]⟩ w (by decide)
  rw [hmay] at hM
  unfold frV at hM
  clear hmay
  have hfin : frPut ⟨2, site, 0, ack, []⟩ = [70, 83, 2] ++ Lib.uvarint site ++ Lib.uvarint ack ++ sumB ([70, 83, 2] ++ Lib.uvarint site ++ Lib.uvarint ack) := by
    have hh : frHead ⟨2, site, 0, ack, []⟩ = [70, 83, 2] ++ Lib.uvarint site ++ Lib.uvarint ack := by
      unfold frHead
      rw [if_neg (show ¬ (2 : Nat) = 1 by decide)]
      simp [show Nat.toUInt8 2 = 2 from rfl]
    unfold frPut
    rw [hh]
  obtain ⟨A1, hA1⟩ : ∃ A : ByteArray, A = ⟨(Lib.uvarint site).toArray⟩ := ⟨_, rfl⟩
  have s1 : A1.size ≤ 10 := by rw [hA1, size_bytes]; exact Lib.uvarint_length64 (by omega)
  obtain ⟨A3, hA3⟩ : ∃ A : ByteArray, A = ⟨(Lib.uvarint ack).toArray⟩ := ⟨_, rfl⟩
  have s3 : A3.size ≤ 10 := by rw [hA3, size_bytes]; exact Lib.uvarint_length64 (by omega)
  have p1 := fun p i W => numPut_any p w.heap.size i site (by omega) W
  have p3 := fun p i W => numPut_any p w.heap.size i ack (by omega) W
  rw [← hA1] at p1
  rw [← hA3] at p3
  have hx1 := fun w => csum_any (⟨#[70, 83, 2]⟩ ++ A1 ++ A3) (by simp only [ByteArray.size_append]; rw [show (⟨#[70, 83, 2]⟩ : ByteArray).size = 3 from rfl]; unfold maxLen; omega) w
  have hx2 := fun w => cput_any (Crc.sum (byteL (⟨#[70, 83, 2]⟩ ++ A1 ++ A3))) w
  have hE : (⟨#[70, 83, 2]⟩ ++ A1 ++ A3 ++ ⟨(putL (Crc.sum (byteL (⟨#[70, 83, 2]⟩ ++ A1 ++ A3)))).toArray⟩ : ByteArray) = ⟨(frPut ⟨2, site, 0, ack, []⟩).toArray⟩ := by
    rw [hfin, hA1, hA3, show (⟨#[70, 83, 2]⟩ : ByteArray) = ⟨[70, 83, 2].toArray⟩ from rfl]
    simp only [cat_bytes]
    unfold sumB byteL
    simp
  have HE := Lib.hid hE
  clear hE hfin hA1 hA3
  obtain ⟨A5, hA5⟩ : ∃ A : ByteArray, A = ⟨(putL (Crc.sum (byteL (⟨#[70, 83, 2]⟩ ++ A1 ++ A3)))).toArray⟩ := ⟨_, rfl⟩
  rw [← hA5] at hx2 HE
  have s5 : A5.size = 4 := by rw [hA5, size_bytes]; rfl
  clear hA5
  generalize Crc.sum (byteL (⟨#[70, 83, 2]⟩ ++ A1 ++ A3)) = x at *
  have hc := fun W => conv_one W 2
  rw [show (((2 : UInt8).toNat : Nat) : Int) = 2 from rfl] at hc
  have w1 : IntKind.u8.wrap 2 = 2 := by decide
  have hF0 : Fm w.heap.size 2 site 0 ack ⟨#[]⟩ (w.alloc (.cells #[.int .i64 2, .int .i64 site, .int .i64 0, .int .i64 ack, .string ⟨#[]⟩] 28)) := heap_alloc_new w _
  have hb0 := (Below.refl w.heap.size w).alloc (Nat.le_refl _) (.cells #[.int .i64 2, .int .i64 site, .int .i64 0, .int .i64 ack, .string ⟨#[]⟩] 28)
  go_enter Try.func9, Try.ntmps9
  go_wp2_with fail
  refine (hM _).mono ?_
  rintro e w1 ⟨rfl, hb1⟩
  have hFa := hF0.below hb1 (box_lt hF0)
  have hba := hb0.trans (hb1.mono hb0.size)
  have k0 : _ = some (Value.int .i64 2) := cell_of_row _ _ 0 _ _ _ hFa
  go_wp2_with fail
  have hFl := fields_any w.heap.size 2 site 0 ack ⟨#[]⟩ _ (hFa.below ((Below.refl _ w1).alloc (Nat.le_refl _) (.cells #[.int .u8 2] 5)) (box_lt hFa))
  refine hFl.mono ?_
  clear hFl
  rintro e w2 ⟨v, rfl, ⟨G, b1, c1, b3, c3, rfl, hG, hg, n1, n3⟩, hb2⟩
  have hst : (⟨#[70, 83]⟩ : ByteArray) ++ ⟨#[2]⟩ = ⟨#[70, 83, 2]⟩ := cat_bytes [70, 83] [2]
  have z3 : (⟨#[70, 83, 2]⟩ : ByteArray).size = 3 := rfl
  have hF2 := (hFa.below ((Below.refl _ w1).alloc (Nat.le_refl _) (.cells #[.int .u8 2] 5)) (box_lt hFa)).below hb2 (by simp; exact Nat.lt_succ_of_lt (box_lt hFa))
  have hba2 := hba.trans ((((Below.refl w1.heap.size w1).alloc (Nat.le_refl _) (.cells #[.int .u8 2] 5)).trans (hb2.mono (by simp))).mono hba.size)
  have HF2 := Lib.hid hF2
  have HG := Lib.hid hg
  clear hF2 hg hb2 hFa hba k0 hF0 hb0 hb1
  go_wp2_with fail
  clear hst
  go_loopw [4, 18] (PutRel2 ⟨#[70, 83, 2]⟩ (⟨#[70, 83, 2]⟩ ++ A1) (⟨#[70, 83, 2]⟩ ++ A1 ++ A3) w2) (fun _ i _ => (2 - intOf i).toNat)
  case atStart => exact ⟨Below.refl _ _, .inl ⟨rfl, rfl⟩⟩
  case round =>
    rename_i wr
    obtain ⟨hWb, hW⟩ := hrel
    have hgW := (hWb.block G (box_lt HG.out)).trans HG.out
    have hFW := HF2.out.below hWb (box_lt HF2.out)
    rcases hW with ⟨rfl, rfl⟩ | ⟨rfl, rfl⟩ | ⟨rfl, rfl⟩
    · have g0 : _ = some (numPutV b1) := cell_of_row _ _ 0 _ _ _ hgW
      have g1 : _ = some (numReadV c1 b1) := cell_of_row _ _ 1 _ _ _ hgW
      have hcp := (n1.below hWb).cp
      have hcf : _ = some (Value.int .i64 site) := cell_of_row _ _ 1 _ _ _ hFW
      unfold numPutV at g0
      unfold numReadV at g1
      have hA := (Below.refl wr.heap.size wr).alloc (Nat.le_refl _) (.cells #[numPutV b1, numReadV c1 b1] 50)
      have hcall := p1 b1 1 _ (cb hA hcp) (cb hA hcf)
      unfold numPutV numReadV at hA
      unfold numPutV numReadV at hcall
      clear hgW hFW hcp hcf p1 p3 hc
      go_wp2_with fail
      refine hcall.mono ?_
      clear hcall
      rintro e w4 ⟨rfl, hb4⟩
      have hbn := hWb.trans ((hA.trans (hb4.mono hA.size)).mono hWb.size)
      clear hA hb4 hWb g0 g1
      go_wp2_with fail
      go_round
      case rel => exact ⟨hbn, .inr (.inl ⟨rfl, rfl⟩)⟩
      case measure => simp [intOf]
    · have g0 : _ = some (numPutV b3) := cell_of_row _ _ 2 _ _ _ hgW
      have g1 : _ = some (numReadV c3 b3) := cell_of_row _ _ 3 _ _ _ hgW
      have hcp := (n3.below hWb).cp
      have hcf : _ = some (Value.int .i64 ack) := cell_of_row _ _ 3 _ _ _ hFW
      unfold numPutV at g0
      unfold numReadV at g1
      have hA := (Below.refl wr.heap.size wr).alloc (Nat.le_refl _) (.cells #[numPutV b3, numReadV c3 b3] 50)
      have hcall := p3 b3 3 _ (cb hA hcp) (cb hA hcf)
      unfold numPutV numReadV at hA
      unfold numPutV numReadV at hcall
      clear hgW hFW hcp hcf p1 p3 hc
      go_wp2_with fail
      refine hcall.mono ?_
      clear hcall
      rintro e w4 ⟨rfl, hb4⟩
      have hbn := hWb.trans ((hA.trans (hb4.mono hA.size)).mono hWb.size)
      clear hA hb4 hWb g0 g1
      go_wp2_with fail
      go_round
      case rel => exact ⟨hbn, .inr (.inr ⟨rfl, rfl⟩)⟩
      case measure => simp [intOf]
    · have hbf := hba2.trans (hWb.mono hba2.size)
      clear hgW hFW p1 p3 hc
      go_wp2_with fail
      refine (hx1 _).mono ?_
      rintro e w5 ⟨rfl, hb5⟩
      have hbg := hbf.trans (hb5.mono hbf.size)
      go_wp2_with fail
      refine (hx2 _).mono ?_
      rintro e w6 ⟨rfl, hb6⟩
      have hbe := hbg.trans (hb6.mono hbg.size)
      go_wp2
      go_ret2
      exact ⟨congrArg Ending.returned (congrArg (fun y => Value.tuple #[.string y, .int .i64 0]) HE.out), hbe⟩
/-- Put: the frame's bytes, or that it may not be. -/
theorem pFPut_any (f : Fr) (hf : frMay f) (w : World) :
    Calls Try.prog 9 #[frOf f] w fun e w' => e = .returned (.tuple #[.string ⟨(frPut f).toArray⟩, .int .i64 0]) ∧ Below w.heap.size w w' := by
  obtain ⟨kind, site, seq, ack, body⟩ := f
  rcases hf.2 with ⟨h, _⟩ | ⟨h, h', h''⟩
  · simp only at h
    subst h
    exact pFPut_one site seq ack body hf w
  · simp only at h h' h''
    subst h h' h''
    exact pFPut_two site ack hf w
end Go.Proofs.Ytckknopjhmpnhaa
