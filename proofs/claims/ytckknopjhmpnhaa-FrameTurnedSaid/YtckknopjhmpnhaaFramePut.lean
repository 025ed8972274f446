/- The program's frames: Put. -/
import Derived.Test.YtckknopjhmpnhaaFrameFields
import Derived.Test.YtckknopjhmpnhaaFrameRead
import Derived.Test.YtckknopjhmpnhaaCrcPut
import Derived.Test.YtckknopjhmpnhaaCrcMore
namespace Go.Proofs.Ytckknopjhmpnhaa
open Go.RowKit Go.Shelf

/-- How far the loop over the fields came. -/
def PutRel4 (S0 S1 S2 S3 S4 : ByteArray) (W1 : World) (s i : Value) (W : World) : Prop := Below W1.heap.size W1 W ∧
  ((i = .int .i64 0 ∧ s = .string S0) ∨ (i = .int .i64 1 ∧ s = .string S1) ∨ (i = .int .i64 2 ∧ s = .string S2) ∨ (i = .int .i64 3 ∧ s = .string S3) ∨ (i = .int .i64 4 ∧ s = .string S4))
def PutRel2 (S0 S1 S2 : ByteArray) (W1 : World) (s i : Value) (W : World) : Prop := Below W1.heap.size W1 W ∧
  ((i = .int .i64 0 ∧ s = .string S0) ∨ (i = .int .i64 1 ∧ s = .string S1) ∨ (i = .int .i64 2 ∧ s = .string S2))
theorem conv_one_at {W : World} {B : Nat} {k : UInt8} {t : TypeId} {fr : Nat × Nat} (h : W.heap[B]? = some (.cells #[.int .u8 (k.toNat : Nat)] t fr)) :
    (convert 42 9 (.slice (some ⟨B, 0, none⟩) 1 1)).run Try.prog W = .ok (.string ⟨[k].toArray⟩) W := by
  refine run_convert_bytes_back _ 42 9 5 _ _ [k] Try.underlying42 Try.underlying5 Try.underlying9 ?_
  intro j hj
  have e : (⟨B, 0, none⟩ : Addr).add j = ⟨B, j, none⟩ := by simp [Addr.add]; omega
  rw [e, cell_of_row _ _ _ _ _ _ h]
  match j, hj with
  | 0, _ => rfl
theorem conv_one (W : World) (k : UInt8) : (convert 42 9 (.slice (some ⟨W.heap.size, 0, none⟩) 1 1)).run Try.prog (W.alloc (.cells #[.int .u8 (k.toNat : Nat)] 5)) = .ok (.string ⟨[k].toArray⟩) (W.alloc (.cells #[.int .u8 (k.toNat : Nat)] 5)) :=
  conv_one_at (heap_alloc_new W _)
theorem pFPut_no (k s q a : Int) (b : ByteArray) (w : World) (hb : b.size ≤ 9223372036854775807) (hm : mayI k s q a b.size = false) :
    Calls Try.prog 9 #[frV k s q a b] w fun e w' => e = .returned (.tuple #[.string ⟨#[]⟩, .int .i64 1]) ∧ Below w.heap.size w w' := by
  have hM := fun w => pMay_any k s q a b w hb
  rw [hm] at hM
  unfold frV at hM ⊢
  go_enter Try.func9, Try.ntmps9
  go_wp2_with fail
  refine (hM _).mono ?_
  rintro e w1 ⟨rfl, hb1⟩
  go_wp2
  go_ret2
  exact ⟨rfl, ((Below.refl w.heap.size w).alloc (Nat.le_refl _) _).trans (hb1.mono (by simp))⟩

set_option maxRecDepth 100000 in
set_option maxHeartbeats 4000000 in
theorem pFPut_one (site seq ack : Nat) (body : List UInt8) (hf : frMay ⟨1, site, seq, ack, body⟩) (w : World) :
    Calls Try.prog 9 #[frOf ⟨1, site, seq, ack, body⟩] w fun e w' => e = .returned (.tuple #[.string ⟨(frPut ⟨1, site, seq, ack, body⟩).toArray⟩, .int .i64 0]) ∧ Below w.heap.size w w' := by
  have hmay : mayI 1 site seq ack (⟨body.toArray⟩ : ByteArray).size = true := by
    rw [size_bytes]
    exact (mayI_fr 1 site seq ack body).trans (decide_eq_true hf)
  obtain ⟨⟨h1, h2, h3⟩, h4⟩ := hf
  simp only at h1 h2 h3 h4
  obtain ⟨_, h5, h6, h7⟩ : (1 : Nat) = 1 ∧ 1 ≤ seq ∧ seq ≤ 1099511627776 ∧ body.length ≤ 1048576 := by
    rcases h4 with g | g
    · exact ⟨rfl, g.2⟩
    · exact absurd g.1 (by decide)
  clear h4
  unfold frOf frV
  simp only
  rw [show ((1 : Nat) : Int) = 1 from rfl]
  have hM := fun w => pMay_any 1 site seq ack ⟨body.toArray⟩ w (by rw [size_bytes]; omega)
  rw [hmay] at hM
  unfold frV at hM
  clear hmay
  have hfin : frPut ⟨1, site, seq, ack, body⟩ = [70, 83, 1] ++ Lib.uvarint site ++ Lib.uvarint seq ++ Lib.uvarint ack ++ rowL body ++ sumB ([70, 83, 1] ++ Lib.uvarint site ++ Lib.uvarint seq ++ Lib.uvarint ack ++ rowL body) := by
    have hh : frHead ⟨1, site, seq, ack, body⟩ = [70, 83, 1] ++ Lib.uvarint site ++ Lib.uvarint seq ++ Lib.uvarint ack ++ rowL body := by
      unfold frHead
      rw [if_pos rfl]
      simp [show Nat.toUInt8 1 = 1 from rfl]
    unfold frPut
    rw [hh]
  have q1 := fun p i w => numPut_any p w.heap.size i site (by omega) w
  have hbody : (⟨body.toArray⟩ : ByteArray).data.toList = body := by simp
  obtain ⟨A1, hA1⟩ : ∃ A : ByteArray, A = ⟨(Lib.uvarint site).toArray⟩ := ⟨_, rfl⟩
  have s1 : A1.size ≤ 10 := by rw [hA1, size_bytes]; exact Lib.uvarint_length64 (by omega)
  obtain ⟨A2, hA2⟩ : ∃ A : ByteArray, A = ⟨(Lib.uvarint seq).toArray⟩ := ⟨_, rfl⟩
  have s2 : A2.size ≤ 10 := by rw [hA2, size_bytes]; exact Lib.uvarint_length64 (by omega)
  obtain ⟨A3, hA3⟩ : ∃ A : ByteArray, A = ⟨(Lib.uvarint ack).toArray⟩ := ⟨_, rfl⟩
  have s3 : A3.size ≤ 10 := by rw [hA3, size_bytes]; exact Lib.uvarint_length64 (by omega)
  obtain ⟨A4, hA4⟩ : ∃ A : ByteArray, A = ⟨(rowL body).toArray⟩ := ⟨_, rfl⟩
  have s4 : A4.size ≤ 1048586 := by rw [hA4, size_bytes]; unfold rowL; rw [List.length_append]; have := Lib.uvarint_length64 (x := body.length) (by omega); omega
  have p1 := fun p i W => numPut_any p w.heap.size i site (by omega) W
  have p2 := fun p i W => numPut_any p w.heap.size i seq (by omega) W
  have p3 := fun p i W => numPut_any p w.heap.size i ack (by omega) W
  have p4 := fun p i W => rowPut_any p w.heap.size i ⟨body.toArray⟩ (by rw [size_bytes]; omega) W
  rw [hbody] at p4
  rw [← hA1] at p1
  rw [← hA2] at p2
  rw [← hA3] at p3
  rw [← hA4] at p4
  have hx1 := fun w => csum_any (⟨#[70, 83, 1]⟩ ++ A1 ++ A2 ++ A3 ++ A4) (by simp only [ByteArray.size_append]; rw [show (⟨#[70, 83, 1]⟩ : ByteArray).size = 3 from rfl]; unfold maxLen; omega) w
  have hx2 := fun w => cput_any (Crc.sum (byteL (⟨#[70, 83, 1]⟩ ++ A1 ++ A2 ++ A3 ++ A4))) w
  have hE : (⟨#[70, 83, 1]⟩ ++ A1 ++ A2 ++ A3 ++ A4 ++ ⟨(putL (Crc.sum (byteL (⟨#[70, 83, 1]⟩ ++ A1 ++ A2 ++ A3 ++ A4)))).toArray⟩ : ByteArray) = ⟨(frPut ⟨1, site, seq, ack, body⟩).toArray⟩ := by
    rw [hfin, hA1, hA2, hA3, hA4, show (⟨#[70, 83, 1]⟩ : ByteArray) = ⟨[70, 83, 1].toArray⟩ from rfl]
    simp only [cat_bytes]
    unfold sumB byteL
    simp
  have HE := Lib.hid hE
  clear hE hfin hA1 hA2 hA3 hA4 hbody
  obtain ⟨A5, hA5⟩ : ∃ A : ByteArray, A = ⟨(putL (Crc.sum (byteL (⟨#[70, 83, 1]⟩ ++ A1 ++ A2 ++ A3 ++ A4)))).toArray⟩ := ⟨_, rfl⟩
  rw [← hA5] at hx2 HE
  have s5 : A5.size = 4 := by rw [hA5, size_bytes]; rfl
  clear hA5
  generalize Crc.sum (byteL (⟨#[70, 83, 1]⟩ ++ A1 ++ A2 ++ A3 ++ A4)) = x at *
  have hc := fun W => conv_one W 1
  rw [show (((1 : UInt8).toNat : Nat) : Int) = 1 from rfl] at hc
  have w1 : IntKind.u8.wrap 1 = 1 := by decide
  have hF0 : Fm w.heap.size 1 site seq ack ⟨body.toArray⟩ (w.alloc (.cells #[.int .i64 1, .int .i64 site, .int .i64 seq, .int .i64 ack, .string ⟨body.toArray⟩] 28)) := heap_alloc_new w _
  have hb0 := (Below.refl w.heap.size w).alloc (Nat.le_refl _) (.cells #[.int .i64 1, .int .i64 site, .int .i64 seq, .int .i64 ack, .string ⟨body.toArray⟩] 28)
  go_enter Try.func9, Try.ntmps9
  go_wp2_with fail
  refine (hM _).mono ?_
  rintro e w1 ⟨rfl, hb1⟩
  have hFa := hF0.below hb1 (box_lt hF0)
  have hba := hb0.trans (hb1.mono hb0.size)
  have k0 : _ = some (Value.int .i64 1) := cell_of_row _ _ 0 _ _ _ hFa
  go_wp2_with fail
  have hFl := fields_any w.heap.size 1 site seq ack ⟨body.toArray⟩ _ (hFa.below ((Below.refl _ w1).alloc (Nat.le_refl _) (.cells #[.int .u8 1] 5)) (box_lt hFa))
  refine hFl.mono ?_
  clear hFl
  rintro e w2 ⟨v, rfl, ⟨G, b1, c1, b2, c2, b3, c3, b4, rfl, hG, hg, n1, n2, n3, n4⟩, hb2⟩
  have hst : (⟨#[70, 83]⟩ : ByteArray) ++ ⟨#[1]⟩ = ⟨#[70, 83, 1]⟩ := cat_bytes [70, 83] [1]
  have z3 : (⟨#[70, 83, 1]⟩ : ByteArray).size = 3 := rfl
  have hF2 := (hFa.below ((Below.refl _ w1).alloc (Nat.le_refl _) (.cells #[.int .u8 1] 5)) (box_lt hFa)).below hb2 (by simp; exact Nat.lt_succ_of_lt (box_lt hFa))
  have hba2 := hba.trans ((((Below.refl w1.heap.size w1).alloc (Nat.le_refl _) (.cells #[.int .u8 1] 5)).trans (hb2.mono (by simp))).mono hba.size)
  have HF2 := Lib.hid hF2
  have HG := Lib.hid hg
  clear hF2 hg hb2 hFa hba k0 hF0 hb0 hb1
  go_wp2_with fail
  clear hst
  go_loopw [4, 18] (PutRel4 ⟨#[70, 83, 1]⟩ (⟨#[70, 83, 1]⟩ ++ A1) (⟨#[70, 83, 1]⟩ ++ A1 ++ A2) (⟨#[70, 83, 1]⟩ ++ A1 ++ A2 ++ A3) (⟨#[70, 83, 1]⟩ ++ A1 ++ A2 ++ A3 ++ A4) w2) (fun _ i _ => (4 - intOf i).toNat)
  case atStart => exact ⟨Below.refl _ _, .inl ⟨rfl, rfl⟩⟩
  case round =>
    rename_i wr
    obtain ⟨hWb, hW⟩ := hrel
    have hgW := (hWb.block G (box_lt HG.out)).trans HG.out
    have hFW := HF2.out.below hWb (box_lt HF2.out)
    rcases hW with ⟨rfl, rfl⟩ | ⟨rfl, rfl⟩ | ⟨rfl, rfl⟩ | ⟨rfl, rfl⟩ | ⟨rfl, rfl⟩
    · have g0 : _ = some (numPutV b1) := cell_of_row _ _ 0 _ _ _ hgW
      have g1 : _ = some (numReadV c1 b1) := cell_of_row _ _ 1 _ _ _ hgW
      have hcp := (n1.below hWb).cp
      have hcf : _ = some (Value.int .i64 site) := cell_of_row _ _ 1 _ _ _ hFW
      unfold numPutV at g0
      unfold numReadV at g1
      have hA := (Below.refl wr.heap.size wr).alloc (Nat.le_refl _) (.cells #[numPutV b1, numReadV c1 b1] 50)
      have hcall := p1 b1 1 _ (cb hA hcp) (cb hA hcf)
      unfold numPutV numReadV at hA
      unfold numPutV numReadV at hcall
      clear hgW hFW hcp hcf p1 p2 p3 p4 hc
      go_wp2_with fail
      refine hcall.mono ?_
      clear hcall
      rintro e w4 ⟨rfl, hb4⟩
      have hbn := hWb.trans ((hA.trans (hb4.mono hA.size)).mono hWb.size)
      clear hA hb4 hWb g0 g1
      go_wp2_with fail
      go_round
      case rel => exact ⟨hbn, .inr (.inl ⟨rfl, rfl⟩)⟩
      case measure => simp [intOf]
    · have g0 : _ = some (numPutV b2) := cell_of_row _ _ 2 _ _ _ hgW
      have g1 : _ = some (numReadV c2 b2) := cell_of_row _ _ 3 _ _ _ hgW
      have hcp := (n2.below hWb).cp
      have hcf : _ = some (Value.int .i64 seq) := cell_of_row _ _ 2 _ _ _ hFW
      unfold numPutV at g0
      unfold numReadV at g1
      have hA := (Below.refl wr.heap.size wr).alloc (Nat.le_refl _) (.cells #[numPutV b2, numReadV c2 b2] 50)
      have hcall := p2 b2 2 _ (cb hA hcp) (cb hA hcf)
      unfold numPutV numReadV at hA
      unfold numPutV numReadV at hcall
      clear hgW hFW hcp hcf p1 p2 p3 p4 hc
      go_wp2_with fail
      refine hcall.mono ?_
      clear hcall
      rintro e w4 ⟨rfl, hb4⟩
      have hbn := hWb.trans ((hA.trans (hb4.mono hA.size)).mono hWb.size)
      clear hA hb4 hWb g0 g1
      go_wp2_with fail
      go_round
      case rel => exact ⟨hbn, .inr (.inr (.inl ⟨rfl, rfl⟩))⟩
      case measure => simp [intOf]
    · have g0 : _ = some (numPutV b3) := cell_of_row _ _ 4 _ _ _ hgW
      have g1 : _ = some (numReadV c3 b3) := cell_of_row _ _ 5 _ _ _ hgW
      have hcp := (n3.below hWb).cp
      have hcf : _ = some (Value.int .i64 ack) := cell_of_row _ _ 3 _ _ _ hFW
      unfold numPutV at g0
      unfold numReadV at g1
      have hA := (Below.refl wr.heap.size wr).alloc (Nat.le_refl _) (.cells #[numPutV b3, numReadV c3 b3] 50)
      have hcall := p3 b3 3 _ (cb hA hcp) (cb hA hcf)
      unfold numPutV numReadV at hA
      unfold numPutV numReadV at hcall
      clear hgW hFW hcp hcf p1 p2 p3 p4 hc
      go_wp2_with fail
      refine hcall.mono ?_
      clear hcall
      rintro e w4 ⟨rfl, hb4⟩
      have hbn := hWb.trans ((hA.trans (hb4.mono hA.size)).mono hWb.size)
      clear hA hb4 hWb g0 g1
      go_wp2_with fail
      go_round
      case rel => exact ⟨hbn, .inr (.inr (.inr (.inl ⟨rfl, rfl⟩)))⟩
      case measure => simp [intOf]
    · have g0 : _ = some (rowPutV b4) := cell_of_row _ _ 6 _ _ _ hgW
      have g1 : _ = some (rowReadV b4) := cell_of_row _ _ 7 _ _ _ hgW
      have hcp := (n4.below hWb).cp
      have hcf : _ = some (Value.string ⟨body.toArray⟩) := cell_of_row _ _ 4 _ _ _ hFW
      unfold rowPutV at g0
      unfold rowReadV at g1
      have hA := (Below.refl wr.heap.size wr).alloc (Nat.le_refl _) (.cells #[rowPutV b4, rowReadV b4] 50)
      have hcall := p4 b4 4 _ (cb hA hcp) (cb hA hcf)
      unfold rowPutV rowReadV at hA
      unfold rowPutV rowReadV at hcall
      clear hgW hFW hcp hcf p1 p2 p3 p4 hc
      go_wp2_with fail
      refine hcall.mono ?_
      clear hcall
      rintro e w4 ⟨rfl, hb4⟩
      have hbn := hWb.trans ((hA.trans (hb4.mono hA.size)).mono hWb.size)
      clear hA hb4 hWb g0 g1
      go_wp2_with fail
      go_round
      case rel => exact ⟨hbn, .inr (.inr (.inr (.inr ⟨rfl, rfl⟩)))⟩
      case measure => simp [intOf]
    · have hbf := hba2.trans (hWb.mono hba2.size)
      clear hgW hFW p1 p2 p3 p4 hc
      go_wp2_with fail
      refine (hx1 _).mono ?_
      rintro e w5 ⟨rfl, hb5⟩
      have hbg := hbf.trans (hb5.mono hbf.size)
      go_wp2_with fail
      refine (hx2 _).mono ?_
      rintro e w6 ⟨rfl, hb6⟩
      have hbe := hbg.trans (hb6.mono hbg.size)
      go_wp2
      go_ret2
      exact ⟨congrArg Ending.returned (congrArg (fun y => Value.tuple #[.string y, .int .i64 0]) HE.out), hbe⟩
end Go.Proofs.Ytckknopjhmpnhaa
