/- The program's frames: Get of the kind that carries something. -/
import Derived.Test.YtckknopjhmpnhaaFrameGet
namespace Go.Proofs.Ytckknopjhmpnhaa
open Go.RowKit Go.Shelf

def GetRel_one (F B : Nat) (W1 : World) (l0 l1 l2 l3 l4 : List UInt8) (e1 e2 e3 e4 : Int) (n1 n2 n3 : Nat) (body : List UInt8) (i : Value) (W : World) : Prop := (i = .int .i64 0 ∧ GetAt F B W1 l0 0 1 0 0 0 ⟨#[]⟩ W) ∨ (i = .int .i64 1 ∧ GetAt F B W1 l1 e1 1 n1 0 0 ⟨#[]⟩ W) ∨ (i = .int .i64 2 ∧ GetAt F B W1 l2 e2 1 n1 n2 0 ⟨#[]⟩ W) ∨ (i = .int .i64 3 ∧ GetAt F B W1 l3 e3 1 n1 n2 n3 ⟨#[]⟩ W) ∨ (i = .int .i64 4 ∧ GetAt F B W1 l4 e4 1 n1 n2 n3 ⟨body.toArray⟩ W)

set_option maxRecDepth 100000 in
set_option maxHeartbeats 8000000 in
theorem pFGet_one (s : ByteArray) (w : World) (hs : s.size ≤ 1000000) (hbeg : begC s.data.toList = 0) (hk : s.data.toList.getD 2 0 = 1) :
    Calls Try.prog 14 #[.string s] w fun e w' => e = .returned (getV (frGet s.data.toList)) ∧ Below w.heap.size w w' := by
  have h3 : 3 ≤ s.size := by
    rw [Lib.size_eq]
    refine Nat.le_of_not_lt fun q => ?_
    unfold begC at hbeg
    rw [if_pos q] at hbeg
    cases hbeg
  have hB := fun w => begins_any s w hs
  rw [hbeg] at hB
  have hRd := fun w => fread_any s w hs h3
  have hex := extract_drop s 3 (by omega)
  have h0l : (s.data.toList.drop 3).length ≤ 1000000 := by rw [List.length_drop, ← Lib.size_eq]; omega
  have u2 : (s[2].toNat : Int) = 1 := by rw [← (head_tests s h3).2.2, hk]; rfl
  have i2 : (2 : Int) < (s.size : Int) := by omega
  obtain ⟨l0, hl0⟩ : ∃ l0, s.data.toList.drop 3 = l0 := ⟨_, rfl⟩
  rw [hl0] at hex h0l
  rw [hex] at hRd
  rcases q1 : numS (l0, 0) 16 with ⟨⟨l1, e1⟩, n1⟩
  rcases q2 : numS (l1, e1) 1099511627776 with ⟨⟨l2, e2⟩, n2⟩
  rcases q3 : numS (l2, e2) 1099511627776 with ⟨⟨l3, e3⟩, n3⟩
  rcases q4 : textS (l3, e3) 1048576 with ⟨⟨l4, e4⟩, body⟩
  have Hl0 := Lib.hid h0l
  have Hl1 := Lib.hid (numS_at_len q1 h0l)
  have Hl2 := Lib.hid (numS_at_len q2 Hl1.out)
  have Hl3 := Lib.hid (numS_at_len q3 Hl2.out)
  have HBL : Hid ((⟨body.toArray⟩ : ByteArray).size ≤ 9223372036854775807) := Lib.hid (by rw [size_bytes]; exact Nat.le_trans (textS_at_body q4) (Nat.le_trans Hl3.out (by decide)))
  have HP : Hid (∃ pre, s.data.toList = pre ++ l4) := Lib.hid (by
    obtain ⟨x1, y1⟩ := numS_suf q1
    obtain ⟨x2, y2⟩ := numS_suf q2
    obtain ⟨x3, y3⟩ := numS_suf q3
    obtain ⟨x4, y4⟩ := textS_suf q4
    refine ⟨s.data.toList.take 3 ++ (x1 ++ (x2 ++ (x3 ++ x4))), ?_⟩
    rw [List.append_assoc, List.append_assoc, List.append_assoc, List.append_assoc, ← y4, ← y3, ← y2, ← y1, ← hl0, List.take_append_drop])
  have hgE : frGet s.data.toList = if endC s.data.toList (l4, e4) ≠ 0 then .error (endC s.data.toList (l4, e4)) else if frMay ⟨1, n1, n2, n3, body⟩ then .ok ⟨1, n1, n2, n3, body⟩ else .error 9 := by
    rw [frGet_looks, if_neg (by simpa using hbeg), hk]
    simp only [hl0, show frRead ((1 : UInt8) == 1) l0 = ((l4, e4), n1, n2, n3, body) by unfold frRead; simp only [show ((1 : UInt8) == 1) = true from rfl, if_true, q1, q2, q3, q4], show ((1 : UInt8).toNat) = 1 from rfl]
  have Q1 := Lib.hid q1
  have Q2 := Lib.hid q2
  have Q3 := Lib.hid q3
  have Q4 := Lib.hid q4
  have HGE := Lib.hid hgE
  clear hgE q1 q2 q3 q4 h0l
  clear hl0 hbeg hk hex
  have hFn : Fm (w.heap.size + 1) 1 0 0 0 ⟨#[]⟩ ((w.alloc (.cells #[.int .i64 0, .int .i64 0, .int .i64 0, .int .i64 0, .string ⟨#[]⟩] 28)).alloc (.cells #[.int .i64 1, .int .i64 0, .int .i64 0, .int .i64 0, .string ⟨#[]⟩] 28)) := heap_alloc2_new w _ _
  have hNn := heap_alloc2_old w (.cells #[.int .i64 0, .int .i64 0, .int .i64 0, .int .i64 0, .string ⟨#[]⟩] 28) (.cells #[.int .i64 1, .int .i64 0, .int .i64 0, .int .i64 0, .string ⟨#[]⟩] 28)
  have hBn := below_two w (.cells #[.int .i64 0, .int .i64 0, .int .i64 0, .int .i64 0, .string ⟨#[]⟩] 28) (.cells #[.int .i64 1, .int .i64 0, .int .i64 0, .int .i64 0, .string ⟨#[]⟩] 28)
  have HFn := Lib.hid hFn
  have HNn := Lib.hid hNn
  have HBn := Lib.hid hBn
  clear hFn hNn hBn
  go_enter Try.func14, Try.ntmps14
  go_wp2_with fail
  refine (hB _).mono ?_
  clear hB
  rintro e _ ⟨rfl, rfl⟩
  go_wp2_with fail
  generalize hw0 : (w.alloc (.cells #[.int .i64 0, .int .i64 0, .int .i64 0, .int .i64 0, .string ⟨#[]⟩] 28)).alloc (.cells #[.int .i64 1, .int .i64 0, .int .i64 0, .int .i64 0, .string ⟨#[]⟩] 28) = w0 at *
  clear hw0
  refine (hRd _).mono ?_
  clear hRd
  rintro e w2 ⟨B, R, rfl, hB1, hR1, hBR, hrd2, hR2, hb2⟩
  have hF2 := HFn.out.below hb2 (box_lt HFn.out)
  have hN2 := (hb2.block _ (box_lt HNn.out)).trans HNn.out
  have hB2 := HBn.out.trans (hb2.mono HBn.out.size)
  have hz0 : w.heap.size + 1 < w0.heap.size := box_lt HFn.out
  have HW := Lib.hid (fields_any (w.heap.size + 1) 1 0 0 0 ⟨#[]⟩ w2 hF2)
  have HR2 := Lib.hid hR2
  have HRd2 := Lib.hid hrd2
  have HF2 := Lib.hid hF2
  have HN2 := Lib.hid hN2
  have HB2 := Lib.hid hB2
  have hRl := box_lt hR2
  clear hR2 hrd2 hF2 hN2 hB2 hb2
  go_wp2_with fail
  refine HW.out.mono ?_
  clear HW
  rintro e W1 ⟨v, rfl, ⟨G, b1, c1, b2, c2, b3, c3, b4, rfl, hG, hg, j1, j2, j3, j4⟩, hb3⟩
  have HG := Lib.hid hg
  have HR := Lib.hid ((hb3.block _ (box_lt HR2.out)).trans HR2.out)
  have HNz := Lib.hid ((hb3.block _ (box_lt HN2.out)).trans HN2.out)
  have HNl := Lib.hid (box_lt HNz.out)
  have HBw := Lib.hid (HB2.out.trans (hb3.mono HB2.out.size))
  have hst := And.intro (Keep.refl (fun k => k = B ∨ k = w.heap.size + 1) W1.heap.size W1) (And.intro (HRd2.out.below hb3 (box_lt HRd2.out)) (HF2.out.below hb3 (box_lt HF2.out)))
  have HST := Lib.hid hst
  clear hg hst hb3 HR2 HN2 HB2 HRd2 HF2 HFn HNn HBn
  go_wp2_with fail
  go_loopw [24] (GetRel_one (w.heap.size + 1) B W1 l0 l1 l2 l3 l4 e1 e2 e3 e4 n1 n2 n3 body) (fun i _ => (4 - intOf i).toNat)
  case atStart => exact .inl ⟨rfl, HST.out⟩
  case round =>
    rename_i wr
    clear HST
    rcases hrel with ⟨rfl, hkp, hrd, hFm⟩ | ⟨rfl, hkp, hrd, hFm⟩ | ⟨rfl, hkp, hrd, hFm⟩ | ⟨rfl, hkp, hrd, hFm⟩ | ⟨rfl, hkp, hrd, hFm⟩
    · have hgW := (hkp.block G (box_lt HG.out) (fun q => q.elim (fun g => by omega) (fun g => by omega))).trans HG.out
      have g0 : _ = some (numPutV b1) := cell_of_row _ _ 0 _ _ _ hgW
      have g1 : _ = some (numReadV c1 b1) := cell_of_row _ _ 1 _ _ _ hgW
      have hcp := ck2 hkp (p := ⟨b1, 0, none⟩) (show b1 ≠ B by have := j1.hp; omega) (show b1 ≠ w.heap.size + 1 by have := j1.hp; omega) j1.cp
      have hcm := ck2 hkp (p := ⟨c1, 0, none⟩) (show c1 ≠ B by have := j1.hm; omega) (show c1 ≠ w.heap.size + 1 by have := j1.hm; omega) j1.cm
      have hcR : _ = some (Value.pointer (some ⟨B, 0, none⟩)) := cell_of_row _ _ 0 _ _ _ ((hkp.block R (box_lt HR.out) (fun q => q.elim (fun g => by omega) (fun g => by omega))).trans HR.out)
      unfold numPutV at g0
      unfold numReadV at g1
      have hA := (Below.refl wr.heap.size wr).alloc (Nat.le_refl _) (.cells #[numPutV b1, numReadV c1 b1] 50)
      have hcall := numRead_any b1 c1 (w.heap.size + 1) 1 B R 16 (by omega) l0 0 (Nat.le_trans Hl0.out (by decide)) _ _ _ (cb hA hcp) (cb hA hcm) (cb hA hcR) (hrd.below hA (box_lt hrd)) (hFm.below hA (box_lt hFm)) rfl (by have := j1.hp; omega) (by have := j1.hm; omega) (by omega) (by omega) (by have := j1.hp; omega) (by have := j1.hm; omega) (by omega)
      rw [Q1.out] at hcall
      simp only at hcall
      unfold numPutV numReadV at hA
      unfold numPutV numReadV at hcall
      clear hgW hcp hcm hcR hrd hFm
      go_wp2_with fail
      refine hcall.mono ?_
      clear hcall
      rintro e w4 ⟨rfl, hrd4, hF4, hk4⟩
      have hkn := (hkp.trans (Keep.of_below hA hkp.size)).trans (hk4.weak (Nat.le_trans hkp.size hA.size) (fun _ _ g => g))
      have hgt := And.intro hkn (And.intro hrd4 hF4)
      clear hA hkn hk4 hrd4 hF4 hkp g0 g1
      go_wp2_with fail
      go_round
      case rel => exact .inr (.inl ⟨rfl, hgt⟩)
      case measure => simp [intOf]
    · have hgW := (hkp.block G (box_lt HG.out) (fun q => q.elim (fun g => by omega) (fun g => by omega))).trans HG.out
      have g0 : _ = some (numPutV b2) := cell_of_row _ _ 2 _ _ _ hgW
      have g1 : _ = some (numReadV c2 b2) := cell_of_row _ _ 3 _ _ _ hgW
      have hcp := ck2 hkp (p := ⟨b2, 0, none⟩) (show b2 ≠ B by have := j2.hp; omega) (show b2 ≠ w.heap.size + 1 by have := j2.hp; omega) j2.cp
      have hcm := ck2 hkp (p := ⟨c2, 0, none⟩) (show c2 ≠ B by have := j2.hm; omega) (show c2 ≠ w.heap.size + 1 by have := j2.hm; omega) j2.cm
      have hcR : _ = some (Value.pointer (some ⟨B, 0, none⟩)) := cell_of_row _ _ 0 _ _ _ ((hkp.block R (box_lt HR.out) (fun q => q.elim (fun g => by omega) (fun g => by omega))).trans HR.out)
      unfold numPutV at g0
      unfold numReadV at g1
      have hA := (Below.refl wr.heap.size wr).alloc (Nat.le_refl _) (.cells #[numPutV b2, numReadV c2 b2] 50)
      have hcall := numRead_any b2 c2 (w.heap.size + 1) 2 B R 1099511627776 (by omega) l1 e1 (Nat.le_trans Hl1.out (by decide)) _ _ _ (cb hA hcp) (cb hA hcm) (cb hA hcR) (hrd.below hA (box_lt hrd)) (hFm.below hA (box_lt hFm)) rfl (by have := j2.hp; omega) (by have := j2.hm; omega) (by omega) (by omega) (by have := j2.hp; omega) (by have := j2.hm; omega) (by omega)
      rw [Q2.out] at hcall
      simp only at hcall
      unfold numPutV numReadV at hA
      unfold numPutV numReadV at hcall
      clear hgW hcp hcm hcR hrd hFm
      go_wp2_with fail
      refine hcall.mono ?_
      clear hcall
      rintro e w4 ⟨rfl, hrd4, hF4, hk4⟩
      have hkn := (hkp.trans (Keep.of_below hA hkp.size)).trans (hk4.weak (Nat.le_trans hkp.size hA.size) (fun _ _ g => g))
      have hgt := And.intro hkn (And.intro hrd4 hF4)
      clear hA hkn hk4 hrd4 hF4 hkp g0 g1
      go_wp2_with fail
      go_round
      case rel => exact .inr (.inr (.inl ⟨rfl, hgt⟩))
      case measure => simp [intOf]
    · have hgW := (hkp.block G (box_lt HG.out) (fun q => q.elim (fun g => by omega) (fun g => by omega))).trans HG.out
      have g0 : _ = some (numPutV b3) := cell_of_row _ _ 4 _ _ _ hgW
      have g1 : _ = some (numReadV c3 b3) := cell_of_row _ _ 5 _ _ _ hgW
      have hcp := ck2 hkp (p := ⟨b3, 0, none⟩) (show b3 ≠ B by have := j3.hp; omega) (show b3 ≠ w.heap.size + 1 by have := j3.hp; omega) j3.cp
      have hcm := ck2 hkp (p := ⟨c3, 0, none⟩) (show c3 ≠ B by have := j3.hm; omega) (show c3 ≠ w.heap.size + 1 by have := j3.hm; omega) j3.cm
      have hcR : _ = some (Value.pointer (some ⟨B, 0, none⟩)) := cell_of_row _ _ 0 _ _ _ ((hkp.block R (box_lt HR.out) (fun q => q.elim (fun g => by omega) (fun g => by omega))).trans HR.out)
      unfold numPutV at g0
      unfold numReadV at g1
      have hA := (Below.refl wr.heap.size wr).alloc (Nat.le_refl _) (.cells #[numPutV b3, numReadV c3 b3] 50)
      have hcall := numRead_any b3 c3 (w.heap.size + 1) 3 B R 1099511627776 (by omega) l2 e2 (Nat.le_trans Hl2.out (by decide)) _ _ _ (cb hA hcp) (cb hA hcm) (cb hA hcR) (hrd.below hA (box_lt hrd)) (hFm.below hA (box_lt hFm)) rfl (by have := j3.hp; omega) (by have := j3.hm; omega) (by omega) (by omega) (by have := j3.hp; omega) (by have := j3.hm; omega) (by omega)
      rw [Q3.out] at hcall
      simp only at hcall
      unfold numPutV numReadV at hA
      unfold numPutV numReadV at hcall
      clear hgW hcp hcm hcR hrd hFm
      go_wp2_with fail
      refine hcall.mono ?_
      clear hcall
      rintro e w4 ⟨rfl, hrd4, hF4, hk4⟩
      have hkn := (hkp.trans (Keep.of_below hA hkp.size)).trans (hk4.weak (Nat.le_trans hkp.size hA.size) (fun _ _ g => g))
      have hgt := And.intro hkn (And.intro hrd4 hF4)
      clear hA hkn hk4 hrd4 hF4 hkp g0 g1
      go_wp2_with fail
      go_round
      case rel => exact .inr (.inr (.inr (.inl ⟨rfl, hgt⟩)))
      case measure => simp [intOf]
    · have hgW := (hkp.block G (box_lt HG.out) (fun q => q.elim (fun g => by omega) (fun g => by omega))).trans HG.out
      have g0 : _ = some (rowPutV b4) := cell_of_row _ _ 6 _ _ _ hgW
      have g1 : _ = some (rowReadV b4) := cell_of_row _ _ 7 _ _ _ hgW
      have hcp := ck2 hkp (p := ⟨b4, 0, none⟩) (show b4 ≠ B by have := j4.hp; omega) (show b4 ≠ w.heap.size + 1 by have := j4.hp; omega) j4.cp
      have hcR : _ = some (Value.pointer (some ⟨B, 0, none⟩)) := cell_of_row _ _ 0 _ _ _ ((hkp.block R (box_lt HR.out) (fun q => q.elim (fun g => by omega) (fun g => by omega))).trans HR.out)
      unfold rowPutV at g0
      unfold rowReadV at g1
      have hA := (Below.refl wr.heap.size wr).alloc (Nat.le_refl _) (.cells #[rowPutV b4, rowReadV b4] 50)
      have hcall := rowRead_any b4 (w.heap.size + 1) 4 B R l3 e3 (Nat.le_trans Hl3.out (by decide)) _ _ _ (cb hA hcp) (cb hA hcR) (hrd.below hA (box_lt hrd)) (hFm.below hA (box_lt hFm)) rfl (by have := j4.hp; omega) (by omega) (by omega) (by have := j4.hp; omega) (by omega)
      rw [Q4.out] at hcall
      simp only at hcall
      unfold rowPutV rowReadV at hA
      unfold rowPutV rowReadV at hcall
      clear hgW hcp hcR hrd hFm
      go_wp2_with fail
      refine hcall.mono ?_
      clear hcall
      rintro e w4 ⟨rfl, hrd4, hF4, hk4⟩
      have hkn := (hkp.trans (Keep.of_below hA hkp.size)).trans (hk4.weak (Nat.le_trans hkp.size hA.size) (fun _ _ g => g))
      have hgt := And.intro hkn (And.intro hrd4 hF4)
      clear hA hkn hk4 hrd4 hF4 hkp g0 g1
      go_wp2_with fail
      go_round
      case rel => exact .inr (.inr (.inr (.inr ⟨rfl, hgt⟩)))
      case measure => simp [intOf]
    · have hBw : Below w.heap.size w wr := HBw.out.trans (hkp.below (N := W1.heap.size) HBw.out.size (fun k g => g.elim (fun q => by omega) (fun q => by omega)))
      have hN := (hkp.block w.heap.size HNl.out (fun q => q.elim (fun g => by omega) (fun g => by omega))).trans HNz.out
      have hRW := (hkp.block R (box_lt HR.out) (fun q => q.elim (fun g => by omega) (fun g => by omega))).trans HR.out
      have hE := fends_any s (l4, e4) B R wr hs hRW hrd (HP.out.choose) (HP.out.choose_spec)
      go_wp2_with fail
      refine hE.mono ?_
      clear hE
      rintro e w5 ⟨rfl, hb5⟩
      have hN5 := (hb5.block _ (box_lt hN)).trans hN
      have hF5 := hFm.below hb5 (box_lt hFm)
      have hB5 := hBw.trans (hb5.mono hBw.size)
      clear hN hFm hBw hb5 hRW hrd hkp
      by_cases hc : endC s.data.toList (l4, e4) = 0
      · rw [hc] at HGE ⊢
        clear hc
        have HF5 := Lib.hid hF5
        have HN5 := Lib.hid hN5
        have HB5 := Lib.hid hB5
        have k0 : _ = some (Value.int .i64 1) := cell_of_row _ _ 0 _ _ _ hF5
        have k1 : _ = some (Value.int .i64 n1) := cell_of_row _ _ 1 _ _ _ hF5
        have k2 : _ = some (Value.int .i64 n2) := cell_of_row _ _ 2 _ _ _ hF5
        have k3 : _ = some (Value.int .i64 n3) := cell_of_row _ _ 3 _ _ _ hF5
        have k4 : _ = some (Value.string ⟨body.toArray⟩) := cell_of_row _ _ 4 _ _ _ hF5
        clear hF5 hN5 hB5
        have hM := fun w => pMay_any 1 n1 n2 n3 ⟨body.toArray⟩ w (HBL.out)
        rw [show mayI 1 n1 n2 n3 (⟨body.toArray⟩ : ByteArray).size = decide (frMay ⟨1, n1, n2, n3, body⟩) by rw [show (⟨body.toArray⟩ : ByteArray).size = body.length from size_bytes body]; exact mayI_fr 1 n1 n2 n3 body] at hM
        unfold frV at hM
        by_cases hm : frMay ⟨1, n1, n2, n3, body⟩
        · have HV : Hid (frGet s.data.toList = .ok ⟨1, n1, n2, n3, body⟩) := Lib.hid (by rw [HGE.out, if_neg (by simp), if_pos hm])
          rw [decide_eq_true hm] at hM
          clear hm HGE
          go_wp2_with fail
          refine (hM _).mono ?_
          clear hM
          rintro e w6 ⟨rfl, hb6⟩
          have hF6 := HF5.out.below hb6 (box_lt HF5.out)
          have hN6 := (hb6.block _ (box_lt HN5.out)).trans HN5.out
          have HB := Lib.hid (HB5.out.trans (hb6.mono HB5.out.size))
          have HN := Lib.hid hN6
          clear k0 k1 k2 k3 k4
          have k0 : _ = some (Value.int .i64 1) := cell_of_row _ _ 0 _ _ _ hF6
          have k1 : _ = some (Value.int .i64 n1) := cell_of_row _ _ 1 _ _ _ hF6
          have k2 : _ = some (Value.int .i64 n2) := cell_of_row _ _ 2 _ _ _ hF6
          have k3 : _ = some (Value.int .i64 n3) := cell_of_row _ _ 3 _ _ _ hF6
          have k4 : _ = some (Value.string ⟨body.toArray⟩) := cell_of_row _ _ 4 _ _ _ hF6
          have a0 : _ = some (Value.int .i64 0) := cell_of_row _ _ 0 _ _ _ hN6
          have a1 : _ = some (Value.int .i64 0) := cell_of_row _ _ 1 _ _ _ hN6
          have a2 : _ = some (Value.int .i64 0) := cell_of_row _ _ 2 _ _ _ hN6
          have a3 : _ = some (Value.int .i64 0) := cell_of_row _ _ 3 _ _ _ hN6
          have a4 : _ = some (Value.string ⟨#[]⟩) := cell_of_row _ _ 4 _ _ _ hN6
          have f0 := frozen_of_row _ _ 0 _ _ hN6
          have f1 := frozen_of_row _ _ 1 _ _ hN6
          have f2 := frozen_of_row _ _ 2 _ _ hN6
          have f3 := frozen_of_row _ _ 3 _ _ hN6
          have f4 := frozen_of_row _ _ 4 _ _ hN6
          clear hF6 hN6 hb6
          go_wp2
          exact bodyPost_ret (pfr_result (fn := Try.f14) (p := 2) (u := 3) rfl _ _ w.heap.size _ _ rfl rfl (answer_set HN.out _ _ _ _ _) rfl) rfl ⟨by rw [HV.out]; rfl, answer_below HB.out _ _ _ _ _⟩
        · have HV : Hid (frGet s.data.toList = .error 9) := Lib.hid (by rw [HGE.out, if_neg (by simp), if_neg hm])
          rw [decide_eq_false hm] at hM
          clear hm HGE
          go_wp2_with fail
          refine (hM _).mono ?_
          clear hM
          rintro e w6 ⟨rfl, hb6⟩
          have hN6 := (hb6.block _ (box_lt HN5.out)).trans HN5.out
          have HB := Lib.hid (HB5.out.trans (hb6.mono HB5.out.size))
          have HN := Lib.hid hN6
          clear k0 k1 k2 k3 k4
          have a0 : _ = some (Value.int .i64 0) := cell_of_row _ _ 0 _ _ _ hN6
          have a1 : _ = some (Value.int .i64 0) := cell_of_row _ _ 1 _ _ _ hN6
          have a2 : _ = some (Value.int .i64 0) := cell_of_row _ _ 2 _ _ _ hN6
          have a3 : _ = some (Value.int .i64 0) := cell_of_row _ _ 3 _ _ _ hN6
          have a4 : _ = some (Value.string ⟨#[]⟩) := cell_of_row _ _ 4 _ _ _ hN6
          have f0 := frozen_of_row _ _ 0 _ _ hN6
          have f1 := frozen_of_row _ _ 1 _ _ hN6
          have f2 := frozen_of_row _ _ 2 _ _ hN6
          have f3 := frozen_of_row _ _ 3 _ _ hN6
          have f4 := frozen_of_row _ _ 4 _ _ hN6
          clear hN6 hb6
          go_wp2
          exact bodyPost_ret (pfr_result (fn := Try.f14) (p := 2) (u := 3) rfl _ _ w.heap.size _ _ rfl rfl (answer_set HN.out _ _ _ _ _) rfl) rfl ⟨by rw [HV.out]; rfl, answer_below HB.out _ _ _ _ _⟩
      · have HV : Hid (frGet s.data.toList = .error (endC s.data.toList (l4, e4))) := Lib.hid (by rw [HGE.out, if_pos hc])
        have hcb : (endC s.data.toList (l4, e4) != 0) = true := by simpa using hc
        generalize endC s.data.toList (l4, e4) = c at *
        have HN := Lib.hid hN5
        have HB := Lib.hid hB5
        have a0 : _ = some (Value.int .i64 0) := cell_of_row _ _ 0 _ _ _ hN5
        have a1 : _ = some (Value.int .i64 0) := cell_of_row _ _ 1 _ _ _ hN5
        have a2 : _ = some (Value.int .i64 0) := cell_of_row _ _ 2 _ _ _ hN5
        have a3 : _ = some (Value.int .i64 0) := cell_of_row _ _ 3 _ _ _ hN5
        have a4 : _ = some (Value.string ⟨#[]⟩) := cell_of_row _ _ 4 _ _ _ hN5
        have f0 := frozen_of_row _ _ 0 _ _ hN5
        have f1 := frozen_of_row _ _ 1 _ _ hN5
        have f2 := frozen_of_row _ _ 2 _ _ hN5
        have f3 := frozen_of_row _ _ 3 _ _ hN5
        have f4 := frozen_of_row _ _ 4 _ _ hN5
        clear hN5 hF5 hB5 hc HGE
        go_wp2
        exact bodyPost_ret (pfr_result (fn := Try.f14) (p := 2) (u := 3) rfl _ _ w.heap.size _ _ rfl rfl (answer_set HN.out _ _ _ _ _) rfl) rfl ⟨by rw [HV.out]; rfl, answer_below HB.out _ _ _ _ _⟩
end Go.Proofs.Ytckknopjhmpnhaa
