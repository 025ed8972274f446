/- FrameTurned: the law's walk, where bytes are turned. -/
import Derived.Test.YtckknopjhmpnhaaLawFrameTurned
import Derived.Deep.QuietTactic
import Derived.BigQuiet
namespace Go.Proofs.Ytckknopjhmpnhaa
open Go.RowKit Go.Shelf

theorem below_dn {N : Nat} {w X : World} (h : Below N w X.drew) (n : Nat) : Below N w (X.drewN n) := ⟨h.os, h.tape, h.output, h.size, h.block⟩
theorem fbox_set {N : Nat} {k s q a : Int} {b : ByteArray} {w W : World} (h : FBox N k s q a b w W) {p : Addr} (hp : N < p.block) (v : Value) : FBox N k s q a b w (W.setCell p v) := by
  obtain ⟨h0, h1, h2, h3, h4, h5⟩ := h
  exact ⟨cset (a := p) (show N ≠ p.block by omega) h0, cset (a := p) (show N ≠ p.block by omega) h1, cset (a := p) (show N ≠ p.block by omega) h2, cset (a := p) (show N ≠ p.block by omega) h3, cset (a := p) (show N ≠ p.block by omega) h4, h5.setCell (by omega) _⟩
set_option maxRecDepth 100000 in
set_option maxHeartbeats 16000000 in
theorem lawFrameTurned_low (f : Fr) (at_ : Int) (x0 x1 x2 x3 : UInt8) (w : World) (hf : frMay f) (hL : ¬ 3000 < f.body.length) (ha0 : 0 ≤ at_) (ha1 : at_ < 65536) (hx : ¬ (x0 = 0 ∧ x1 = 0 ∧ x2 = 0 ∧ x3 = 0)) (h8 : ¬ ((frPut f).length : Int) - 8 < at_ % (((frPut f).length : Int) - 6)) :
    Calls Try.prog 7 #[frOf f, .int .u16 at_, .agg #[.int .u8 x0.toNat, .int .u8 x1.toNat, .int .u8 x2.toNat, .int .u8 x3.toNat]] w fun e w' => e = .returned (.bool true) ∧ Below w.heap.size w w' := by
  have hA := fun w => falive_any w
  have hP := fun w => pFPut_any f hf w
  obtain ⟨z9, z4⟩ := frPut_size hf (Nat.not_lt.1 hL)
  have hsz := size_bytes f.body
  have hm : mayI f.kind f.site f.seq f.ack (⟨f.body.toArray⟩ : ByteArray).size = true := by rw [hsz]; exact (mayI_fr f.kind f.site f.seq f.ack f.body).trans (decide_eq_true hf)
  obtain ⟨m, hm1, hm2⟩ : ∃ m : Nat, at_ % (((frPut f).length : Int) - 6) = (m : Int) ∧ m + 4 ≤ (frPut f).length := by
    have e1 := Int.emod_lt_of_pos at_ (show (0 : Int) < ((frPut f).length : Int) - 6 by omega)
    have e2 := Int.emod_nonneg at_ (show ((frPut f).length : Int) - 6 ≠ 0 by omega)
    exact ⟨(at_ % (((frPut f).length : Int) - 6)).toNat, by omega, by omega⟩
  have hot : ∀ T : List UInt8, T = turnL (frPut f) m (four x0 x1 x2 x3) 4 → _ := fun T hT => other_got (f := f) (T := T) (fun e => hx (by
    rw [hT] at e
    exact turn_same hm2 e))
  have hsl := size_bytes (frPut f)
  rw [← hsl] at z9 z4 hm2 h8 hm1
  rw [← hsz] at hL
  have hxb : ((x0.toNat : Int) == 0 && (x1.toNat : Int) == 0 && (x2.toNat : Int) == 0 && (x3.toNat : Int) == 0) = false := by
    cases hq : ((x0.toNat : Int) == 0 && (x1.toNat : Int) == 0 && (x2.toNat : Int) == 0 && (x3.toNat : Int) == 0) with
    | false => rfl
    | true =>
      simp only [Bool.and_eq_true, beq_iff_eq] at hq
      obtain ⟨⟨⟨q0, q1⟩, q2⟩, q3⟩ := hq
      exact absurd ⟨UInt8.toNat_inj.1 (by simp; omega), UInt8.toNat_inj.1 (by simp; omega), UInt8.toNat_inj.1 (by simp; omega), UInt8.toNat_inj.1 (by simp; omega)⟩ hx
  have hq := fun w => eq_four (x0.toNat : Int) (x1.toNat : Int) (x2.toNat : Int) (x3.toNat : Int) w
  rw [hxb] at hq
  clear hsl hsz hf hx hxb
  have hlA : (⟨(frPut f).toArray⟩ : ByteArray).data.toList = frPut f := by simp
  rw [← hlA] at hot
  have HOT := Lib.hid hot
  unfold frOf at hP ⊢
  clear hlA hot
  obtain ⟨b, hb⟩ : ∃ b : ByteArray, b = ⟨f.body.toArray⟩ := ⟨_, rfl⟩
  rw [← hb] at hP hm hL HOT ⊢
  obtain ⟨A, hAA⟩ : ∃ A : ByteArray, A = ⟨(frPut f).toArray⟩ := ⟨_, rfl⟩
  rw [← hAA] at hP HOT z9 z4 hm2 h8 hm1
  clear hb hAA
  generalize (f.kind : Int) = k at *
  generalize (f.site : Int) = s at *
  generalize (f.seq : Int) = q at *
  generalize (f.ack : Int) = a at *
  have hO := fun w => of_frame k s q a b w
  have hR := fun w => rMay_any k s q a b w (by omega)
  rw [hm] at hR
  clear hm
  unfold frV at hO hP hR ⊢
  have hN := (FBox.new k s q a b w 23).keep ((Below.refl _ _).alloc (Nat.le_refl _) (.cells #[.int .u8 x0.toNat, .int .u8 x1.toNat, .int .u8 x2.toNat, .int .u8 x3.toNat] 41))
  have hrow := heap_alloc_new (w.alloc (.cells #[.int .i64 k, .int .i64 s, .int .i64 q, .int .i64 a, .string b] 23)) (.cells #[.int .u8 x0.toNat, .int .u8 x1.toNat, .int .u8 x2.toNat, .int .u8 x3.toNat] 41)
  rw [show (w.alloc (.cells #[.int .i64 k, .int .i64 s, .int .i64 q, .int .i64 a, .string b] 23)).heap.size = w.heap.size + 1 by simp] at hrow
  have hz6 : ¬ (A.size : Int) - 6 = 0 := by omega
  have hz6' : (0 : Int) ≤ (A.size : Int) - 6 := by omega
  go_enter Try.func7, Try.ntmps7
  go_wp2_with fail
  refine (hA _).mono ?_
  clear hA
  rintro e w1 ⟨rfl, hb1⟩
  have h1 := hN.keep hb1
  obtain ⟨c0, c1, c2, c3, c4⟩ := h1.cells
  have hrow1 := (hb1.block _ (box_lt hrow)).trans hrow
  clear hN hb1 hrow
  go_wp2_with fail
  refine (hR _).mono ?_
  clear hR
  rintro e w2 ⟨rfl, hb2⟩
  have h2 := h1.keep hb2
  clear c0 c1 c2 c3 c4
  obtain ⟨c0, c1, c2, c3, c4⟩ := h2.cells
  have hrow2 := (hb2.block _ (box_lt hrow1)).trans hrow1
  have b0 : _ = some (Value.int .u8 (x0.toNat : Nat)) := cell_of_row _ _ 0 _ _ _ hrow2
  have b1 : _ = some (Value.int .u8 (x1.toNat : Nat)) := cell_of_row _ _ 1 _ _ _ hrow2
  have b2 : _ = some (Value.int .u8 (x2.toNat : Nat)) := cell_of_row _ _ 2 _ _ _ hrow2
  have b3 : _ = some (Value.int .u8 (x3.toNat : Nat)) := cell_of_row _ _ 3 _ _ _ hrow2
  clear h1 hb2 hrow1
  go_wp2_with fail
  refine (hO _).mono ?_
  clear hO
  rintro e w3 ⟨rfl, hb3⟩
  have h3 := h2.keep hb3
  have hrow3 := (hb3.block _ (box_lt hrow2)).trans hrow2
  clear c0 c1 c2 c3 c4 b0 b1 b2 b3 h2 hb3 hrow2 hq
  go_wp2_with fail
  refine (hP _).mono ?_
  clear hP
  rintro e w4 ⟨rfl, hb4⟩
  have h4 := h3.keep hb4
  have hrow4 := (hb4.block _ (box_lt hrow3)).trans hrow3
  clear h3 hb4 hrow3
  have hcv1 := run_bytes_of_string (P := Try.prog) w4 9 42 5 A Try.underlying9 Try.underlying42 Try.underlying5
  have hbrow := bytes_row w4.drew A (grownCap w4 A.size 0 5) 5
  have hwlt : w.heap.size + 1 < w4.heap.size := box_lt hrow4
  have hB5 : Below w4.heap.size w4 (w4.drew.alloc (.cells (bytesRow A (grownCap w4 A.size 0 5)) 5 ((bytesRow A (grownCap w4 A.size 0 5)).size, (bytesRow A (grownCap w4 A.size 0 5)).size + 1))) := (Below.refl _ _).drew.alloc (Nat.le_refl _) _
  have h5 := h4.keep hB5
  have hrow5 := (hB5.block _ hwlt).trans hrow4
  have hs5 := hB5.size
  clear h4 hrow4 hB5
  generalize grownCap w4 A.size 0 5 = cap at *
  generalize w4.drew.alloc (.cells (bytesRow A cap) 5 ((bytesRow A cap).size, (bytesRow A cap).size + 1)) = w5 at *
  rw [show (w4.drew).heap.size = w4.heap.size from rfl] at hbrow
  have hby : ∀ i, i < 4 → w5.cell? ⟨w.heap.size + 1, i, none⟩ = some (.int .u8 ((four x0 x1 x2 x3 i).toNat : Nat)) := fun i hi => by
    rw [cell_of_row _ _ i _ _ _ hrow5]
    match i, hi with
    | 0, _ => rfl
    | 1, _ => rfl
    | 2, _ => rfl
    | 3, _ => rfl
  have Hrow := Lib.hid hbrow
  have Hby := Lib.hid hby
  have HS := Lib.hid (Lib.size_eq A)
  have Hm := Lib.hid hm1
  have H5 := Lib.hid h5
  have hA4 : (4 : Int) ≤ (A.size : Int) := by omega
  clear hbrow hby hrow5 h5
  go_wp2_with fail
  rw [Hm.out]
  clear hcv1
  go_loopw [11] (fun i wr => ∃ k_ : Nat, k_ ≤ 4 ∧ i = .int .i64 k_ ∧ BRow wr w4.heap.size (turnL A.data.toList m (four x0 x1 x2 x3) k_) ∧ (∀ i, i < 4 → wr.cell? ⟨w.heap.size + 1, i, none⟩ = some (.int .u8 ((four x0 x1 x2 x3 i).toNat : Nat))) ∧ FBox w.heap.size k s q a b w wr) (fun i _ => 4 - (intOf i).toNat)
  case atStart => exact ⟨0, by omega, rfl, Hrow.out, Hby.out, H5.out⟩
  case round =>
    rename_i wr
    obtain ⟨j, hj, rfl, hr, hby, hbr⟩ := hrel
    by_cases hlt : j < 4
    · have hle := turnL_length A.data.toList m (four x0 x1 x2 x3) j
      have hi : m + j < (turnL A.data.toList m (four x0 x1 x2 x3) j).length := by rw [hle, ← HS.out]; omega
      obtain ⟨hc, hf⟩ := hr (m + j) hi
      have hcb := hby j hlt
      have hst := hr.set (m + j) ((turnL A.data.toList m (four x0 x1 x2 x3) j)[m + j] ^^^ four x0 x1 x2 x3 j)
      have htn : turnL A.data.toList m (four x0 x1 x2 x3) (j + 1) = (turnL A.data.toList m (four x0 x1 x2 x3) j).set (m + j) ((turnL A.data.toList m (four x0 x1 x2 x3) j)[m + j] ^^^ four x0 x1 x2 x3 j) := by
        rw [turnL, List.getElem?_eq_getElem hi]; rfl
      rw [← htn] at hst
      have Hst := Lib.hid hst
      have Hbb := Lib.hid hby
      have Hbr := Lib.hid hbr
      have hx := xor8 ((turnL A.data.toList m (four x0 x1 x2 x3) j)[m + j]) (four x0 x1 x2 x3 j)
      generalize (turnL A.data.toList m (four x0 x1 x2 x3) j)[m + j] ^^^ four x0 x1 x2 x3 j = z at *
      generalize (turnL A.data.toList m (four x0 x1 x2 x3) j)[m + j] = y at *
      generalize four x0 x1 x2 x3 j = z2 at *
      have hik : (m : Int) + (j : Int) < (A.size : Int) := by omega
      have hi0 : (0 : Int) ≤ (m : Int) + (j : Int) := by omega
      have hin : ((m : Int) + (j : Int)).toNat = m + j := by omega
      have hwp : IntKind.i64.wrap ((m : Int) + (j : Int)) = (m : Int) + (j : Int) := IntWalk.i64_in _ (by omega)
      clear htn hst hby hle hr hi hm1 h8 hbr
      go_wp2
      go_still_tail 15, (by kernel_rfl)
      change wpList _ _ _ _ _ wr.drew
      go_wp2
      exact ⟨⟨j + 1, by omega, by congr 1, Hst.out, fun i hi => by rw [World.cell?_drew, World.cell?_setCell_other _ _ _ _ (by intro he; have := congrArg Addr.block he; simp at this; omega)]; exact Hbb.out i hi, (fbox_set Hbr.out (by show w.heap.size < w4.heap.size; omega) _).drew⟩, by simp [intOf]; omega⟩
    · obtain rfl : j = 4 := by omega
      have hle := turnL_length A.data.toList m (four x0 x1 x2 x3) 4
      obtain ⟨k', s', q', a', b', c, hv, hcx⟩ := HOT.out _ rfl
      have HCX := Lib.hid hcx
      clear hcx
      generalize hT : turnL A.data.toList m (four x0 x1 x2 x3) 4 = T at *
      have hTn : T.length = A.size := by rw [hle, ← HS.out]
      have hG := fun w => pFGet_any ⟨T.toArray⟩ w (by rw [size_bytes]; omega)
      rw [show (⟨T.toArray⟩ : ByteArray).data.toList = T by simp, hv] at hG
      have hcv1 : (convert 42 9 (.slice (some ⟨w4.heap.size, 0, none⟩) A.size cap)).run Try.prog wr = .ok (.string ⟨T.toArray⟩) wr := by
        rw [← hTn]
        refine run_convert_bytes_back (P := Try.prog) wr 42 9 5 ⟨w4.heap.size, 0, none⟩ cap T Try.underlying42 Try.underlying5 Try.underlying9 fun j hj => ?_
        have e : (⟨w4.heap.size, 0, none⟩ : Addr).add j = ⟨w4.heap.size, j, none⟩ := by simp [Addr.add]; omega
        rw [e]
        exact (hr j hj).1
      clear hby hr hT hle hTn hv hm1 h8 Hrow Hby HOT H5 Hm
      have hQ := fun w => plain_frame k' s' q' a' b' w
      unfold frV at hG hQ
      have Hbr := Lib.hid hbr
      clear hbr
      go_wp2_with fail
      refine (hG _).mono ?_
      clear hG
      rintro e w6 ⟨rfl, hb6⟩
      have h6 := (Hbr.out.keep hb6).keep ((Below.refl w6.heap.size w6).alloc (Nat.le_refl _) (.cells #[.int .i64 k', .int .i64 s', .int .i64 q', .int .i64 a', .string b'] 28))
      have hM := FBox.new k' s' q' a' b' w6 28
      have hx := And.intro h6.drew hM.drew
      clear h6 hM hb6 hcv1
      rcases HCX.out with hc | ⟨rfl, hne⟩
      · have Hbx := Lib.hid hx
        clear hx HCX
        rcases hc with rfl | rfl | rfl | rfl
        all_goals
          have hz := Hbx.out.1.2.2.2.2.2
          go_wp2_with fail
          go_quiet (fail)
          go_wp2
          go_ret
          exact ⟨rfl, below_dn hz _⟩
      · have hE := fun w => eqR_neq w k' s' q' a' k s q a b' b false hne
        clear hne HCX
        go_wp2_with fail
        go_region_held (fun W => (W.cell? ⟨w.heap.size, 0, none⟩ = some (.int .i64 k) ∧ W.cell? ⟨w.heap.size, 1, none⟩ = some (.int .i64 s) ∧ W.cell? ⟨w.heap.size, 2, none⟩ = some (.int .i64 q) ∧ W.cell? ⟨w.heap.size, 3, none⟩ = some (.int .i64 a) ∧ W.cell? ⟨w.heap.size, 4, none⟩ = some (.string b) ∧ Below w.heap.size w W) ∧
            (W.cell? ⟨w6.heap.size, 0, none⟩ = some (.int .i64 k') ∧ W.cell? ⟨w6.heap.size, 1, none⟩ = some (.int .i64 s') ∧ W.cell? ⟨w6.heap.size, 2, none⟩ = some (.int .i64 q') ∧ W.cell? ⟨w6.heap.size, 3, none⟩ = some (.int .i64 a') ∧ W.cell? ⟨w6.heap.size, 4, none⟩ = some (.string b') ∧ Below w6.heap.size w6 W))
          (first | exact hx | assumption | exact keepTwo (by assumption) hb)
          (first | (go_at_call 16; refine (hQ _).mono ?_; rintro e w4 ⟨rfl, hb⟩))
        all_goals
          rename_i hHeld
          have hz := hHeld.1.2.2.2.2.2
          clear hHeld hx hE hQ
          go_wp2
          go_ret
          exact ⟨rfl, hz⟩
set_option maxRecDepth 100000 in
set_option maxHeartbeats 16000000 in
theorem lawFrameTurned_high (f : Fr) (at_ : Int) (x0 x1 x2 x3 : UInt8) (w : World) (hf : frMay f) (hL : ¬ 3000 < f.body.length) (ha0 : 0 ≤ at_) (ha1 : at_ < 65536) (hx : ¬ (x0 = 0 ∧ x1 = 0 ∧ x2 = 0 ∧ x3 = 0)) (h8 : ((frPut f).length : Int) - 8 < at_ % (((frPut f).length : Int) - 6)) :
    Calls Try.prog 7 #[frOf f, .int .u16 at_, .agg #[.int .u8 x0.toNat, .int .u8 x1.toNat, .int .u8 x2.toNat, .int .u8 x3.toNat]] w fun e w' => e = .returned (.bool true) ∧ Below w.heap.size w w' := by
  have hA := fun w => falive_any w
  have hP := fun w => pFPut_any f hf w
  obtain ⟨z9, z4⟩ := frPut_size hf (Nat.not_lt.1 hL)
  have hsz := size_bytes f.body
  have hm : mayI f.kind f.site f.seq f.ack (⟨f.body.toArray⟩ : ByteArray).size = true := by rw [hsz]; exact (mayI_fr f.kind f.site f.seq f.ack f.body).trans (decide_eq_true hf)
  obtain ⟨m, hm1, hm2⟩ : ∃ m : Nat, ((frPut f).length : Int) - 4 = (m : Int) ∧ m + 4 ≤ (frPut f).length := by
    have e1 := Int.emod_lt_of_pos at_ (show (0 : Int) < ((frPut f).length : Int) - 6 by omega)
    have e2 := Int.emod_nonneg at_ (show ((frPut f).length : Int) - 6 ≠ 0 by omega)
    exact ⟨(((frPut f).length : Int) - 4).toNat, by omega, by omega⟩
  have hot : ∀ T : List UInt8, T = turnL (frPut f) m (four x0 x1 x2 x3) 4 → _ := fun T hT => other_got (f := f) (T := T) (fun e => hx (by
    rw [hT] at e
    exact turn_same hm2 e))
  have hsl := size_bytes (frPut f)
  rw [← hsl] at z9 z4 hm2 h8 hm1
  rw [← hsz] at hL
  have hxb : ((x0.toNat : Int) == 0 && (x1.toNat : Int) == 0 && (x2.toNat : Int) == 0 && (x3.toNat : Int) == 0) = false := by
    cases hq : ((x0.toNat : Int) == 0 && (x1.toNat : Int) == 0 && (x2.toNat : Int) == 0 && (x3.toNat : Int) == 0) with
    | false => rfl
    | true =>
      simp only [Bool.and_eq_true, beq_iff_eq] at hq
      obtain ⟨⟨⟨q0, q1⟩, q2⟩, q3⟩ := hq
      exact absurd ⟨UInt8.toNat_inj.1 (by simp; omega), UInt8.toNat_inj.1 (by simp; omega), UInt8.toNat_inj.1 (by simp; omega), UInt8.toNat_inj.1 (by simp; omega)⟩ hx
  have hq := fun w => eq_four (x0.toNat : Int) (x1.toNat : Int) (x2.toNat : Int) (x3.toNat : Int) w
  rw [hxb] at hq
  clear hsl hsz hf hx hxb
  have hlA : (⟨(frPut f).toArray⟩ : ByteArray).data.toList = frPut f := by simp
  rw [← hlA] at hot
  have HOT := Lib.hid hot
  unfold frOf at hP ⊢
  clear hlA hot
  obtain ⟨b, hb⟩ : ∃ b : ByteArray, b = ⟨f.body.toArray⟩ := ⟨_, rfl⟩
  rw [← hb] at hP hm hL HOT ⊢
  obtain ⟨A, hAA⟩ : ∃ A : ByteArray, A = ⟨(frPut f).toArray⟩ := ⟨_, rfl⟩
  rw [← hAA] at hP HOT z9 z4 hm2 h8 hm1
  clear hb hAA
  generalize (f.kind : Int) = k at *
  generalize (f.site : Int) = s at *
  generalize (f.seq : Int) = q at *
  generalize (f.ack : Int) = a at *
  have hO := fun w => of_frame k s q a b w
  have hR := fun w => rMay_any k s q a b w (by omega)
  rw [hm] at hR
  clear hm
  unfold frV at hO hP hR ⊢
  have hN := (FBox.new k s q a b w 23).keep ((Below.refl _ _).alloc (Nat.le_refl _) (.cells #[.int .u8 x0.toNat, .int .u8 x1.toNat, .int .u8 x2.toNat, .int .u8 x3.toNat] 41))
  have hrow := heap_alloc_new (w.alloc (.cells #[.int .i64 k, .int .i64 s, .int .i64 q, .int .i64 a, .string b] 23)) (.cells #[.int .u8 x0.toNat, .int .u8 x1.toNat, .int .u8 x2.toNat, .int .u8 x3.toNat] 41)
  rw [show (w.alloc (.cells #[.int .i64 k, .int .i64 s, .int .i64 q, .int .i64 a, .string b] 23)).heap.size = w.heap.size + 1 by simp] at hrow
  have hz6 : ¬ (A.size : Int) - 6 = 0 := by omega
  have hz6' : (0 : Int) ≤ (A.size : Int) - 6 := by omega
  go_enter Try.func7, Try.ntmps7
  go_wp2_with fail
  refine (hA _).mono ?_
  clear hA
  rintro e w1 ⟨rfl, hb1⟩
  have h1 := hN.keep hb1
  obtain ⟨c0, c1, c2, c3, c4⟩ := h1.cells
  have hrow1 := (hb1.block _ (box_lt hrow)).trans hrow
  clear hN hb1 hrow
  go_wp2_with fail
  refine (hR _).mono ?_
  clear hR
  rintro e w2 ⟨rfl, hb2⟩
  have h2 := h1.keep hb2
  clear c0 c1 c2 c3 c4
  obtain ⟨c0, c1, c2, c3, c4⟩ := h2.cells
  have hrow2 := (hb2.block _ (box_lt hrow1)).trans hrow1
  have b0 : _ = some (Value.int .u8 (x0.toNat : Nat)) := cell_of_row _ _ 0 _ _ _ hrow2
  have b1 : _ = some (Value.int .u8 (x1.toNat : Nat)) := cell_of_row _ _ 1 _ _ _ hrow2
  have b2 : _ = some (Value.int .u8 (x2.toNat : Nat)) := cell_of_row _ _ 2 _ _ _ hrow2
  have b3 : _ = some (Value.int .u8 (x3.toNat : Nat)) := cell_of_row _ _ 3 _ _ _ hrow2
  clear h1 hb2 hrow1
  go_wp2_with fail
  refine (hO _).mono ?_
  clear hO
  rintro e w3 ⟨rfl, hb3⟩
  have h3 := h2.keep hb3
  have hrow3 := (hb3.block _ (box_lt hrow2)).trans hrow2
  clear c0 c1 c2 c3 c4 b0 b1 b2 b3 h2 hb3 hrow2 hq
  go_wp2_with fail
  refine (hP _).mono ?_
  clear hP
  rintro e w4 ⟨rfl, hb4⟩
  have h4 := h3.keep hb4
  have hrow4 := (hb4.block _ (box_lt hrow3)).trans hrow3
  clear h3 hb4 hrow3
  have hcv1 := run_bytes_of_string (P := Try.prog) w4 9 42 5 A Try.underlying9 Try.underlying42 Try.underlying5
  have hbrow := bytes_row w4.drew A (grownCap w4 A.size 0 5) 5
  have hwlt : w.heap.size + 1 < w4.heap.size := box_lt hrow4
  have hB5 : Below w4.heap.size w4 (w4.drew.alloc (.cells (bytesRow A (grownCap w4 A.size 0 5)) 5 ((bytesRow A (grownCap w4 A.size 0 5)).size, (bytesRow A (grownCap w4 A.size 0 5)).size + 1))) := (Below.refl _ _).drew.alloc (Nat.le_refl _) _
  have h5 := h4.keep hB5
  have hrow5 := (hB5.block _ hwlt).trans hrow4
  have hs5 := hB5.size
  clear h4 hrow4 hB5
  generalize grownCap w4 A.size 0 5 = cap at *
  generalize w4.drew.alloc (.cells (bytesRow A cap) 5 ((bytesRow A cap).size, (bytesRow A cap).size + 1)) = w5 at *
  rw [show (w4.drew).heap.size = w4.heap.size from rfl] at hbrow
  have hby : ∀ i, i < 4 → w5.cell? ⟨w.heap.size + 1, i, none⟩ = some (.int .u8 ((four x0 x1 x2 x3 i).toNat : Nat)) := fun i hi => by
    rw [cell_of_row _ _ i _ _ _ hrow5]
    match i, hi with
    | 0, _ => rfl
    | 1, _ => rfl
    | 2, _ => rfl
    | 3, _ => rfl
  have Hrow := Lib.hid hbrow
  have Hby := Lib.hid hby
  have HS := Lib.hid (Lib.size_eq A)
  have Hm := Lib.hid hm1
  have H5 := Lib.hid h5
  have hA4 : (4 : Int) ≤ (A.size : Int) := by omega
  clear hbrow hby hrow5 h5 hm1
  go_wp2_with fail
  rw [Hm.out]
  clear hcv1
  go_loopw [11] (fun i wr => ∃ k_ : Nat, k_ ≤ 4 ∧ i = .int .i64 k_ ∧ BRow wr w4.heap.size (turnL A.data.toList m (four x0 x1 x2 x3) k_) ∧ (∀ i, i < 4 → wr.cell? ⟨w.heap.size + 1, i, none⟩ = some (.int .u8 ((four x0 x1 x2 x3 i).toNat : Nat))) ∧ FBox w.heap.size k s q a b w wr) (fun i _ => 4 - (intOf i).toNat)
  case atStart => exact ⟨0, by omega, rfl, Hrow.out, Hby.out, H5.out⟩
  case round =>
    rename_i wr
    obtain ⟨j, hj, rfl, hr, hby, hbr⟩ := hrel
    by_cases hlt : j < 4
    · have hle := turnL_length A.data.toList m (four x0 x1 x2 x3) j
      have hi : m + j < (turnL A.data.toList m (four x0 x1 x2 x3) j).length := by rw [hle, ← HS.out]; omega
      obtain ⟨hc, hf⟩ := hr (m + j) hi
      have hcb := hby j hlt
      have hst := hr.set (m + j) ((turnL A.data.toList m (four x0 x1 x2 x3) j)[m + j] ^^^ four x0 x1 x2 x3 j)
      have htn : turnL A.data.toList m (four x0 x1 x2 x3) (j + 1) = (turnL A.data.toList m (four x0 x1 x2 x3) j).set (m + j) ((turnL A.data.toList m (four x0 x1 x2 x3) j)[m + j] ^^^ four x0 x1 x2 x3 j) := by
        rw [turnL, List.getElem?_eq_getElem hi]; rfl
      rw [← htn] at hst
      have Hst := Lib.hid hst
      have Hbb := Lib.hid hby
      have Hbr := Lib.hid hbr
      have hx := xor8 ((turnL A.data.toList m (four x0 x1 x2 x3) j)[m + j]) (four x0 x1 x2 x3 j)
      generalize (turnL A.data.toList m (four x0 x1 x2 x3) j)[m + j] ^^^ four x0 x1 x2 x3 j = z at *
      generalize (turnL A.data.toList m (four x0 x1 x2 x3) j)[m + j] = y at *
      generalize four x0 x1 x2 x3 j = z2 at *
      have hik : (m : Int) + (j : Int) < (A.size : Int) := by omega
      have hi0 : (0 : Int) ≤ (m : Int) + (j : Int) := by omega
      have hin : ((m : Int) + (j : Int)).toNat = m + j := by omega
      have hwp : IntKind.i64.wrap ((m : Int) + (j : Int)) = (m : Int) + (j : Int) := IntWalk.i64_in _ (by omega)
      clear htn hst hby hle hr hi h8 hbr
      go_wp2
      go_still_tail 15, (by kernel_rfl)
      change wpList _ _ _ _ _ wr.drew
      go_wp2
      exact ⟨⟨j + 1, by omega, by congr 1, Hst.out, fun i hi => by rw [World.cell?_drew, World.cell?_setCell_other _ _ _ _ (by intro he; have := congrArg Addr.block he; simp at this; omega)]; exact Hbb.out i hi, (fbox_set Hbr.out (by show w.heap.size < w4.heap.size; omega) _).drew⟩, by simp [intOf]; omega⟩
    · obtain rfl : j = 4 := by omega
      have hle := turnL_length A.data.toList m (four x0 x1 x2 x3) 4
      obtain ⟨k', s', q', a', b', c, hv, hcx⟩ := HOT.out _ rfl
      have HCX := Lib.hid hcx
      clear hcx
      generalize hT : turnL A.data.toList m (four x0 x1 x2 x3) 4 = T at *
      have hTn : T.length = A.size := by rw [hle, ← HS.out]
      have hG := fun w => pFGet_any ⟨T.toArray⟩ w (by rw [size_bytes]; omega)
      rw [show (⟨T.toArray⟩ : ByteArray).data.toList = T by simp, hv] at hG
      have hcv1 : (convert 42 9 (.slice (some ⟨w4.heap.size, 0, none⟩) A.size cap)).run Try.prog wr = .ok (.string ⟨T.toArray⟩) wr := by
        rw [← hTn]
        refine run_convert_bytes_back (P := Try.prog) wr 42 9 5 ⟨w4.heap.size, 0, none⟩ cap T Try.underlying42 Try.underlying5 Try.underlying9 fun j hj => ?_
        have e : (⟨w4.heap.size, 0, none⟩ : Addr).add j = ⟨w4.heap.size, j, none⟩ := by simp [Addr.add]; omega
        rw [e]
        exact (hr j hj).1
      clear hby hr hT hle hTn hv h8 Hrow Hby HOT H5 Hm
      have hQ := fun w => plain_frame k' s' q' a' b' w
      unfold frV at hG hQ
      have Hbr := Lib.hid hbr
      clear hbr
      go_wp2_with fail
      refine (hG _).mono ?_
      clear hG
      rintro e w6 ⟨rfl, hb6⟩
      have h6 := (Hbr.out.keep hb6).keep ((Below.refl w6.heap.size w6).alloc (Nat.le_refl _) (.cells #[.int .i64 k', .int .i64 s', .int .i64 q', .int .i64 a', .string b'] 28))
      have hM := FBox.new k' s' q' a' b' w6 28
      have hx := And.intro h6.drew hM.drew
      clear h6 hM hb6 hcv1
      rcases HCX.out with hc | ⟨rfl, hne⟩
      · have Hbx := Lib.hid hx
        clear hx HCX
        rcases hc with rfl | rfl | rfl | rfl
        all_goals
          have hz := Hbx.out.1.2.2.2.2.2
          go_wp2_with fail
          go_quiet (fail)
          go_wp2
          go_ret
          exact ⟨rfl, below_dn hz _⟩
      · have hE := fun w => eqR_neq w k' s' q' a' k s q a b' b false hne
        clear hne HCX
        go_wp2_with fail
        go_region_held (fun W => (W.cell? ⟨w.heap.size, 0, none⟩ = some (.int .i64 k) ∧ W.cell? ⟨w.heap.size, 1, none⟩ = some (.int .i64 s) ∧ W.cell? ⟨w.heap.size, 2, none⟩ = some (.int .i64 q) ∧ W.cell? ⟨w.heap.size, 3, none⟩ = some (.int .i64 a) ∧ W.cell? ⟨w.heap.size, 4, none⟩ = some (.string b) ∧ Below w.heap.size w W) ∧
            (W.cell? ⟨w6.heap.size, 0, none⟩ = some (.int .i64 k') ∧ W.cell? ⟨w6.heap.size, 1, none⟩ = some (.int .i64 s') ∧ W.cell? ⟨w6.heap.size, 2, none⟩ = some (.int .i64 q') ∧ W.cell? ⟨w6.heap.size, 3, none⟩ = some (.int .i64 a') ∧ W.cell? ⟨w6.heap.size, 4, none⟩ = some (.string b') ∧ Below w6.heap.size w6 W))
          (first | exact hx | assumption | exact keepTwo (by assumption) hb)
          (first | (go_at_call 16; refine (hQ _).mono ?_; rintro e w4 ⟨rfl, hb⟩))
        all_goals
          rename_i hHeld
          have hz := hHeld.1.2.2.2.2.2
          clear hHeld hx hE hQ
          go_wp2
          go_ret
          exact ⟨rfl, hz⟩
theorem lawFrameTurned_any (k s q a : Int) (b : ByteArray) (at_ : Int) (x0 x1 x2 x3 : UInt8) (w : World) (hb : b.size ≤ maxLen) (ha0 : 0 ≤ at_) (ha1 : at_ < 65536) :
    Calls Try.prog 7 #[frV k s q a b, .int .u16 at_, .agg #[.int .u8 x0.toNat, .int .u8 x1.toNat, .int .u8 x2.toNat, .int .u8 x3.toNat]] w fun e w' => e = .returned (.bool true) ∧ Below w.heap.size w w' := by
  unfold maxLen at hb
  by_cases h1 : 3000 < b.size
  · exact lawFrameTurned_long k s q a b at_ x0 x1 x2 x3 w (by omega) (.inl h1)
  · by_cases h3 : mayI k s q a b.size = true
    · by_cases hx : x0 = 0 ∧ x1 = 0 ∧ x2 = 0 ∧ x3 = 0
      · exact lawFrameTurned_long k s q a b at_ x0 x1 x2 x3 w (by omega) (.inr (.inr ⟨h3, hx⟩))
      · obtain ⟨f, hf, hv, hbody⟩ := mayI_yes h3
        rw [hv]
        have hl : ¬ 3000 < f.body.length := by rw [hbody, ← Lib.size_eq]; exact h1
        by_cases h8 : ((frPut f).length : Int) - 8 < at_ % (((frPut f).length : Int) - 6)
        · exact lawFrameTurned_high f at_ x0 x1 x2 x3 w hf hl ha0 ha1 hx h8
        · exact lawFrameTurned_low f at_ x0 x1 x2 x3 w hf hl ha0 ha1 hx h8
    · exact lawFrameTurned_long k s q a b at_ x0 x1 x2 x3 w (by omega) (.inr (.inl (by simpa using h3)))
end Go.Proofs.Ytckknopjhmpnhaa
