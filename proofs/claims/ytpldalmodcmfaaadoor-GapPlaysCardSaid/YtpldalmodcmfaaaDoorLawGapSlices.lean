/- The law GapSlices. -/
import Derived.Test.YtpldalmodcmfaaaDoorActFold
namespace Go.Proofs.YtpldalmodcmfaaaDoor
open Go.RowKit

theorem below_box {w w1 : World} {o : Obj} {q : Nat} (h : Below ((w.alloc o).drewN q).heap.size ((w.alloc o).drewN q) w1) : Below w.heap.size w w1 :=
  (below_drewN ((Below.refl _ w).alloc (Nat.le_refl _) o) q).trans (h.mono (by simp))
theorem box_below (w : World) (o : Obj) (q : Nat) : Below w.heap.size w ((w.alloc o).drewN q) := below_drewN ((Below.refl _ w).alloc (Nat.le_refl _) o) q

theorem slice_x (xs : List Int) (a k : Nat) (h : a + k ≤ xs.length) :
    sliceX xs a k = (⟨(joinL ((xs.drop a).take k)).toArray⟩, 0) := by
  unfold sliceX
  rw [show hasB xs.length a k = true from decide_eq_true ⟨by omega, by omega, by omega, by omega⟩, if_pos rfl, Int.toNat_natCast, Int.toNat_natCast]
theorem three (xs : List Int) (a k : Nat) : joinL (xs.take a) ++ joinL ((xs.drop a).take k) ++ joinL (xs.drop (a + k)) = joinL xs := by
  rw [← joinL_append, ← joinL_append, List.append_assoc, ← List.drop_drop, List.take_append_drop, List.take_append_drop]
theorem valid_part {xs : List Int} (h : allValid xs = true) (a k : Nat) : allValid ((xs.drop a).take k) = true := by
  rw [allValid_iff] at *
  exact fun r hr => h r (List.mem_of_mem_drop (List.mem_of_mem_take hr))

set_option maxRecDepth 100000 in
set_option maxHeartbeats 4000000 in
theorem lawGapSlices_any (s : ByteArray) (v : Value) (n : Nat) (f : Nat → GAct) (a k : Int) (w : World) (hs : s.size ≤ maxLen) (hA : Acts w v n f) (hT : Lib.Utf8Tabs 0 1 w) :
    Calls Tryd.prog 6 #[.string s, v, .agg #[.int .i64 a, .int .i64 k]] w fun e w' => e = .returned (.bool true) ∧ Below w.heap.size w w' := by
  have hAl : ∀ W, Below w.heap.size w W → _ := fun W hb => galive_any W (Utf8Tabs_below hT hb)
  have HAl := Lib.hid hAl
  clear hAl
  by_cases hsm : Small s n f
  case neg =>
    have hG : ∀ W, Below w.heap.size w W → _ := fun W hb => great_yes hs (hA.below hb) hsm
    obtain ⟨ao, cap, rfl, hm, hc, ht⟩ := hA
    have HG := Lib.hid hG
    clear hG hc ht hT hs hsm
    go_enter Tryd.func6, Tryd.ntmps6
    go_wp2_with fail
    go_quiet (fail)
    go_wp2_with (first
      | (go_at_call 8; refine (HAl.out _ (box_below _ _ _)).mono ?_; clear HAl; rintro e w1 ⟨rfl, hb0⟩; have hb1 := below_box hb0; clear hb0)
      | (go_at_call 9; refine (HG.out _ hb1).mono ?_; rintro e _ ⟨rfl, rfl⟩))
    go_ret
    exact ⟨rfl, hb1⟩
  have hG : ∀ W, Below w.heap.size w W → _ := fun W hb => great_no hs (hA.below hb) hsm
  have hN : ∀ W, Below w.heap.size w W → _ := fun W hb => held_new s (by have := hsm.1; omega) W (Utf8Tabs_below hT hb)
  have hD : ∀ (N : Nat) (xs : List Int) W, Below w.heap.size w W → Held N xs W → ∀ x : GAct, x.tx.size ≤ 1000000 → (Lit.int .u8 x.kd).wf = true → _ := fun N xs W hb hH x hx hk => held_do hH x hx hk (Utf8Tabs_below hT hb)
  obtain ⟨ao, cap, rfl, hm, hc, ht⟩ := hA
  have hn60 := hsm.2.1
  have HG := Lib.hid hG
  have HN := Lib.hid hN
  have HD := Lib.hid hD
  have HC := Lib.hid hc
  have HT := Lib.hid ht
  have Hsm := Lib.hid hsm
  clear hG hN hD hc ht hT hs hm hsm
  go_enter Tryd.func6, Tryd.ntmps6
  go_wp2_with fail
  go_quiet (fail)
  go_wp2_with (first
    | (go_at_call 8; refine (HAl.out _ (box_below _ _ _)).mono ?_; clear HAl; rintro e w1 ⟨rfl, hb0⟩; have hb1 := below_box hb0; clear hb0)
    | (go_at_call 9; refine (HG.out _ hb1).mono ?_; rintro e _ ⟨rfl, rfl⟩))
  refine (HN.out _ hb1).mono ?_
  clear HN HG
  rintro e w2 ⟨hb2, ⟨xs, rfl, hr, _, hH⟩ | ⟨c, hc, hce, rfl⟩⟩
  · have hw2 : Below w.heap.size w w2 := hb1.trans (hb2.mono hb1.size)
    have hN1 : w.heap.size ≤ w1.heap.size := hb1.size
    have Hw2 := Lib.hid hw2
    have HH := Lib.hid hH
    clear hr hw2 hH hb1 hb2
    go_wp2_with fail
    go_loopw [11] (fun i wr => ∃ (q : Nat) (xs : List Int), i = .int .i64 q ∧ q ≤ n ∧ Held w1.heap.size xs wr ∧ Below w.heap.size w wr) (fun i _ => n - (intOf i).toNat)
    case atStart => exact ⟨0, xs, rfl, Nat.zero_le _, HH.out, Hw2.out⟩
    case round =>
      rename_i wr
      obtain ⟨q, xs, rfl, hq, hH, hbr⟩ := hrel
      clear HH
      rcases Nat.lt_or_ge q n with hlt | hge
      · obtain ⟨b, off, rfl, hb, hcell⟩ := HC.out (by omega)
        obtain ⟨c0, c1, c2, c3⟩ := hcell q hlt
        have hx := Hsm.out.2.2 q hlt
        have hk := (HT.out q hlt).2
        have hDo := HD.out w1.heap.size xs wr hbr hH (f q) (by omega) hk
        have e : ∀ o, wr.cell? ⟨b, o, none⟩ = w.cell? ⟨b, o, none⟩ := fun o => hbr.cell hb
        rw [← e] at c0 c1 c2 c3
        have i1 : (q : Int) < (n : Int) := by omega
        have Hbr := Lib.hid hbr
        clear hcell e hbr hH
        generalize hfq : f q = x at *
        obtain ⟨kd, pl, nn, tx⟩ := x
        unfold GAct.val at hDo
        clear hfq
        simp only at hDo c0 c1 c2 c3
        go_wp2_with (go_at_call 13; refine hDo.mono ?_; clear hDo; rintro e w3 ⟨rfl, hH3, hb3⟩)
        go_roundw
        case rel => exact ⟨q + 1, _, by go_num, by omega, hH3, Hbr.out.trans (hb3.mono hN1)⟩
        case measure => simp [intOf]; omega
      · have i1 : ¬ ((q : Int) < (n : Int)) := by omega
        have hle := hH.le
        have hv : allValid xs = true := by obtain ⟨_, _, _, _, hv⟩ := hH; exact hv
        have hTx : ∀ W, Below wr.heap.size wr W → _ := fun W hb => held_text (hH.fresh hb)
        have hSp : ∀ W, Below wr.heap.size wr W → _ := fun W _ => split_held xs hle hv W
        have hLe : ∀ W, Below wr.heap.size wr W → _ := fun W hb => held_len (hH.fresh hb)
        have hRu : ∀ v W, Reads32 W v xs → _ := fun v W hh => rrun_any v xs (by omega) W hh a k
        have hSl : ∀ W, Below wr.heap.size wr W → ∀ a k, _ := fun W hb a k => held_slice (hH.fresh hb) a k
        cases hb : hasB xs.length a k with
        | false =>
          have hSl1 : ∀ W, Below wr.heap.size wr W → _ := fun W hb => hSl W hb a k
          simp only [hb] at hRu
          simp only [sliceX, hb] at hSl1
          have HTx := Lib.hid hTx
          have HSp := Lib.hid hSp
          have HRu := Lib.hid hRu
          have HSl := Lib.hid hSl1
          have Hbr := Lib.hid hbr
          clear hTx hSp hLe hRu hSl hSl1 hb hv hle hH HC HT Hsm HD Hw2 hbr
          generalize (⟨(joinL xs).toArray⟩ : ByteArray) = T at HTx HSp
          go_wp2_with (first
            | (go_at_call 15; refine (HTx.out _ (Below.refl _ _)).mono ?_; clear HTx; rintro e w3 ⟨rfl, hb3⟩)
            | (go_at_call 28; refine (HSl.out _ hb3).mono ?_; clear HSl; rintro e w4 ⟨rfl, hb4⟩; have hb5 := hb3.trans (hb4.mono hb3.size))
            | (go_at_call 21; refine (HSp.out _ hb5).mono ?_; clear HSp; rintro e w6 ⟨hb6, v6, rfl, hr6⟩; have hb7 := hb5.trans (hb6.mono hb5.size))
            | (go_at_call 30; refine (HRu.out _ _ hr6).mono ?_; clear HRu; rintro e _ ⟨rfl, rfl⟩))
          go_ret
          exact ⟨rfl, Hbr.out.trans (hb7.mono Hbr.out.size)⟩
        | true =>
          have hh := of_decide_eq_true hb
          obtain ⟨na, rfl⟩ : ∃ na : Nat, a = na := ⟨a.toNat, by omega⟩
          obtain ⟨nk, rfl⟩ : ∃ nk : Nat, k = nk := ⟨k.toNat, by omega⟩
          have hak : na + nk ≤ xs.length := by omega
          have hvu := valid_part hv na nk
          have hS1 : ∀ W, Below wr.heap.size wr W → _ := fun W hb => hSl W hb na nk
          have hS2 : ∀ W, Below wr.heap.size wr W → _ := fun W hb => hSl W hb 0 na
          have hz0 : sliceX xs 0 na = _ := slice_x xs 0 na (by omega)
          rw [List.drop_zero] at hz0
          have hS3 : ∀ W, Below wr.heap.size wr W → _ := fun W hb => hSl W hb (na + nk : Nat) (xs.length - (na + nk) : Nat)
          simp only [hb] at hRu
          simp only [slice_x xs na nk hak] at hS1
          simp only [hz0] at hS2
          simp only [slice_x xs (na + nk) (xs.length - (na + nk)) (by omega)] at hS3
          rw [List.take_of_length_le (l := xs.drop (na + nk)) (by rw [List.length_drop]; omega)] at hS3
          have h3 := three xs na nk
          have hR1 : ∀ W, _ := fun W => rlen_any (⟨(joinL ((xs.drop na).take nk)).toArray⟩) (size_join _ (by rw [List.length_take, List.length_drop]; omega)) W
          rw [runes_valid hvu] at hR1
          have hl1 : ((xs.drop na).take nk).length = nk := by rw [List.length_take, List.length_drop]; omega
          simp only [hl1] at hR1
          obtain ⟨L, hL⟩ : ∃ L, xs.length = L := ⟨_, rfl⟩
          rw [hL] at hS3 hak hle
          simp only [hL] at hLe
          have HTx := Lib.hid hTx
          have HSp := Lib.hid hSp
          have HRu := Lib.hid hRu
          have HS1 := Lib.hid hS1
          have HS2 := Lib.hid hS2
          have HS3 := Lib.hid hS3
          have HLe := Lib.hid hLe
          have HR1 := Lib.hid hR1
          have Hbr := Lib.hid hbr
          have z1 := joinL_le (xs.take na)
          have z2 := joinL_le ((xs.drop na).take nk)
          have z3 := joinL_le (xs.drop (na + nk))
          have z4 : (xs.take na).length ≤ 20000 := by rw [List.length_take]; omega
          have z5 : (xs.drop (na + nk)).length ≤ 20000 := by rw [List.length_drop]; omega
          rw [hl1] at z2
          have c1 : ¬ (9223372036854775807 < (joinL (xs.take na)).length + (joinL ((xs.drop na).take nk)).length) := by omega
          have c2 : ¬ (9223372036854775807 < (joinL (xs.take na)).length + (joinL ((xs.drop na).take nk)).length + (joinL (xs.drop (na + nk))).length) := by omega
          have c3 : ((⟨(joinL (xs.take na)).toArray⟩ : ByteArray) ++ (⟨(joinL ((xs.drop na).take nk)).toArray⟩ : ByteArray) ++ (⟨(joinL (xs.drop (na + nk))).toArray⟩ : ByteArray)).toList = joinL xs := by
            rw [ByteArray.mk_append_mk, ByteArray.mk_append_mk, h3]
            simp
          clear z1 z2 z3 z4 z5
          have e1 : IntKind.i64.wrap ((L : Int) - na) = (L : Int) - na := IntWalk.i64_in _ (by omega)
          have e2 : IntKind.i64.wrap ((L : Int) - na - nk) = ((L - (na + nk) : Nat) : Int) := by rw [IntWalk.i64_in _ (by omega)]; omega
          clear hTx hSp hLe hRu hSl hS1 hS2 hS3 hR1 hb hh hv hH HC HT Hsm HD Hw2 hbr h3 hvu hl1 hL hz0
          go_wp2_with (first
            | (go_at_call 15; refine (HTx.out _ (by first | exact Below.refl _ _ | assumption)).mono ?_; rintro e w3 ⟨rfl, hb3⟩)
            | (go_at_call 28; refine (HS1.out _ hb3).mono ?_; clear HS1; rintro e w4 ⟨rfl, hb4⟩; have hb5 := hb3.trans (hb4.mono hb3.size))
            | (go_at_call 21; refine (HSp.out _ hb5).mono ?_; clear HSp; rintro e w6 ⟨hb6, v6, rfl, hr6⟩; have hb7 := hb5.trans (hb6.mono hb5.size))
            | (go_at_call 30; refine (HRu.out _ _ hr6).mono ?_; clear HRu; rintro e _ ⟨rfl, rfl⟩))
          refine (HS2.out _ hb7).mono ?_
          rintro e w8 ⟨rfl, hb8⟩
          have hb9 := hb7.trans (hb8.mono hb7.size)
          clear HS2 hb3 hb4 hb5 hb6 hb7 hb8 hr6
          go_wp2_with (first
            | (go_at_call 14; refine (HLe.out _ hb9).mono ?_; clear HLe; rintro e _ ⟨rfl, q9, rfl⟩; have hb10 := below_drewN hb9 q9)
            | (go_at_call 28; refine (HS3.out _ hb10).mono ?_; clear HS3; rintro e w11 ⟨rfl, hb11⟩; have hb12 := hb10.trans (hb11.mono hb10.size))
            | (go_at_call 27; refine (HR1.out _).mono ?_; clear HR1; rintro e w13 ⟨rfl, hb13⟩; have hb14 := hb12.trans (hb13.mono hb12.size))
            | (go_at_call 15; refine (HTx.out _ hb14).mono ?_; rintro e w15 ⟨rfl, hb15⟩; have hb16 := hb14.trans (hb15.mono hb14.size)))
          go_ret
          exact ⟨rfl, Hbr.out.trans (hb16.mono Hbr.out.size)⟩
  · have hq : (c != 0) = true := by rw [bne, beq_eq_false_iff_ne.2 hc]; rfl
    have hq2 : (c == 0) = false := beq_eq_false_iff_ne.2 hc
    clear hc hce
    go_wp2
    go_ret
    exact ⟨rfl, hb1.trans (hb2.mono hb1.size)⟩
end Go.Proofs.YtpldalmodcmfaaaDoor
