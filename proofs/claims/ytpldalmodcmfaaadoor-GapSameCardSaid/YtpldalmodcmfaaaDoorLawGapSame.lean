/- The law GapSame. -/
import Derived.Test.YtpldalmodcmfaaaDoorLawGapSlices
import Derived.Test.YtpldalmodcmfaaaDoorBufSame
namespace Go.Proofs.YtpldalmodcmfaaaDoor
open Go.RowKit

theorem held_same {N N' : Nat} {xs ys : List Int} {w : World} (h : Held N xs w) (h' : Held N' ys w) :
    Calls Tryd.prog 31 #[.pointer (some ⟨N, 0, none⟩), .pointer (some ⟨N', 0, none⟩)] w fun e w' => e = .returned (.bool (decide (xs = ys))) ∧ ∃ q, w' = w.drewN q := by
  obtain ⟨_, _, rfl, hB, _⟩ := h
  obtain ⟨_, _, rfl, hB', _⟩ := h'
  exact bsame_any hB hB'
theorem below_off {w w1 : World} {q : Nat} (h : Below (w.drewN q).heap.size (w.drewN q) w1) : Below w.heap.size w w1 := (below_drewN (Below.refl _ w) q).trans h
theorem ins_head {xs : List Int} (h : xs.length + 1 ≤ 20000) : insX xs 0 (some [120]) = (120 :: xs, 0) := by
  simp [insX, h]
theorem ins_full {xs : List Int} (h : ¬ (xs.length + 1 ≤ 20000)) : insX xs 0 (some [120]) = (xs, 4) := by
  simp [insX, h]
/-- New, of a buffer's own text. -/
theorem held_again (xs : List Int) (hle : xs.length ≤ 20000) (hv : allValid xs = true) (w : World) (hT : Lib.Utf8Tabs 0 1 w) :
    Calls Tryd.prog 10 #[.string ⟨(joinL xs).toArray⟩] w fun e w' => Below w.heap.size w w' ∧ e = .returned (.tuple #[.pointer (some ⟨w.heap.size, 0, none⟩), .int .i64 0]) ∧ Held w.heap.size xs w' := by
  refine (held_new _ (size_join xs hle) w hT).mono ?_
  rw [runes_valid hv]
  rintro e w' ⟨hb, ⟨ys, rfl, hy, _, hH⟩ | ⟨c, hc, hce, _⟩⟩
  · cases hy
    exact ⟨hb, rfl, hH⟩
  · exfalso
    apply hc
    rw [hce]
    unfold insX
    simp [hle]
theorem held_insert {N : Nat} {xs : List Int} {w : World} (h : Held N xs w) (a : Int) (s : ByteArray) (hs : s.size ≤ 1000000) (hT : Lib.Utf8Tabs 0 1 w) :
    Calls Tryd.prog 26 #[.pointer (some ⟨N, 0, none⟩), .int .i64 a, .string s] w (ActPost N (insX xs a (runesL s.data.toList)) w) := by
  obtain ⟨zs, ys, rfl, hB, hv⟩ := h
  refine (binsert_any hB a s hs hT).mono ?_
  rintro e w' ⟨he, zs', ys', hz, hB', hK⟩
  refine ⟨he, ⟨zs', ys', hz, hB', ?_⟩, hK.zero⟩
  have := valid_act ⟨0, a, 0, s⟩ hv
  exact this
theorem exX : runesL (⟨#[120]⟩ : ByteArray).data.toList = some [120] := by decide +kernel
theorem cons_ne {x : Int} {xs : List Int} : ¬ (xs = x :: xs) := fun h => by
  have := congrArg List.length h
  simp at this
/-- Two texts are the same just if their runes are. -/
theorem same_text {xs ts : List Int} {t : ByteArray} (hv : allValid xs = true) (ht : runesL t.data.toList = some ts) : xs = ts ↔ (⟨(joinL xs).toArray⟩ : ByteArray) = t := by
  constructor
  · rintro rfl
    exact (text_of ht).1
  · intro h
    have := runes_valid hv
    rw [h, ht] at this
    exact (Option.some.inj this).symm
theorem bytes_ne {a b : ByteArray} (h : a ≠ b) : (a.toList == b.toList) = false := by
  refine beq_eq_false_iff_ne.2 fun hh => h ?_
  have e : ∀ x : ByteArray, x.toList = x.data.toList := fun x => by obtain ⟨⟨l⟩⟩ := x; simp
  rw [e, e] at hh
  exact ByteArray.ext (Array.toList_inj.1 hh)

set_option maxRecDepth 100000 in
set_option maxHeartbeats 8000000 in
theorem lawGapSame_any (s : ByteArray) (v : Value) (n : Nat) (f : Nat → GAct) (t : ByteArray) (w : World) (hs : s.size ≤ maxLen) (hA : Acts w v n f) (ht : t.size ≤ maxLen) (hT : Lib.Utf8Tabs 0 1 w) :
    Calls Tryd.prog 7 #[.string s, v, .string t] w fun e w' => e = .returned (.bool true) ∧ Below w.heap.size w w' := by
  have hAl := galive_any w hT
  have hG2 := fun W => great_none t ht W
  by_cases hsm : Small s n f
  case neg =>
    have hG : ∀ W, Below w.heap.size w W → _ := fun W hb => great_yes hs (hA.below hb) hsm
    obtain ⟨ao, cap, rfl, hm, hc, hx⟩ := hA
    have HG := Lib.hid hG
    clear hG hc hx hT hs hsm ht hG2
    go_enter Tryd.func7, Tryd.ntmps7
    go_wp2_with (first
      | (go_at_call 8; refine hAl.mono ?_; clear hAl; rintro e w1 ⟨rfl, hb1⟩)
      | (go_at_call 9; refine (HG.out _ hb1).mono ?_; rintro e _ ⟨rfl, rfl⟩))
    go_ret
    exact ⟨rfl, hb1⟩
  have hG : ∀ W, Below w.heap.size w W → _ := fun W hb => great_no hs (hA.below hb) hsm
  by_cases ht6 : 600 < t.size
  · rw [decide_eq_true ht6] at hG2
    obtain ⟨ao, cap, rfl, hm, hc, hx⟩ := hA
    have HG := Lib.hid hG
    have HG2 := Lib.hid hG2
    clear hG hc hx hT hs hsm ht hG2 ht6
    go_enter Tryd.func7, Tryd.ntmps7
    go_wp2_with (first
      | (go_at_call 8; refine hAl.mono ?_; clear hAl; rintro e w1 ⟨rfl, hb1⟩)
      | (go_at_call 9; (first | (with_reducible refine (HG.out _ hb1).mono ?_) | (with_reducible refine (HG2.out _).mono ?_)); rintro e _ ⟨rfl, rfl⟩))
    go_ret
    exact ⟨rfl, hb1⟩
  rw [decide_eq_false ht6] at hG2
  have hN : ∀ W, Below w.heap.size w W → _ := fun W hb => held_new s (by have := hsm.1; omega) W (Utf8Tabs_below hT hb)
  have hNt : ∀ W, Below w.heap.size w W → _ := fun W hb => held_new t (by omega) W (Utf8Tabs_below hT hb)
  have hD : ∀ (N : Nat) (xs : List Int) W, Below w.heap.size w W → Held N xs W → ∀ x : GAct, x.tx.size ≤ 1000000 → (Lit.int .u8 x.kd).wf = true → _ := fun N xs W hb hH x hx hk => held_do hH x hx hk (Utf8Tabs_below hT hb)
  have HT0 := Lib.hid hT
  obtain ⟨ao, cap, rfl, hm, hc, hx⟩ := hA
  have hn60 := hsm.2.1
  have HG := Lib.hid hG
  have HG2 := Lib.hid hG2
  have HN := Lib.hid hN
  have HNt := Lib.hid hNt
  have HD := Lib.hid hD
  have HC := Lib.hid hc
  have HT := Lib.hid hx
  have Hsm := Lib.hid hsm
  clear hG hG2 hN hNt hD hc hx hT hs hm hsm ht ht6
  go_enter Tryd.func7, Tryd.ntmps7
  go_wp2_with (first
    | (go_at_call 8; refine hAl.mono ?_; clear hAl; rintro e w1 ⟨rfl, hb1⟩)
    | (go_at_call 9; (first | (with_reducible refine (HG.out _ hb1).mono ?_) | (with_reducible refine (HG2.out _).mono ?_)); rintro e _ ⟨rfl, rfl⟩))
  refine (HN.out _ hb1).mono ?_
  clear HN HG HG2
  rintro e w2 ⟨hb2, ⟨xs, rfl, hr, _, hH⟩ | ⟨c, hc, hce, rfl⟩⟩
  · have hw2 : Below w.heap.size w w2 := hb1.trans (hb2.mono hb1.size)
    have hN1 : w.heap.size ≤ w1.heap.size := hb1.size
    have Hw2 := Lib.hid hw2
    have HH := Lib.hid hH
    clear hr hw2 hH hb1 hb2
    go_wp2_with fail
    go_loopw [9] (fun i wr => ∃ (q : Nat) (xs : List Int), i = .int .i64 q ∧ q ≤ n ∧ Held w1.heap.size xs wr ∧ Below w.heap.size w wr) (fun i _ => n - (intOf i).toNat)
    case atStart => exact ⟨0, xs, rfl, Nat.zero_le _, HH.out, Hw2.out⟩
    case round =>
      rename_i wr
      obtain ⟨q, xs, rfl, hq, hH, hbr⟩ := hrel
      clear HH
      rcases Nat.lt_or_ge q n with hlt | hge
      · obtain ⟨b, off, rfl, hb, hcell⟩ := HC.out (by omega)
        obtain ⟨c0, c1, c2, c3⟩ := hcell q hlt
        have hx := Hsm.out.2.2 q hlt
        have hk := (HT.out q hlt).2
        have hDo := HD.out w1.heap.size xs wr hbr hH (f q) (by omega) hk
        have e : ∀ o, wr.cell? ⟨b, o, none⟩ = w.cell? ⟨b, o, none⟩ := fun o => hbr.cell hb
        rw [← e] at c0 c1 c2 c3
        have i1 : (q : Int) < (n : Int) := by omega
        have Hbr := Lib.hid hbr
        clear hcell e hbr hH
        generalize hfq : f q = x at *
        obtain ⟨kd, pl, nn, tx⟩ := x
        unfold GAct.val at hDo
        clear hfq
        simp only at hDo c0 c1 c2 c3
        go_wp2_with (go_at_call 13; refine hDo.mono ?_; clear hDo; rintro e w3 ⟨rfl, hH3, hb3⟩)
        go_roundw
        case rel => exact ⟨q + 1, _, by go_num, by omega, hH3, Hbr.out.trans (hb3.mono hN1)⟩
        case measure => simp [intOf]; omega
      · have i1 : ¬ ((q : Int) < (n : Int)) := by omega
        have hle := hH.le
        have hv : allValid xs = true := by obtain ⟨_, _, _, _, hv⟩ := hH; exact hv
        have hTx := held_text hH
        have hAg : ∀ W, Below w.heap.size w W → _ := fun W hb => held_again xs hle hv W (Utf8Tabs_below HT0.out hb)
        have Hst : Hid (∀ ts, runesL t.data.toList = some ts → (xs = ts ↔ (⟨(joinL xs).toArray⟩ : ByteArray) = t)) := Lib.hid fun ts hts => same_text hv hts
        have HTx := Lib.hid hTx
        have HAg := Lib.hid hAg
        have HH := Lib.hid hH
        have Hbr := Lib.hid hbr
        have Hle := Lib.hid hle
        have Htx : ∀ W, Held w1.heap.size xs W → _ := fun W hb => held_text hb
        have HTX := Lib.hid Htx
        clear hTx hAg hv hH HC HT Hsm HD Hw2 hbr hle Htx
        generalize (⟨(joinL xs).toArray⟩ : ByteArray) = T at HTx HAg Hst HTX
        go_wp2_with (go_at_call 15; refine HTx.out.mono ?_; clear HTx; rintro e w3 ⟨rfl, hb3⟩)
        have hb03 : Below w.heap.size w w3 := Hbr.out.trans (hb3.mono Hbr.out.size)
        refine (HAg.out _ hb03).mono ?_
        clear HAg
        rintro e w4 ⟨hb4, rfl, hC⟩
        have hb04 : Below w.heap.size w w4 := hb03.trans (hb4.mono hb03.size)
        have hB3 := HH.out.fresh hb3
        have hB4 := hB3.fresh hb4
        have HB3 := Lib.hid hB3
        have HB4 := Lib.hid hB4
        have HC := Lib.hid hC
        have Hb4 := Lib.hid hb4
        have Hb04 := Lib.hid hb04
        have hz3 : w.heap.size ≤ w3.heap.size := hb03.size
        clear hB3 hB4 hC hb4 hb03 hb04 hb3 HH Hbr
        -- behind New(t)
        go_wp2_with fail
        refine (HNt.out _ Hb04.out).mono ?_
        clear HNt
        have Htt : Hid ((T.toList == T.toList) = true) := Lib.hid (beq_self_eq_true _)
        rintro e w5 ⟨hb5, hd⟩
        have Hb5 := Lib.hid hb5
        have hB5 := HB4.out.fresh hb5
        have hC5 := HC.out.fresh hb5
        have hbc : ∀ W, Below w5.heap.size w5 W → _ := fun W hb => held_same (hB5.fresh hb) (hC5.fresh hb)
        have hcb : ∀ W, Below w5.heap.size w5 W → _ := fun W hb => held_same (hC5.fresh hb) (hB5.fresh hb)
        rw [decide_eq_true rfl] at hbc hcb
        have hT5 : ∀ W, Below w5.heap.size w5 W → _ := fun W hb => HTX.out W (hB5.fresh hb)
        have hin : ∀ W, Below w5.heap.size w5 W → _ := fun W hb => held_insert (hC5.fresh hb) 0 ⟨#[120]⟩ (by decide) (Utf8Tabs_below HT0.out ((Hb04.out.trans (hb5.mono Hb04.out.size)).trans (hb.mono (Hb04.out.trans (hb5.mono Hb04.out.size)).size)))
        rw [exX] at hin
        have HB5 := Lib.hid hB5
        have Hbc := Lib.hid hbc
        have Hcb := Lib.hid hcb
        have HT5 := Lib.hid hT5
        have Hin := Lib.hid hin
        have Hsn := Lib.hid (same_none w1.heap.size)
        have Hns := Lib.hid (none_same w1.heap.size)
        clear hB5 hC5 hbc hcb hT5 hin
        rcases hd with ⟨ts, rfl, hts, _, hD⟩ | ⟨c, hc, hce, rfl⟩
        · by_cases hxt : xs = ts
          · have hbd : ∀ W, Below w5.heap.size w5 W → _ := fun W hb => held_same (HB5.out.fresh hb) (hD.fresh hb)
            rw [decide_eq_true hxt] at hbd
            obtain rfl := (Hst.out ts hts).1 hxt
            have htt := Htt.out
            have Hbd := Lib.hid hbd
            clear hbd hD hts hxt hb5 Hst Htt HB5
            go_wp2_with (first
              | (go_at_call 31; (with_reducible refine (Hbc.out _ (Below.refl _ _)).mono ?_); clear Hbc; rintro e _ ⟨rfl, q1, rfl⟩)
              | (go_at_call 31; (with_reducible refine (Hcb.out _ (below_drewN (Below.refl _ _) _)).mono ?_); clear Hcb; rintro e _ ⟨rfl, q2, rfl⟩)
              | (go_at_call 31; (with_reducible refine (Hbd.out _ (below_drewN (Below.refl _ _) _)).mono ?_); clear Hbd; rintro e _ ⟨rfl, q3, rfl⟩)
              | (go_at_call 15; refine (HT5.out _ h6).mono ?_; rintro e w7 ⟨rfl, hb7⟩; have h7 := h6.trans (hb7.mono h6.size))
              | (go_at_call 15; refine (HT5.out _ (below_drewN (Below.refl _ _) _)).mono ?_; rintro e w6 ⟨rfl, hb6⟩; have h6 := below_off hb6))
            refine (Hin.out _ h7).mono ?_
            rintro e w8 ⟨rfl, hC8, hb8⟩
            have hb48 : Below w4.heap.size w4 w7 := Hb5.out.trans (h7.mono Hb5.out.size)
            have hb38 : Below w3.heap.size w3 w8 := (Hb4.out.trans (hb48.mono Hb4.out.size)).trans hb8
            have hb08 : Below w.heap.size w w8 := (Hb04.out.trans (hb48.mono Hb04.out.size)).trans (hb8.mono hz3)
            have hB8 := HB3.out.fresh hb38
            clear hb48 hb38 hb8
            by_cases hfull : xs.length + 1 ≤ 20000
            · have ei := ins_head hfull
              rw [ei] at hC8 ⊢
              have hS8 : ∀ W, Below w8.heap.size w8 W → _ := fun W hb => held_same (hB8.fresh hb) (hC8.fresh hb)
              rw [decide_eq_false cons_ne] at hS8
              have hT8 := HTX.out w8 hB8
              have HS8 := Lib.hid hS8
              have HT8 := Lib.hid hT8
              have Hb08 := Lib.hid hb08
              clear hS8 hT8 hb08 hB8 hC8 ei hfull
              go_wp2_with (first
                | (go_at_call 15; refine HT8.out.mono ?_; clear HT8; rintro e w9 ⟨rfl, hb9⟩)
                | (go_at_call 31; (first | (with_reducible refine (HS8.out _ hb9).mono ?_) | (with_reducible refine (Hsn.out _).mono ?_) | (with_reducible refine (Hns.out _).mono ?_)); (first | (rintro e _ ⟨rfl, rfl⟩) | (rintro e _ ⟨rfl, q9, rfl⟩; have h9 := below_drewN hb9 q9)))
                | (go_at_call 26; refine (none_insert _ _ _).mono ?_; rintro e _ ⟨rfl, rfl⟩)
                | (go_at_call 29; refine (none_delete _ _ _).mono ?_; rintro e _ ⟨rfl, rfl⟩)
                | (go_at_call 14; refine (none_len _).mono ?_; rintro e _ ⟨rfl, rfl⟩)
                | (go_at_call 17; refine (none_lines _).mono ?_; rintro e _ ⟨rfl, rfl⟩)
                | (go_at_call 15; refine (none_text _).mono ?_; rintro e _ ⟨rfl, rfl⟩))
              go_ret
              exact ⟨rfl, Hb08.out.trans (h9.mono Hb08.out.size)⟩
            · have ei := ins_full hfull
              rw [ei]
              clear hB8 hC8 hfull
              go_wp2
              go_ret
              exact ⟨rfl, hb08⟩
          · have hbd : ∀ W, Below w5.heap.size w5 W → _ := fun W hb => held_same (HB5.out.fresh hb) (hD.fresh hb)
            rw [decide_eq_false hxt] at hbd
            have htt : (T.toList == t.toList) = false := bytes_ne fun h => hxt ((Hst.out ts hts).2 h)
            have htt2 := Htt.out
            have Hbd := Lib.hid hbd
            clear hbd hD hts hxt hb5 Hst Htt HB5
            go_wp2_with (first
              | (go_at_call 31; (with_reducible refine (Hbc.out _ (Below.refl _ _)).mono ?_); clear Hbc; rintro e _ ⟨rfl, q1, rfl⟩)
              | (go_at_call 31; (with_reducible refine (Hcb.out _ (below_drewN (Below.refl _ _) _)).mono ?_); clear Hcb; rintro e _ ⟨rfl, q2, rfl⟩)
              | (go_at_call 31; (with_reducible refine (Hbd.out _ (below_drewN (Below.refl _ _) _)).mono ?_); clear Hbd; rintro e _ ⟨rfl, q3, rfl⟩)
              | (go_at_call 15; refine (HT5.out _ h6).mono ?_; rintro e w7 ⟨rfl, hb7⟩; have h7 := h6.trans (hb7.mono h6.size))
              | (go_at_call 15; refine (HT5.out _ (below_drewN (Below.refl _ _) _)).mono ?_; rintro e w6 ⟨rfl, hb6⟩; have h6 := below_off hb6))
            refine (Hin.out _ h7).mono ?_
            rintro e w8 ⟨rfl, hC8, hb8⟩
            have hb48 : Below w4.heap.size w4 w7 := Hb5.out.trans (h7.mono Hb5.out.size)
            have hb38 : Below w3.heap.size w3 w8 := (Hb4.out.trans (hb48.mono Hb4.out.size)).trans hb8
            have hb08 : Below w.heap.size w w8 := (Hb04.out.trans (hb48.mono Hb04.out.size)).trans (hb8.mono hz3)
            have hB8 := HB3.out.fresh hb38
            clear hb48 hb38 hb8
            by_cases hfull : xs.length + 1 ≤ 20000
            · have ei := ins_head hfull
              rw [ei] at hC8 ⊢
              have hS8 : ∀ W, Below w8.heap.size w8 W → _ := fun W hb => held_same (hB8.fresh hb) (hC8.fresh hb)
              rw [decide_eq_false cons_ne] at hS8
              have hT8 := HTX.out w8 hB8
              have HS8 := Lib.hid hS8
              have HT8 := Lib.hid hT8
              have Hb08 := Lib.hid hb08
              clear hS8 hT8 hb08 hB8 hC8 ei hfull
              go_wp2_with (first
                | (go_at_call 15; refine HT8.out.mono ?_; clear HT8; rintro e w9 ⟨rfl, hb9⟩)
                | (go_at_call 31; (first | (with_reducible refine (HS8.out _ hb9).mono ?_) | (with_reducible refine (Hsn.out _).mono ?_) | (with_reducible refine (Hns.out _).mono ?_)); (first | (rintro e _ ⟨rfl, rfl⟩) | (rintro e _ ⟨rfl, q9, rfl⟩; have h9 := below_drewN hb9 q9)))
                | (go_at_call 26; refine (none_insert _ _ _).mono ?_; rintro e _ ⟨rfl, rfl⟩)
                | (go_at_call 29; refine (none_delete _ _ _).mono ?_; rintro e _ ⟨rfl, rfl⟩)
                | (go_at_call 14; refine (none_len _).mono ?_; rintro e _ ⟨rfl, rfl⟩)
                | (go_at_call 17; refine (none_lines _).mono ?_; rintro e _ ⟨rfl, rfl⟩)
                | (go_at_call 15; refine (none_text _).mono ?_; rintro e _ ⟨rfl, rfl⟩))
              go_ret
              exact ⟨rfl, Hb08.out.trans (h9.mono Hb08.out.size)⟩
            · have ei := ins_full hfull
              rw [ei]
              clear hB8 hC8 hfull
              go_wp2
              go_ret
              exact ⟨rfl, hb08⟩
        · have hq : (c != 0) = true := by rw [bne, beq_eq_false_iff_ne.2 hc]; rfl
          have hq2 : (c == 0) = false := beq_eq_false_iff_ne.2 hc
          have htt2 := Htt.out
          clear hc hce hb5 Hst Htt HB5
          go_wp2_with (first
            | (go_at_call 31; (with_reducible refine (Hbc.out _ (Below.refl _ _)).mono ?_); clear Hbc; rintro e _ ⟨rfl, q1, rfl⟩)
            | (go_at_call 31; (with_reducible refine (Hcb.out _ (below_drewN (Below.refl _ _) _)).mono ?_); clear Hcb; rintro e _ ⟨rfl, q2, rfl⟩)
            | (go_at_call 15; refine (HT5.out _ (below_drewN (Below.refl _ _) _)).mono ?_; rintro e w7 ⟨rfl, hb7⟩; have h7 := below_off hb7))
          refine (Hin.out _ h7).mono ?_
          rintro e w8 ⟨rfl, hC8, hb8⟩
          have hb48 : Below w4.heap.size w4 w7 := Hb5.out.trans (h7.mono Hb5.out.size)
          have hb38 : Below w3.heap.size w3 w8 := (Hb4.out.trans (hb48.mono Hb4.out.size)).trans hb8
          have hb08 : Below w.heap.size w w8 := (Hb04.out.trans (hb48.mono Hb04.out.size)).trans (hb8.mono hz3)
          have hB8 := HB3.out.fresh hb38
          clear hb48 hb38 hb8
          by_cases hfull : xs.length + 1 ≤ 20000
          · have ei := ins_head hfull
            rw [ei] at hC8 ⊢
            have hS8 : ∀ W, Below w8.heap.size w8 W → _ := fun W hb => held_same (hB8.fresh hb) (hC8.fresh hb)
            rw [decide_eq_false cons_ne] at hS8
            have hT8 := HTX.out w8 hB8
            have HS8 := Lib.hid hS8
            have HT8 := Lib.hid hT8
            have Hb08 := Lib.hid hb08
            clear hS8 hT8 hb08 hB8 hC8 ei hfull
            go_wp2_with (first
              | (go_at_call 15; refine HT8.out.mono ?_; clear HT8; rintro e w9 ⟨rfl, hb9⟩)
              | (go_at_call 31; (first | (with_reducible refine (HS8.out _ hb9).mono ?_) | (with_reducible refine (Hsn.out _).mono ?_) | (with_reducible refine (Hns.out _).mono ?_)); (first | (rintro e _ ⟨rfl, rfl⟩) | (rintro e _ ⟨rfl, q9, rfl⟩; have h9 := below_drewN hb9 q9)))
              | (go_at_call 26; refine (none_insert _ _ _).mono ?_; rintro e _ ⟨rfl, rfl⟩)
              | (go_at_call 29; refine (none_delete _ _ _).mono ?_; rintro e _ ⟨rfl, rfl⟩)
              | (go_at_call 14; refine (none_len _).mono ?_; rintro e _ ⟨rfl, rfl⟩)
              | (go_at_call 17; refine (none_lines _).mono ?_; rintro e _ ⟨rfl, rfl⟩)
              | (go_at_call 15; refine (none_text _).mono ?_; rintro e _ ⟨rfl, rfl⟩))
            go_ret
            exact ⟨rfl, Hb08.out.trans (h9.mono Hb08.out.size)⟩
          · have ei := ins_full hfull
            rw [ei]
            clear hB8 hC8 hfull
            go_wp2
            go_ret
            exact ⟨rfl, hb08⟩
  · have hq : (c != 0) = true := by rw [bne, beq_eq_false_iff_ne.2 hc]; rfl
    have hq2 : (c == 0) = false := beq_eq_false_iff_ne.2 hc
    clear hc hce
    go_wp2
    go_ret
    exact ⟨rfl, hb1.trans (hb2.mono hb1.size)⟩
end Go.Proofs.YtpldalmodcmfaaaDoor
