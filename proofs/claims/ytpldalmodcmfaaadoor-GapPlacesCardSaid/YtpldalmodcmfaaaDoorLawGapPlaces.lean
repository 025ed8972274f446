/- The law GapPlaces. -/
import Derived.Test.YtpldalmodcmfaaaDoorLawGapSlices
namespace Go.Proofs.YtpldalmodcmfaaaDoor
open Go.RowKit

/-- What Place tells. -/
def placeX (xs : List Int) (a : Int) : Int × Int × Int := if 0 ≤ a ∧ a ≤ xs.length then (cnt (fd xs) a, colX xs a.toNat, 0) else (0, 0, 3)
theorem held_place {N : Nat} {xs : List Int} {w : World} (h : Held N xs w) (a : Int) :
    Calls Tryd.prog 22 #[.pointer (some ⟨N, 0, none⟩), .int .i64 a] w fun e w' => e = .returned (.tuple #[.int .i64 (placeX xs a).1, .int .i64 (placeX xs a).2.1, .int .i64 (placeX xs a).2.2]) ∧ Below w.heap.size w w' := by
  obtain ⟨zs, ys, rfl, hB, _⟩ := h
  unfold placeX
  by_cases ha : 0 ≤ a ∧ a ≤ (zs ++ ys).length
  · obtain ⟨k, rfl⟩ : ∃ k : Nat, a = k := ⟨a.toNat, by omega⟩
    rw [if_pos ha]
    rw [List.length_append] at ha
    simp only [Int.toNat_natCast]
    exact place_yes hB k (by omega)
  · rw [if_neg ha]
    rw [List.length_append] at ha
    exact place_no hB a ha
theorem ref_place (v : Value) (xs : List Int) (hx : xs.length ≤ 1000000) (w : World) (h1 : Reads32 w v xs) (a : Int) :
    Calls Tryd.prog 23 #[v, .int .i64 a] w fun e w' => e = .returned (.tuple #[.int .i64 (placeX xs a).1, .int .i64 (placeX xs a).2.1, .int .i64 (placeX xs a).2.2]) ∧ w = w' := by
  unfold placeX
  by_cases ha : 0 ≤ a ∧ a ≤ xs.length
  · obtain ⟨k, rfl⟩ : ∃ k : Nat, a = k := ⟨a.toNat, by omega⟩
    rw [if_pos ha]
    simp only [Int.toNat_natCast]
    exact rplace_yes v xs hx w h1 k (by omega)
  · rw [if_neg ha]
    exact rplace_no v xs hx w h1 a ha
theorem held_at {N : Nat} {xs : List Int} {w : World} (h : Held N xs w) (line col : Int) :
    Calls Tryd.prog 24 #[.pointer (some ⟨N, 0, none⟩), .int .i64 line, .int .i64 col] w (AtPost (atX xs line col) w) := by
  obtain ⟨zs, ys, rfl, hB, _⟩ := h
  exact bat_any hB line col

set_option maxRecDepth 100000 in
set_option maxHeartbeats 4000000 in
theorem lawGapPlaces_any (s : ByteArray) (v : Value) (n : Nat) (f : Nat → GAct) (pa pb pc : Int) (w : World) (hs : s.size ≤ maxLen) (hA : Acts w v n f) (hT : Lib.Utf8Tabs 0 1 w) :
    Calls Tryd.prog 4 #[.string s, v, .agg #[.int .i64 pa, .int .i64 pb, .int .i64 pc]] w fun e w' => e = .returned (.bool true) ∧ Below w.heap.size w w' := by
  have hAl : ∀ W, Below w.heap.size w W → _ := fun W hb => galive_any W (Utf8Tabs_below hT hb)
  have HAl := Lib.hid hAl
  clear hAl
  by_cases hsm : Small s n f
  case neg =>
    have hG : ∀ W, Below w.heap.size w W → _ := fun W hb => great_yes hs (hA.below hb) hsm
    obtain ⟨ao, cap, rfl, hm, hc, ht⟩ := hA
    have HG := Lib.hid hG
    clear hG hc ht hT hs hsm
    go_enter Tryd.func4, Tryd.ntmps4
    go_wp2_with fail
    go_quiet (fail)
    go_wp2_with (first
      | (go_at_call 8; refine (HAl.out _ (box_below _ _ _)).mono ?_; clear HAl; rintro e w1 ⟨rfl, hb0⟩; have hb1 := below_box hb0; clear hb0)
      | (go_at_call 9; refine (HG.out _ hb1).mono ?_; rintro e _ ⟨rfl, rfl⟩))
    go_ret
    exact ⟨rfl, hb1⟩
  have hG : ∀ W, Below w.heap.size w W → _ := fun W hb => great_no hs (hA.below hb) hsm
  have hN : ∀ W, Below w.heap.size w W → _ := fun W hb => held_new s (by have := hsm.1; omega) W (Utf8Tabs_below hT hb)
  have hD : ∀ (N : Nat) (xs : List Int) W, Below w.heap.size w W → Held N xs W → ∀ x : GAct, x.tx.size ≤ 1000000 → (Lit.int .u8 x.kd).wf = true → _ := fun N xs W hb hH x hx hk => held_do hH x hx hk (Utf8Tabs_below hT hb)
  obtain ⟨ao, cap, rfl, hm, hc, ht⟩ := hA
  have hn60 := hsm.2.1
  have HG := Lib.hid hG
  have HN := Lib.hid hN
  have HD := Lib.hid hD
  have HC := Lib.hid hc
  have HT := Lib.hid ht
  have Hsm := Lib.hid hsm
  clear hG hN hD hc ht hT hs hm hsm
  go_enter Tryd.func4, Tryd.ntmps4
  go_wp2_with fail
  go_quiet (fail)
  go_wp2_with (first
    | (go_at_call 8; refine (HAl.out _ (box_below _ _ _)).mono ?_; clear HAl; rintro e w1 ⟨rfl, hb0⟩; have hb1 := below_box hb0; clear hb0)
    | (go_at_call 9; refine (HG.out _ hb1).mono ?_; rintro e _ ⟨rfl, rfl⟩))
  refine (HN.out _ hb1).mono ?_
  clear HN HG
  rintro e w2 ⟨hb2, ⟨xs, rfl, hr, _, hH⟩ | ⟨c, hc, hce, rfl⟩⟩
  · have hw2 : Below w.heap.size w w2 := hb1.trans (hb2.mono hb1.size)
    have hN1 : w.heap.size ≤ w1.heap.size := hb1.size
    have Hw2 := Lib.hid hw2
    have HH := Lib.hid hH
    clear hr hw2 hH hb1 hb2
    go_wp2_with fail
    go_loopw [12] (fun i wr => ∃ (q : Nat) (xs : List Int), i = .int .i64 q ∧ q ≤ n ∧ Held w1.heap.size xs wr ∧ Below w.heap.size w wr) (fun i _ => n - (intOf i).toNat)
    case atStart => exact ⟨0, xs, rfl, Nat.zero_le _, HH.out, Hw2.out⟩
    case round =>
      rename_i wr
      obtain ⟨q, xs, rfl, hq, hH, hbr⟩ := hrel
      clear HH
      rcases Nat.lt_or_ge q n with hlt | hge
      · obtain ⟨b, off, rfl, hb, hcell⟩ := HC.out (by omega)
        obtain ⟨c0, c1, c2, c3⟩ := hcell q hlt
        have hx := Hsm.out.2.2 q hlt
        have hk := (HT.out q hlt).2
        have hDo := HD.out w1.heap.size xs wr hbr hH (f q) (by omega) hk
        have e : ∀ o, wr.cell? ⟨b, o, none⟩ = w.cell? ⟨b, o, none⟩ := fun o => hbr.cell hb
        rw [← e] at c0 c1 c2 c3
        have i1 : (q : Int) < (n : Int) := by omega
        have Hbr := Lib.hid hbr
        clear hcell e hbr hH
        generalize hfq : f q = x at *
        obtain ⟨kd, pl, nn, tx⟩ := x
        unfold GAct.val at hDo
        clear hfq
        simp only at hDo c0 c1 c2 c3
        go_wp2_with (go_at_call 13; refine hDo.mono ?_; clear hDo; rintro e w3 ⟨rfl, hH3, hb3⟩)
        go_roundw
        case rel => exact ⟨q + 1, _, by go_num, by omega, hH3, Hbr.out.trans (hb3.mono hN1)⟩
        case measure => simp [intOf]; omega
      · have i1 : ¬ ((q : Int) < (n : Int)) := by omega
        have hle := hH.le
        have hv : allValid xs = true := by obtain ⟨_, _, _, _, hv⟩ := hH; exact hv
        have hTx : ∀ W, Below wr.heap.size wr W → _ := fun W hb => held_text (hH.fresh hb)
        have hSp : ∀ W, Below wr.heap.size wr W → _ := fun W _ => split_held xs hle hv W
        have hPl : ∀ W, Below wr.heap.size wr W → _ := fun W hb => held_place (hH.fresh hb) pa
        have hAt : ∀ W, Below wr.heap.size wr W → _ := fun W hb => held_at (hH.fresh hb) pb pc
        have hRp : ∀ v W, Reads32 W v xs → _ := fun v W hh => ref_place v xs (by omega) W hh pa
        have hRa : ∀ v W, Reads32 W v xs → _ := fun v W hh => rat_any v xs (by omega) W hh pb pc
        have HTx := Lib.hid hTx
        have HSp := Lib.hid hSp
        have HPl := Lib.hid hPl
        have HAt := Lib.hid hAt
        have HRp := Lib.hid hRp
        have HRa := Lib.hid hRa
        have Hbr := Lib.hid hbr
        clear hTx hSp hPl hAt hRp hRa hv hH HC HT Hsm HD Hw2 hbr
        generalize (⟨(joinL xs).toArray⟩ : ByteArray) = T at HTx HSp
        obtain ⟨L, hL⟩ : ∃ L, xs.length = L := ⟨_, rfl⟩
        rw [hL] at hle
        have HL := Lib.hid hL
        clear hL
        generalize placeX xs pa = P at HPl HRp
        generalize atX xs pb pc = R at HAt HRa
        obtain ⟨p1, p2, p3⟩ := P
        obtain ⟨r1, r2⟩ := R
        have hsl : ∀ (W : World) (v : Value), Reads32 W v xs → ∃ ao cap, v = .slice ao L cap := fun W v hr => by
          obtain ⟨ao, cap, hv, _⟩ := hr
          exact ⟨ao, cap, by rw [hv, HL.out]⟩
        have Hsl := Lib.hid hsl
        clear hsl
        by_cases hbig : 1500 < L
        · have i2 : (1500 : Int) < (L : Int) := by omega
          go_wp2_with (first
            | (go_at_call 15; refine (HTx.out _ (Below.refl _ _)).mono ?_; clear HTx; rintro e w3 ⟨rfl, hb3⟩)
            | (go_at_call 21; refine (HSp.out _ hb3).mono ?_; clear HSp; rintro e w6 ⟨hb6, v6, rfl, hr6⟩; have hb7 := hb3.trans (hb6.mono hb3.size); obtain ⟨ao6, cap6, rfl⟩ := Hsl.out _ _ hr6))
          go_ret
          exact ⟨rfl, Hbr.out.trans (hb7.mono Hbr.out.size)⟩
        · have i2 : ¬ ((1500 : Int) < (L : Int)) := by omega
          go_wp2_with (first
            | (go_at_call 15; refine (HTx.out _ (Below.refl _ _)).mono ?_; clear HTx; rintro e w3 ⟨rfl, hb3⟩)
            | (go_at_call 21; refine (HSp.out _ hb3).mono ?_; clear HSp; rintro e w6 ⟨hb6, v6, rfl, hr6⟩; have hb7 := hb3.trans (hb6.mono hb3.size); obtain ⟨ao6, cap6, rfl⟩ := Hsl.out _ _ hr6)
            | (go_at_call 22; refine (HPl.out _ hb7).mono ?_; clear HPl; rintro e w8 ⟨rfl, hb8⟩; have hb9 := hb7.trans (hb8.mono hb7.size); have hr9 := hr6.below hb8)
            | (go_at_call 23; refine (HRp.out _ _ hr9).mono ?_; clear HRp; rintro e _ ⟨rfl, rfl⟩)
            | (go_at_call 24; refine (HAt.out _ hb9).mono ?_; clear HAt; rintro e w10 ⟨rfl, hb10⟩; have hb11 := hb9.trans (hb10.mono hb9.size); have hr11 := hr9.below hb10)
            | (go_at_call 25; refine (HRa.out _ _ hr11).mono ?_; clear HRa; rintro e w12 ⟨rfl, hb12⟩; have hb13 := hb11.trans (hb12.mono hb11.size)))
          go_ret
          exact ⟨rfl, Hbr.out.trans (hb13.mono Hbr.out.size)⟩
  · have hq : (c != 0) = true := by rw [bne, beq_eq_false_iff_ne.2 hc]; rfl
    have hq2 : (c == 0) = false := beq_eq_false_iff_ne.2 hc
    clear hc hce
    go_wp2
    go_ret
    exact ⟨rfl, hb1.trans (hb2.mono hb1.size)⟩
end Go.Proofs.YtpldalmodcmfaaaDoor
