/- The law GapPlays. -/
import Derived.Test.YtpldalmodcmfaaaDoorBoth
namespace Go.Proofs.YtpldalmodcmfaaaDoor
open Go.RowKit

/-- The list's shape, as the walk wants it. -/
theorem List32.shape {w : World} {v : Value} {xs : List Int} (h : List32 w v xs) : ∃ ao cap, v = .slice ao xs.length cap := by
  obtain ⟨ao, cap, hv, _⟩ := h
  exact ⟨ao, cap, hv⟩
/-- The document's edit, as an act. -/
theorem ref_act {v : Value} {xs : List Int} (hx : xs.length ≤ 20000) {w : World} (h : List32 w v xs) (x : GAct) (hs : x.tx.size ≤ 1000000) :
    (x.kd % 3 = 2 → Calls Tryd.prog 12 #[v, .int .i64 x.pl, .int .i64 x.nn] w (EditPost v (actX xs x) w)) ∧
    (¬ (x.kd % 3 = 2) → Calls Tryd.prog 11 #[v, .int .i64 x.pl, .string x.tx] w (EditPost v (actX xs x) w)) := by
  constructor
  · intro hk
    unfold actX
    rw [if_pos hk]
    exact rdelete_any v xs (by omega) w h _ _
  · intro hk
    unfold actX
    rw [if_neg hk]
    exact rinsert_any v xs hx w h _ _ hs

set_option maxRecDepth 100000 in
set_option maxHeartbeats 8000000 in
theorem lawGapPlays_any (s : ByteArray) (v : Value) (n : Nat) (f : Nat → GAct) (w : World) (hs : s.size ≤ maxLen) (hA : Acts w v n f) (hT : Lib.Utf8Tabs 0 1 w) :
    Calls Tryd.prog 3 #[.string s, v] w fun e w' => e = .returned (.bool true) ∧ Below w.heap.size w w' := by
  have hAl := galive_any w hT
  by_cases hsm : Small s n f
  case neg =>
    have hG : ∀ W, Below w.heap.size w W → _ := fun W hb => great_yes hs (hA.below hb) hsm
    obtain ⟨ao, cap, rfl, hm, hc, hx⟩ := hA
    have HG := Lib.hid hG
    clear hG hc hx hT hs hsm
    go_enter Tryd.func3, Tryd.ntmps3
    go_wp2_with (first
      | (go_at_call 8; refine hAl.mono ?_; clear hAl; rintro e w1 ⟨rfl, hb1⟩)
      | (go_at_call 9; refine (HG.out _ hb1).mono ?_; rintro e _ ⟨rfl, rfl⟩))
    go_ret
    exact ⟨rfl, hb1⟩
  have hG : ∀ W, Below w.heap.size w W → _ := fun W hb => great_no hs (hA.below hb) hsm
  have hN : ∀ W, Below w.heap.size w W → _ := fun W hb => new_any s (by have := hsm.1; omega) W (Utf8Tabs_below hT hb)
  have hI : ∀ W, _ := fun W => rinsert_any (.slice none 0 0) [] (Nat.zero_le _) W (List32.nil W) 0 s (by have := hsm.1; omega)
  have HT0 := Lib.hid hT
  obtain ⟨ao, cap, rfl, hm, hc, hx⟩ := hA
  have hn60 := hsm.2.1
  have HG := Lib.hid hG
  have HN := Lib.hid hN
  have HI := Lib.hid hI
  have HC := Lib.hid hc
  have HT := Lib.hid hx
  have Hsm := Lib.hid hsm
  clear hG hN hI hc hx hT hs hm hsm
  go_enter Tryd.func3, Tryd.ntmps3
  go_wp2_with (first
    | (go_at_call 8; refine hAl.mono ?_; clear hAl; rintro e w1 ⟨rfl, hb1⟩)
    | (go_at_call 9; refine (HG.out _ hb1).mono ?_; rintro e _ ⟨rfl, rfl⟩))
  refine (HN.out _ hb1).mono ?_
  clear HN HG
  rintro e w2 ⟨hb2, ⟨hc, rfl, zs, ys, hz, hB⟩ | ⟨hc, rfl⟩⟩
  · have hr := new_runes hc hz
    have hw2 : Below w.heap.size w w2 := hb1.trans (hb2.mono hb1.size)
    have hN1 : w.heap.size ≤ w1.heap.size := hb1.size
    have Hw2 := Lib.hid hw2
    have HB := Lib.hid hB
    have Hz := Lib.hid hz
    have Hr := Lib.hid hr
    have Hc := Lib.hid hc
    clear hr hw2 hB hb1 hb2 hz hc
    go_wp2_with fail
    refine (HI.out _).mono ?_
    clear HI
    rintro e w3 hE
    have hB2 : Both w.heap.size w1.heap.size (.slice none 0 0) (zs ++ ys) [] w2 := ⟨fun _ => False, w1.heap.size, zs, ys, rfl, HB.out, (text_of Hr.out).2, List32.nil _, fun _ h => h.elim, hN1, fun g hg => by cases hg⟩
    obtain ⟨hb3, v3, rfl, hB3⟩ := hB2.edit hE
    have hw3 : Below w.heap.size w w3 := Hw2.out.trans (hb3.mono Hw2.out.size)
    rw [← Hz.out] at hB3
    rw [Hc.out]
    have HB3 := Lib.hid hB3
    have Hw3 := Lib.hid hw3
    clear hE hB2 hB3 hw3 HB Hw2 Hz Hr Hc hb3
    go_wp2_with fail
    go_loopw [7, 9] (fun l i wr => ∃ (q : Nat) (xs : List Int), i = .int .i64 q ∧ q ≤ n ∧ Both w.heap.size w1.heap.size l xs xs wr ∧ Below w.heap.size w wr) (fun _ i _ => n - (intOf i).toNat)
    case atStart => exact ⟨0, zs ++ ys, rfl, Nat.zero_le _, HB3.out, Hw3.out⟩
    case round =>
      rename_i vl wr
      obtain ⟨q, xs, rfl, hq, hH, hbr⟩ := hrel
      clear HB3
      rcases Nat.lt_or_ge q n with hlt | hge
      · obtain ⟨b, off, rfl, hb, hcell⟩ := HC.out (by omega)
        obtain ⟨c0, c1, c2, c3⟩ := hcell q hlt
        have hx := Hsm.out.2.2 q hlt
        have hk := (HT.out q hlt).2
        have e : ∀ o, wr.cell? ⟨b, o, none⟩ = w.cell? ⟨b, o, none⟩ := fun o => hbr.cell hb
        rw [← e] at c0 c1 c2 c3
        have i1 : (q : Int) < (n : Int) := by omega
        have Hbr := Lib.hid hbr
        have HH := Lib.hid hH
        clear hcell e hbr hH
        generalize hfq : f q = x at *
        obtain ⟨kd, pl, nn, tx⟩ := x
        simp only [Lit.wf, Bool.and_eq_true, decide_eq_true_eq] at hk
        have hwf := Lib.hid hk
        have u1 : IntKind.u8.min = 0 := rfl
        have u2 : IntKind.u8.max = 255 := rfl
        simp only [u1, u2] at hk
        obtain ⟨kk, rfl⟩ : ∃ k : Nat, kd = k := ⟨kd.toNat, by omega⟩
        clear hfq u1 u2
        simp only at c0 c1 c2 c3 hx
        have hb0 : Below wr.heap.size wr (wr.alloc (.cells #[.int .u8 kk, .int .i64 pl, .int .i64 nn, .string tx] 33)) := (Below.refl _ wr).alloc (Nat.le_refl _) _
        have h0 := HH.out.fresh hb0
        have RA := ref_act h0.le h0.list ⟨kk, pl, nn, tx⟩ (by simp only; omega)
        have H0 := Lib.hid h0
        have Hb0 := Lib.hid (Hbr.out.trans (hb0.mono Hbr.out.size))
        clear h0 hb0 hk
        by_cases hm : (kk : Int) % 3 = 2
        · go_wp2_with fail
          refine (RA.1 hm).mono ?_
          rintro e w4 hE
          obtain ⟨hb4, v4, rfl, hB4⟩ := H0.out.edit hE
          have d0 : w4.cell? ⟨wr.heap.size, 0, none⟩ = some (.int .u8 kk) := (hb4.cell (p := ⟨wr.heap.size, 0, none⟩) (by simp)).trans (by simp)
          have d1 : w4.cell? ⟨wr.heap.size, 1, none⟩ = some (.int .i64 pl) := (hb4.cell (p := ⟨wr.heap.size, 1, none⟩) (by simp)).trans (by simp)
          have d2 : w4.cell? ⟨wr.heap.size, 2, none⟩ = some (.int .i64 nn) := (hb4.cell (p := ⟨wr.heap.size, 2, none⟩) (by simp)).trans (by simp)
          have d3 : w4.cell? ⟨wr.heap.size, 3, none⟩ = some (.string tx) := (hb4.cell (p := ⟨wr.heap.size, 3, none⟩) (by simp)).trans (by simp)
          have hw4 : Below w.heap.size w w4 := Hb0.out.trans (hb4.mono Hb0.out.size)
          have hDo := both_do hB4 ⟨kk, pl, nn, tx⟩ (by simp only; omega) (by simp only [Lit.wf, Bool.and_eq_true, decide_eq_true_eq]; exact hwf.out) (Utf8Tabs_below HT0.out hw4)
          unfold GAct.val at hDo
          simp only at hDo
          obtain ⟨X, hX⟩ : ∃ X, actX xs ⟨kk, pl, nn, tx⟩ = X := ⟨_, rfl⟩
          rw [hX] at hDo hB4 ⊢
          obtain ⟨P, c⟩ := X
          simp only at hDo hB4 ⊢
          have hsh := hB4.list.shape
          obtain ⟨a4, k4, rfl⟩ := hsh
          have Hw4 := Lib.hid hw4
          clear hE hB4 hX hb4 hw4 RA H0 Hb0
          go_wp2_with fail
          refine hDo.mono ?_
          clear hDo
          rintro e w5 ⟨rfl, hB5, hb5⟩
          have hle := hB5.le
          have hv := hB5.valid
          have hLe : ∀ W, Below w5.heap.size w5 W → _ := fun W hb => both_len (hB5.fresh hb)
          have hTx : ∀ W, Below w5.heap.size w5 W → _ := fun W hb => both_text (hB5.fresh hb)
          have hRt : ∀ W, Below w5.heap.size w5 W → _ := fun W hb => rtext_any _ P (by omega) hv W (hB5.fresh hb).list.reads
          have hLi : ∀ W, Below w5.heap.size w5 W → _ := fun W hb => both_lines (hB5.fresh hb)
          have hRl : ∀ W, Below w5.heap.size w5 W → _ := fun W hb => rlines_any _ P (by omega) W (hB5.fresh hb).list.reads
          have hDg : ∀ W, Below w5.heap.size w5 W → _ := fun W hb => both_digest (hB5.fresh hb)
          have hRd := fun W => rdigest_any ⟨(joinL P).toArray⟩ W (by have := size_join P hle; unfold maxLen; omega)
          have Hw5 := Lib.hid (Hw4.out.trans (hb5.mono (Nat.le_refl _)))
          clear hb5 Hw4 hv d0 d1 d2 d3
          generalize (⟨(joinL P).toArray⟩ : ByteArray) = T at hTx hRt hDg hRd
          generalize dig T.data.toList = D at hDg hRd
          generalize (fd P).length + 1 = M at hLi hRl
          obtain ⟨L, hL⟩ : ∃ L, P.length = L := ⟨_, rfl⟩
          simp only [hL] at hLe hRt hRl ⊢
          rw [hL] at hB5
          have HB5 := Lib.hid hB5
          clear hB5
          have HLe := Lib.hid hLe
          have HTx := Lib.hid hTx
          have HRt := Lib.hid hRt
          have HLi := Lib.hid hLi
          have HRl := Lib.hid hRl
          have HDg := Lib.hid hDg
          have HRd := Lib.hid hRd
          have hss : (T.toList == T.toList) = true := beq_self_eq_true _
          clear hLe hTx hRt hLi hRl hDg hRd hL hle
          go_wp2_with (first
            | (go_at_call 14; refine (HLe.out _ (Below.refl _ _)).mono ?_; rintro e _ ⟨rfl, q5, rfl⟩)
            | (go_at_call 15; refine (HTx.out _ (below_drewN (Below.refl _ _) _)).mono ?_; rintro e w6 ⟨rfl, hb6⟩; have h6 := below_off2 hb6)
            | (go_at_call 16; (first | (refine (HRt.out _ h8).mono ?_; rintro e w9 ⟨rfl, hb9⟩; have h9 := h8.trans (hb9.mono h8.size)) | (refine (HRt.out _ h6).mono ?_; rintro e w7 ⟨rfl, hb7⟩; have h7 := h6.trans (hb7.mono h6.size))))
            | (go_at_call 17; refine (HLi.out _ h7).mono ?_; rintro e _ ⟨rfl, q7, rfl⟩; have h7' := below_drewN h7 q7)
            | (go_at_call 18; refine (HRl.out _ h7').mono ?_; rintro e _ ⟨rfl, rfl⟩)
            | (go_at_call 19; refine (HDg.out _ h7').mono ?_; rintro e w8 ⟨rfl, hb8⟩; have h8 := h7'.trans (hb8.mono h7'.size))
            | (go_at_call 20; refine (HRd.out _).mono ?_; rintro e _ ⟨rfl, rfl⟩))
          go_roundw
          case rel => exact ⟨q + 1, P, by go_num, by omega, HB5.out.fresh h9, Hw5.out.trans (h9.mono Hw5.out.size)⟩
          case measure => simp [intOf]; omega
        · go_wp2_with fail
          refine (RA.2 hm).mono ?_
          rintro e w4 hE
          obtain ⟨hb4, v4, rfl, hB4⟩ := H0.out.edit hE
          have d0 : w4.cell? ⟨wr.heap.size, 0, none⟩ = some (.int .u8 kk) := (hb4.cell (p := ⟨wr.heap.size, 0, none⟩) (by simp)).trans (by simp)
          have d1 : w4.cell? ⟨wr.heap.size, 1, none⟩ = some (.int .i64 pl) := (hb4.cell (p := ⟨wr.heap.size, 1, none⟩) (by simp)).trans (by simp)
          have d2 : w4.cell? ⟨wr.heap.size, 2, none⟩ = some (.int .i64 nn) := (hb4.cell (p := ⟨wr.heap.size, 2, none⟩) (by simp)).trans (by simp)
          have d3 : w4.cell? ⟨wr.heap.size, 3, none⟩ = some (.string tx) := (hb4.cell (p := ⟨wr.heap.size, 3, none⟩) (by simp)).trans (by simp)
          have hw4 : Below w.heap.size w w4 := Hb0.out.trans (hb4.mono Hb0.out.size)
          have hDo := both_do hB4 ⟨kk, pl, nn, tx⟩ (by simp only; omega) (by simp only [Lit.wf, Bool.and_eq_true, decide_eq_true_eq]; exact hwf.out) (Utf8Tabs_below HT0.out hw4)
          unfold GAct.val at hDo
          simp only at hDo
          obtain ⟨X, hX⟩ : ∃ X, actX xs ⟨kk, pl, nn, tx⟩ = X := ⟨_, rfl⟩
          rw [hX] at hDo hB4 ⊢
          obtain ⟨P, c⟩ := X
          simp only at hDo hB4 ⊢
          have hsh := hB4.list.shape
          obtain ⟨a4, k4, rfl⟩ := hsh
          have Hw4 := Lib.hid hw4
          clear hE hB4 hX hb4 hw4 RA H0 Hb0
          go_wp2_with fail
          refine hDo.mono ?_
          clear hDo
          rintro e w5 ⟨rfl, hB5, hb5⟩
          have hle := hB5.le
          have hv := hB5.valid
          have hLe : ∀ W, Below w5.heap.size w5 W → _ := fun W hb => both_len (hB5.fresh hb)
          have hTx : ∀ W, Below w5.heap.size w5 W → _ := fun W hb => both_text (hB5.fresh hb)
          have hRt : ∀ W, Below w5.heap.size w5 W → _ := fun W hb => rtext_any _ P (by omega) hv W (hB5.fresh hb).list.reads
          have hLi : ∀ W, Below w5.heap.size w5 W → _ := fun W hb => both_lines (hB5.fresh hb)
          have hRl : ∀ W, Below w5.heap.size w5 W → _ := fun W hb => rlines_any _ P (by omega) W (hB5.fresh hb).list.reads
          have hDg : ∀ W, Below w5.heap.size w5 W → _ := fun W hb => both_digest (hB5.fresh hb)
          have hRd := fun W => rdigest_any ⟨(joinL P).toArray⟩ W (by have := size_join P hle; unfold maxLen; omega)
          have Hw5 := Lib.hid (Hw4.out.trans (hb5.mono (Nat.le_refl _)))
          clear hb5 Hw4 hv d0 d1 d2 d3
          generalize (⟨(joinL P).toArray⟩ : ByteArray) = T at hTx hRt hDg hRd
          generalize dig T.data.toList = D at hDg hRd
          generalize (fd P).length + 1 = M at hLi hRl
          obtain ⟨L, hL⟩ : ∃ L, P.length = L := ⟨_, rfl⟩
          simp only [hL] at hLe hRt hRl ⊢
          rw [hL] at hB5
          have HB5 := Lib.hid hB5
          clear hB5
          have HLe := Lib.hid hLe
          have HTx := Lib.hid hTx
          have HRt := Lib.hid hRt
          have HLi := Lib.hid hLi
          have HRl := Lib.hid hRl
          have HDg := Lib.hid hDg
          have HRd := Lib.hid hRd
          have hss : (T.toList == T.toList) = true := beq_self_eq_true _
          clear hLe hTx hRt hLi hRl hDg hRd hL hle
          go_wp2_with (first
            | (go_at_call 14; refine (HLe.out _ (Below.refl _ _)).mono ?_; rintro e _ ⟨rfl, q5, rfl⟩)
            | (go_at_call 15; refine (HTx.out _ (below_drewN (Below.refl _ _) _)).mono ?_; rintro e w6 ⟨rfl, hb6⟩; have h6 := below_off2 hb6)
            | (go_at_call 16; (first | (refine (HRt.out _ h8).mono ?_; rintro e w9 ⟨rfl, hb9⟩; have h9 := h8.trans (hb9.mono h8.size)) | (refine (HRt.out _ h6).mono ?_; rintro e w7 ⟨rfl, hb7⟩; have h7 := h6.trans (hb7.mono h6.size))))
            | (go_at_call 17; refine (HLi.out _ h7).mono ?_; rintro e _ ⟨rfl, q7, rfl⟩; have h7' := below_drewN h7 q7)
            | (go_at_call 18; refine (HRl.out _ h7').mono ?_; rintro e _ ⟨rfl, rfl⟩)
            | (go_at_call 19; refine (HDg.out _ h7').mono ?_; rintro e w8 ⟨rfl, hb8⟩; have h8 := h7'.trans (hb8.mono h7'.size))
            | (go_at_call 20; refine (HRd.out _).mono ?_; rintro e _ ⟨rfl, rfl⟩))
          go_roundw
          case rel => exact ⟨q + 1, P, by go_num, by omega, HB5.out.fresh h9, Hw5.out.trans (h9.mono Hw5.out.size)⟩
          case measure => simp [intOf]; omega
      · have i1 : ¬ ((q : Int) < (n : Int)) := by omega
        have Hbr := Lib.hid hbr
        clear hH hbr
        go_wp2
        go_ret
        exact ⟨rfl, Hbr.out⟩
  · obtain ⟨c, hcc⟩ : ∃ c, (insX [] 0 (runesL s.data.toList)).2 = c := ⟨_, rfl⟩
    rw [hcc] at hc ⊢
    have hq : (c != 0) = true := by rw [bne, beq_eq_false_iff_ne.2 hc]; rfl
    have hq2 : (c == 0) = false := beq_eq_false_iff_ne.2 hc
    have hq3 : (c == c) = true := beq_self_eq_true _
    have hcc2 := Lib.hid hcc
    have Hb2 := Lib.hid (hb1.trans (hb2.mono hb1.size))
    clear hc hcc hb1 hb2
    go_wp2_with fail
    refine (HI.out _).mono ?_
    clear HI
    rintro e w3 ⟨hb3, v3, rfl, _, _⟩
    rw [hcc2.out]
    go_wp2
    go_ret
    exact ⟨rfl, Hb2.out.trans (hb3.mono Hb2.out.size)⟩
end Go.Proofs.YtpldalmodcmfaaaDoor
