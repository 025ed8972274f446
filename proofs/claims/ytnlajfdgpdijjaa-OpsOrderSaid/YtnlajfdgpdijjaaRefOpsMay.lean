/- The document's operations: which texts may be inserted, how much is added, which operations and edits may be. -/
import Derived.Test.YtnlajfdgpdijjaaRefOpsSame
import Derived.Test.YtnlajfdgpdijjaaRefSplit
namespace Go.Proofs.Ytnlajfdgpdijjaa
open Go.RowKit

theorem rlenT_any (s : ByteArray) (hs : s.size ≤ 1000000) (w : World) :
    Calls Try.prog 37 #[.string s] w fun e w' => e = .returned (.int .i64 (lenT s.data.toList)) ∧ Below w.heap.size w w' := rlen_any s hs w
set_option maxRecDepth 100000 in
set_option maxHeartbeats 2000000 in
theorem rOText_any (t : ByteArray) (ht : t.size ≤ 1000000) (w : World) :
    Calls Try.prog 36 #[.string t] w fun e w' => e = .returned (.bool (mayT t.data.toList)) ∧ Below w.heap.size w w' := by
  have hL := rlenT_any t ht w
  have hsz : t.data.toList.length = t.size := (Lib.size_eq t).symm
  by_cases h8 : 800 < t.size
  · have hV := Lib.hid (show mayT t.data.toList = false by unfold mayT; rw [decide_eq_false (by omega), Bool.false_and])
    clear hsz
    go_enter Try.func36, Try.ntmps36
    go_wp2
    go_ret
    exact ⟨ret_bool hV.out.symm, Below.refl _ _⟩
  · have hV := Lib.hid (show mayT t.data.toList = (decide (1 ≤ lenT t.data.toList) && decide (lenT t.data.toList ≤ 200)) by
      unfold mayT
      rw [decide_eq_true (by omega), Bool.true_and, Bool.eq_iff_iff]
      simp)
    clear hsz
    generalize lenT t.data.toList = L at *
    go_enter Try.func36, Try.ntmps36
    go_wp2_with fail
    refine hL.mono ?_
    clear hL
    rintro e w1 ⟨rfl, hb⟩
    by_cases g1 : 1 ≤ L
    · have hV2 := Lib.hid (show mayT t.data.toList = decide (L ≤ 200) by rw [hV.out, decide_eq_true g1, Bool.true_and])
      go_wp2
      go_ret
      exact ⟨ret_bool hV2.out.symm, hb⟩
    · have hV2 := Lib.hid (show mayT t.data.toList = false by rw [hV.out, decide_eq_false g1, Bool.false_and])
      go_wp2
      go_ret
      exact ⟨ret_bool hV2.out.symm, hb⟩
set_option maxRecDepth 100000 in
set_option maxHeartbeats 2000000 in
theorem rOAdds_any (s q n k a : Int) (t : ByteArray) (sp : Value) (xs : List Sp) (ht : t.size ≤ 1000000) (w : World) :
    Calls Try.prog 13 #[opV s q n k a t sp] w fun e w' => e = .returned (.int .i64 (oAdds ⟨s, q, n, k, a, t.data.toList, xs⟩)) ∧ Below w.heap.size w w' := by
  have hL := fun W => rlenT_any t ht W
  have hbx := OBox.new s q n k a t sp w 26
  have HV := Lib.hid (show oAdds ⟨s, q, n, k, a, t.data.toList, xs⟩ = if k = 1 then (if lenT t.data.toList < 0 then 0 else lenT t.data.toList) else 0 from rfl)
  generalize lenT t.data.toList = L at *
  have HB := Lib.hid hbx
  clear hbx
  unfold opV
  by_cases hk : k = 1
  · subst hk
    by_cases hl : L < 0
    · have HV2 := Lib.hid (show oAdds ⟨s, q, n, 1, a, t.data.toList, xs⟩ = 0 by rw [HV.out, if_pos rfl, if_pos hl])
      go_enter Try.func13, Try.ntmps13
      go_wp2_with fail
      refine (hL _).mono ?_
      clear hL
      rintro e w1 ⟨rfl, hb⟩
      have h1 := Lib.hid (HB.out.keep hb)
      clear hb
      go_wp2
      go_ret
      exact ⟨ret_i64 HV2.out.symm, h1.out.2.2.2.2.2.2.2⟩
    · have HV2 := Lib.hid (show oAdds ⟨s, q, n, 1, a, t.data.toList, xs⟩ = L by rw [HV.out, if_pos rfl, if_neg hl])
      go_enter Try.func13, Try.ntmps13
      go_wp2_with fail
      refine (hL _).mono ?_
      rintro e w1 ⟨rfl, hb⟩
      have h1 := HB.out.keep hb
      have H1 := Lib.hid h1
      obtain ⟨c0, c1, c2, c3, c4, c5, c6, _⟩ := h1
      clear hb
      go_wp2_with fail
      refine (hL _).mono ?_
      clear hL c0 c1 c2 c3 c4 c5 c6
      rintro e w2 ⟨rfl, hb⟩
      have h2 := Lib.hid (H1.out.keep hb)
      clear hb
      go_wp2
      go_ret
      exact ⟨ret_i64 HV2.out.symm, h2.out.2.2.2.2.2.2.2⟩
  · have hk1 : (k != 1) = true := bne_iff_ne.2 hk
    have HV2 := Lib.hid (show oAdds ⟨s, q, n, k, a, t.data.toList, xs⟩ = 0 by rw [HV.out, if_neg hk])
    clear hk HV
    go_enter Try.func13, Try.ntmps13
    go_wp2
    go_ret
    exact ⟨ret_i64 HV2.out.symm, HB.out.2.2.2.2.2.2.2⟩
theorem oMay_kind1 {s q n a size : Int} {t : List UInt8} {xs : List Sp} (h : decide (0 ≤ size ∧ size ≤ 20000) = true) (hm : nMay s q = true) (hn : decide (0 ≤ n ∧ n ≤ 1099511627776) = true) :
    oMay ⟨s, q, n, 1, a, t, xs⟩ size = (decide (0 ≤ a ∧ a ≤ size) && mayT t && decide (xs = []) && decide (size + lenT t ≤ 20000)) := by
  unfold oMay
  dsimp only
  rw [h, hm, hn, if_pos rfl]
  simp
theorem oMay_kind2 {s q n k a size : Int} {t : List UInt8} {xs : List Sp} (h : decide (0 ≤ size ∧ size ≤ 20000) = true) (hm : nMay s q = true) (hn : decide (0 ≤ n ∧ n ≤ 1099511627776) = true) (hk : k ≠ 1) :
    oMay ⟨s, q, n, k, a, t, xs⟩ size = (decide (k = 2) && decide (a = 0) && decide (t = []) && sMay xs && xs.all fun x => decide (x.1 + x.2 ≤ size)) := by
  unfold oMay
  dsimp only
  rw [h, hm, hn, if_neg hk]
  simp
theorem oMay_no {s q n k a size : Int} {t : List UInt8} {xs : List Sp} (h : ¬ (0 ≤ size ∧ size ≤ 20000 ∧ nMay s q = true ∧ 0 ≤ n ∧ n ≤ 1099511627776)) : oMay ⟨s, q, n, k, a, t, xs⟩ size = false := by
  cases hz : oMay ⟨s, q, n, k, a, t, xs⟩ size with
  | false => rfl
  | true =>
    unfold oMay at hz
    dsimp only at hz
    simp only [Bool.and_eq_true, decide_eq_true_eq] at hz
    exact absurd ⟨hz.1.1.1.1, hz.1.1.1.2, hz.1.1.2, hz.1.2.1, hz.1.2.2⟩ h
theorem all_next {xs : List Sp} (p : Sp → Bool) {k : Nat} (hk : k < xs.length) : (xs.take (k + 1)).all p = ((xs.take k).all p && p (xs.getD k (0, 0))) := by
  rw [List.take_succ_eq_append_getElem hk, List.all_append, getD_cell hk]
  simp
theorem all_no {xs : List Sp} (p : Sp → Bool) {k : Nat} (hk : k < xs.length) (h : p (xs.getD k (0, 0)) = false) : xs.all p = false := by
  rw [List.all_eq_false]
  exact ⟨xs[k], List.getElem_mem hk, by rw [getD_cell hk, h]; simp⟩
set_option maxRecDepth 100000 in
set_option maxHeartbeats 8000000 in
theorem rOMay_any (s q n k a size : Int) (t : ByteArray) (sp : Value) (xs : List Sp) (ht : t.size ≤ 1000000) (w : World) (h : SpAt w sp xs) (hx : xs.length ≤ 1000000000) (ha : (Lit.int .i64 a).wf = true) :
    Calls Try.prog 11 #[opV s q n k a t sp, .int .i64 size] w fun e w' => e = .returned (.bool (oMay ⟨s, q, n, k, a, t.data.toList, xs⟩ size)) ∧ Below w.heap.size w w' := by
  have hM := fun W => rMayName_any s q W
  unfold nmV at hM
  have hT := fun W => rOText_any t ht W
  have hL := fun W => rlenT_any t ht W
  have hbx := OBox.new s q n k a t sp w 26
  have hs := h.below hbx.2.2.2.2.2.2.2
  obtain ⟨R, hR⟩ : ∃ R, oMay ⟨s, q, n, k, a, t.data.toList, xs⟩ size = R := ⟨_, rfl⟩
  rw [hR]
  have hNo : ¬ (0 ≤ size ∧ size ≤ 20000 ∧ nMay s q = true ∧ 0 ≤ n ∧ n ≤ 1099511627776) → R = false := fun g => by rw [← hR]; exact oMay_no g
  have HNO := Lib.hid hNo
  have HR := Lib.hid hR
  have HB := Lib.hid hbx
  have HS := Lib.hid hs
  clear hNo hR hbx hs
  unfold opV
  go_enter Try.func11, Try.ntmps11
  by_cases g0 : size < 0
  · have hV := Lib.hid (HNO.out (by omega))
    go_wp2
    go_ret
    exact ⟨ret_bool hV.out.symm, HB.out.2.2.2.2.2.2.2⟩
  by_cases g1 : 20000 < size
  · have hV := Lib.hid (HNO.out (by omega))
    go_wp2
    go_ret
    exact ⟨ret_bool hV.out.symm, HB.out.2.2.2.2.2.2.2⟩
  go_wp2_with fail
  refine (hM _).mono ?_
  clear hM
  rintro e w1 ⟨rfl, hb⟩
  have H1 := Lib.hid (HB.out.keep hb)
  have S1 := Lib.hid (HS.out.below hb)
  clear hb HB HS
  obtain ⟨c0, c1, c2, c3, c4, c5, c6, _⟩ := id H1.out
  cases hm : nMay s q with
  | false =>
    have hV := Lib.hid (HNO.out (by rw [hm]; intro q; exact Bool.noConfusion q.2.2.1))
    clear hm
    go_wp2
    go_ret
    exact ⟨ret_bool hV.out.symm, H1.out.2.2.2.2.2.2.2⟩
  | true =>
  by_cases g2 : n < 0
  · have hV := Lib.hid (HNO.out (by omega))
    clear hm
    go_wp2
    go_ret
    exact ⟨ret_bool hV.out.symm, H1.out.2.2.2.2.2.2.2⟩
  by_cases g3 : 1099511627776 < n
  · have hV := Lib.hid (HNO.out (by omega))
    clear hm
    go_wp2
    go_ret
    exact ⟨ret_bool hV.out.symm, H1.out.2.2.2.2.2.2.2⟩
  have e0 : decide (0 ≤ size ∧ size ≤ 20000) = true := decide_eq_true (by omega)
  have e1 : decide (0 ≤ n ∧ n ≤ 1099511627776) = true := decide_eq_true (by omega)
  have g2' : 0 ≤ n := by omega
  have g3' : n ≤ 1099511627776 := by omega
  by_cases hk : k = 1
  · subst hk
    have HR1 := Lib.hid (HR.out.symm.trans (oMay_kind1 (a := a) (t := t.data.toList) (xs := xs) e0 hm e1))
    clear hm e0 e1 HR HNO
    by_cases a0 : a < 0
    · have hV := Lib.hid (show R = false by rw [HR1.out, decide_eq_false (by omega)]; rfl)
      have a0' : ¬ 0 ≤ a := by omega
      go_wp2
      go_ret
      exact ⟨ret_bool hV.out.symm, H1.out.2.2.2.2.2.2.2⟩
    by_cases a1 : size < a
    · have hV := Lib.hid (show R = false by rw [HR1.out, decide_eq_false (by omega)]; rfl)
      have a0' : 0 ≤ a := by omega
      have a1' : ¬ a ≤ size := by omega
      go_wp2
      go_ret
      exact ⟨ret_bool hV.out.symm, H1.out.2.2.2.2.2.2.2⟩
    have a0' : 0 ≤ a := by omega
    have a1' : a ≤ size := by omega
    have HR2 := Lib.hid (show R = (mayT t.data.toList && decide (xs = []) && decide (size + lenT t.data.toList ≤ 20000)) by rw [HR1.out, decide_eq_true (p := 0 ≤ a ∧ a ≤ size) ⟨a0', a1'⟩, Bool.true_and])
    have hlb := lenT_ge t.data.toList
    have hub := lenT_le t.data.toList
    rw [← Lib.size_eq] at hub
    generalize lenT t.data.toList = L at *
    go_wp2_with fail
    refine (hT _).mono ?_
    clear hT c0 c1 c2 c3 c4 c5 c6
    rintro e w2 ⟨rfl, hb⟩
    have H2 := Lib.hid (H1.out.keep hb)
    clear hb H1 S1
    obtain ⟨c0, c1, c2, c3, c4, c5, c6, _⟩ := id H2.out
    cases hmt : mayT t.data.toList with
    | false =>
      have hV := Lib.hid (show R = false by rw [HR2.out, hmt]; rfl)
      clear hmt
      go_wp2
      go_ret
      exact ⟨ret_bool hV.out.symm, H2.out.2.2.2.2.2.2.2⟩
    | true =>
    have HR3 := Lib.hid (show R = (decide (xs = []) && decide (size + L ≤ 20000)) by rw [HR2.out, hmt, Bool.true_and])
    clear hmt HR2 HR1
    obtain ⟨ao, cap, rfl, _⟩ := h
    by_cases hnil : xs = []
    · have HR4 := Lib.hid (show R = decide (size + L ≤ 20000) by rw [HR3.out, decide_eq_true hnil, Bool.true_and])
      have hl0 : xs.length = 0 := by rw [hnil]; rfl
      rw [hl0] at c6 ⊢
      have hw : IntKind.i64.wrap (size + L) = size + L := by simp only [IntKind.wrap_i64]; omega
      go_wp2_with fail
      refine (hL _).mono ?_
      clear hL c0 c1 c2 c3 c4 c5 c6
      rintro e w3 ⟨rfl, hb⟩
      have H3 := Lib.hid ((H2.out.2.2.2.2.2.2.2).trans (hb.mono H2.out.2.2.2.2.2.2.2.size))
      clear hb
      go_wp2
      go_ret
      exact ⟨ret_bool HR4.out.symm, H3.out⟩
    · have hV := Lib.hid (show R = false by rw [HR3.out, decide_eq_false hnil]; rfl)
      obtain ⟨nl, hnl⟩ : ∃ nl, xs.length = nl := ⟨_, rfl⟩
      rw [hnl] at c6 ⊢
      have hne : ((nl : Int) == 0) = false := beq_eq_false_iff_ne.2 (by
        rintro q
        exact hnil (List.eq_nil_of_length_eq_zero (by omega)))
      clear hnl hnil
      go_wp2
      go_ret
      exact ⟨ret_bool hV.out.symm, H2.out.2.2.2.2.2.2.2⟩
  · have hk1 : (k == 1) = false := beq_eq_false_iff_ne.2 hk
    have HR1 := Lib.hid (HR.out.symm.trans (oMay_kind2 (a := a) (t := t.data.toList) (xs := xs) e0 hm e1 hk))
    clear hm e0 e1 HR HNO hT hL
    by_cases k2 : k = 2
    case neg =>
      have hV := Lib.hid (show R = false by rw [HR1.out, decide_eq_false k2]; rfl)
      have k2' : (k != 2) = true := bne_iff_ne.2 k2
      clear k2 hk
      go_wp2
      go_ret
      exact ⟨ret_bool hV.out.symm, H1.out.2.2.2.2.2.2.2⟩
    subst k2
    by_cases a0 : a = 0
    case neg =>
      have hV := Lib.hid (show R = false by rw [HR1.out, decide_eq_false a0]; rfl)
      have a0' : (a != 0) = true := bne_iff_ne.2 a0
      clear a0 hk
      go_wp2
      go_ret
      exact ⟨ret_bool hV.out.symm, H1.out.2.2.2.2.2.2.2⟩
    subst a0
    by_cases t0 : t.data.toList = []
    case neg =>
      have hV := Lib.hid (show R = false by rw [HR1.out, decide_eq_false t0]; rfl)
      have t0' : ¬ t.toList = [] := by rw [list_data]; exact t0
      clear t0 hk
      go_wp2
      go_ret
      exact ⟨ret_bool hV.out.symm, H1.out.2.2.2.2.2.2.2⟩
    have HR2 := Lib.hid (show R = (sMay xs && xs.all fun x => decide (x.1 + x.2 ≤ size)) by rw [HR1.out, decide_eq_true t0]; simp)
    have t0' : t.toList = [] := by rw [list_data]; exact t0
    have hQ := rSpMay_any sp xs w1 S1.out hx
    clear t0 hk HR1
    go_wp2_with fail
    refine hQ.mono ?_
    clear hQ c0 c1 c2 c3 c4 c5 c6
    rintro e w2 ⟨rfl, hb⟩
    have H2 := Lib.hid (H1.out.keep hb)
    have S2 := Lib.hid (S1.out.below hb)
    clear hb H1 S1
    cases hsm : sMay xs with
    | false =>
      have hV := Lib.hid (show R = false by rw [HR2.out, hsm]; rfl)
      clear hsm
      go_wp2
      go_ret
      exact ⟨ret_bool hV.out.symm, H2.out.2.2.2.2.2.2.2⟩
    | true =>
    have HG := Lib.hid ((sMay_good xs).1 hsm)
    have HR3 := Lib.hid (show R = xs.all fun x => decide (x.1 + x.2 ≤ size) by rw [HR2.out, hsm, Bool.true_and])
    clear hsm HR2
    obtain ⟨ao, cap, rfl, _⟩ := h
    obtain ⟨nl, hnl⟩ : ∃ nl, xs.length = nl := ⟨_, rfl⟩
    rw [hnl] at H2 S2 ⊢
    have HNL := Lib.hid hnl
    rw [hnl] at hx
    clear hnl
    go_wp2_with fail
    go_loopw [5] (fun i wr => ∃ c : Nat, i = .int .i64 c ∧ c ≤ nl ∧ ((xs.take c).all fun x => decide (x.1 + x.2 ≤ size)) = true ∧ Below w2.heap.size w2 wr) (fun i _ => nl - (intOf i).toNat)
    case atStart => exact ⟨0, rfl, Nat.zero_le _, rfl, Below.refl _ _⟩
    case round =>
      rename_i wr
      obtain ⟨c, rfl, hc, hall, hbw⟩ := hrel
      have H3 := Lib.hid (H2.out.keep hbw)
      have S3 := Lib.hid (S2.out.below hbw)
      have HALL := Lib.hid hall
      have HBW := Lib.hid hbw
      clear hall hbw
      obtain ⟨c0, c1, c2, c3, c4, c5, c6, _⟩ := id H3.out
      rcases Nat.lt_or_ge c nl with hlt | hge
      · have hxk : c < xs.length := by rw [HNL.out]; exact hlt
        obtain ⟨b, off, cap', hv, d0, d1⟩ := S3.out.at hxk
        rw [HNL.out] at hv
        cases hv
        have hgs := HG.out.1 _ (List.getElem_mem hxk)
        rw [getD_cell hxk] at hgs
        have hnx := all_next (fun x => decide (x.1 + x.2 ≤ size)) hxk
        have hbad := all_no (fun x => decide (x.1 + x.2 ≤ size)) hxk
        generalize (xs.getD c (0, 0)).1 = F at *
        generalize (xs.getD c (0, 0)).2 = E at *
        have HNX := Lib.hid hnx
        have HBAD := Lib.hid hbad
        clear hnx hbad hxk
        have hi : (0 : Int) ≤ (c : Int) ∧ (c : Int) < (nl : Int) := ⟨by omega, by omega⟩
        have hw : IntKind.i64.wrap (F + E) = F + E := by simp only [IntKind.wrap_i64]; omega
        by_cases hf : size < F + E
        · have hV := Lib.hid (HR3.out.trans (HBAD.out (decide_eq_false (by omega))))
          go_wp2_with fail
          go_quiet (fail)
          go_wp2
          go_ret
          exact ⟨ret_bool hV.out.symm, below_draws H3.out.2.2.2.2.2.2.2 _⟩
        · have hN := Lib.hid (show ((xs.take (c + 1)).all fun x => decide (x.1 + x.2 ≤ size)) = true by rw [HNX.out, HALL.out, decide_eq_true (by omega)]; rfl)
          go_wp2_with fail
          go_quiet (fail)
          go_wp2
          exact ⟨⟨c + 1, by go_num, by omega, hN.out, below_draws HBW.out _⟩, by simp [intOf]; omega⟩
      · obtain rfl : c = nl := by omega
        have hV := Lib.hid (show R = true by
          have := HALL.out
          rw [List.take_of_length_le (by rw [HNL.out]; exact Nat.le_refl _)] at this
          rw [HR3.out, this])
        go_wp2
        go_ret
        exact ⟨ret_bool hV.out.symm, H3.out.2.2.2.2.2.2.2⟩
end Go.Proofs.Ytnlajfdgpdijjaa
