/- The program's Same and Before (after those of the document). -/
import Derived.Test.YtnlajfdgpdijjaaRefOpsSame
import Derived.Test.YtnlajfdgpdijjaaDoesVect
namespace Go.Proofs.Ytnlajfdgpdijjaa
open Go.RowKit

set_option maxRecDepth 100000 in
set_option maxHeartbeats 4000000 in
theorem pSpEqual_any (u v : Value) (xs ys : List Sp) (w : World) (h1 : SpAt w u xs) (h2 : SpAt w v ys) (hx : xs.length ≤ 1000000000) :
    Calls Try.prog 39 #[u, v] w fun e w' => e = .returned (.bool (decide (xs = ys))) ∧ Below w.heap.size w w' := by
  by_cases hl : xs.length = ys.length
  · have H1 := Lib.hid h1
    have H2 := Lib.hid h2
    obtain ⟨ao, cap, rfl, _⟩ := h1
    obtain ⟨ao2, cap2, rfl, _⟩ := h2
    obtain ⟨n, hn⟩ : ∃ n, xs.length = n := ⟨_, rfl⟩
    rw [← hl, hn]
    have Hn := Lib.hid hn
    have Hm := Lib.hid (hl.symm.trans hn)
    rw [hn] at hx
    clear hn hl
    go_enter Try.func39, Try.ntmps39
    go_wp2
    go_loopw [13] (fun i wr => ∃ k : Nat, i = .int .i64 k ∧ k ≤ n ∧ xs.take k = ys.take k ∧ Below w.heap.size w wr) (fun i _ => n - (intOf i).toNat)
    case atStart => exact ⟨0, rfl, Nat.zero_le _, rfl, Below.refl _ _⟩
    case round =>
      obtain ⟨k, rfl, hk, ht, hb⟩ := hrel
      have Ht := Lib.hid ht
      have Hb := Lib.hid hb
      clear ht hb
      rcases Nat.lt_or_ge k n with hlt | hge
      · have hxk : k < xs.length := by rw [Hn.out]; exact hlt
        have hyk : k < ys.length := by rw [Hm.out]; exact hlt
        obtain ⟨b, off, c1, hv1, hc1, hc1'⟩ := (H1.out.below Hb.out).at hxk
        obtain ⟨b2, off2, c2, hv2, hc2, hc2'⟩ := (H2.out.below Hb.out).at hyk
        rw [Hn.out] at hv1
        rw [Hm.out] at hv2
        cases hv1
        cases hv2
        obtain ⟨x, ex⟩ : ∃ x, xs.getD k (0, 0) = x := ⟨_, rfl⟩
        obtain ⟨y, ey⟩ : ∃ y, ys.getD k (0, 0) = y := ⟨_, rfl⟩
        rw [ex] at hc1 hc1'
        rw [ey] at hc2 hc2'
        have hi : (0 : Int) ≤ (k : Int) ∧ (k : Int) < (n : Int) := ⟨by omega, by omega⟩
        by_cases hxy : x = y
        · subst hxy
          have HN := Lib.hid (take_moreS Ht.out hxk hyk (ex.trans ey.symm))
          have hE := fun w => spEq_neq w x.1 x.2 x.1 x.2 true (by simp)
          clear ex ey hxk hyk
          generalize x.1 = F at *
          generalize x.2 = E at *
          go_wp2_with fail
          go_quiet (fail)
          go_wp2
          go_roundw
          case rel => exact ⟨k + 1, by go_num, by omega, HN.out, below_draws Hb.out _⟩
          case measure => simp [intOf]; omega
        · have hV := Lib.hid (show decide (xs = ys) = false from decide_eq_false fun e => hxy (by rw [← ex, ← ey, e]))
          have hE := fun w => spEq_neq w x.1 x.2 y.1 y.2 false (by
            cases hq : (x.1 == y.1 && x.2 == y.2) with
            | false => rfl
            | true =>
              obtain ⟨q1, q2⟩ := Bool.and_eq_true_iff.1 hq
              exact absurd (Prod.ext (by simpa using q1) (by simpa using q2)) hxy)
          clear ex ey hxk hyk hxy
          generalize x.1 = F at *
          generalize x.2 = E at *
          generalize y.1 = F' at *
          generalize y.2 = E' at *
          go_wp2_with fail
          go_quiet (fail)
          go_wp2
          go_ret
          exact ⟨ret_bool hV.out.symm, below_draws Hb.out _⟩
      · obtain rfl : k = n := by omega
        have hV := Lib.hid (show decide (xs = ys) = true from decide_eq_true (by
          have := Ht.out
          rwa [List.take_of_length_le (by rw [Hn.out]; exact Nat.le_refl _), List.take_of_length_le (by rw [Hm.out]; exact Nat.le_refl _)] at this))
        go_wp2
        go_ret
        exact ⟨ret_bool hV.out.symm, Hb.out⟩
  · have hV := Lib.hid (show decide (xs = ys) = false from decide_eq_false fun e => hl (by rw [e]))
    obtain ⟨ao, cap, rfl, _⟩ := h1
    obtain ⟨ao2, cap2, rfl, _⟩ := h2
    generalize xs.length = n at *
    generalize ys.length = m at *
    have hne : ¬ (n : Int) = (m : Int) := by omega
    have hne1 : ((n : Int) != (m : Int)) = true := bne_iff_ne.2 hne
    have hbq : Below w.heap.size w w := Below.refl _ _
    go_enter Try.func39, Try.ntmps39
    go_wp2
    go_ret
    exact ⟨ret_bool hV.out.symm, Below.refl _ _⟩
set_option maxRecDepth 100000 in
set_option maxHeartbeats 4000000 in
theorem pSame_any (s q n k a : Int) (t : ByteArray) (sp : Value) (s' q' n' k' a' : Int) (t' : ByteArray) (sp' : Value) (xs ys : List Sp) (w : World) (h1 : SpAt w sp xs) (h2 : SpAt w sp' ys) (hx : xs.length ≤ 1000000000) :
    Calls Try.prog 14 #[opV s q n k a t sp, opV s' q' n' k' a' t' sp'] w fun e w' => e = .returned (.bool (decide ((s = s' ∧ q = q') ∧ n = n' ∧ k = k' ∧ a = a' ∧ t = t' ∧ xs = ys))) ∧ Below w.heap.size w w' := by
  have hbx := ((Below.refl w.heap.size w).alloc (Nat.le_refl _) (.cells #[.int .i64 s, .int .i64 q, .int .i64 n, .int .i64 k, .int .i64 a, .string t, sp] 26))
  have hbx := hbx.alloc hbx.size (.cells #[.int .i64 s', .int .i64 q', .int .i64 n', .int .i64 k', .int .i64 a', .string t', sp'] 26)
  have hS := pSpEqual_any sp sp' xs ys _ (h1.below hbx) (h2.below hbx) hx
  have HBX := Lib.hid hbx
  clear hbx h1 h2
  unfold opV
  obtain ⟨r, hr⟩ : ∃ r, decide ((s = s' ∧ q = q') ∧ n = n' ∧ k = k' ∧ a = a' ∧ t = t' ∧ xs = ys) = r := ⟨_, rfl⟩
  rw [hr]
  have HR := Lib.hid hr
  clear hr
  by_cases g1 : s = s' ∧ q = q'
  case neg =>
    have HV := Lib.hid (show r = false from HR.out.symm.trans (decide_eq_false fun h => g1 h.1))
    have hE := fun w => nmEq_eql w s q s' q' false (by
      cases hz : (s == s' && q == q') with
      | false => rfl
      | true =>
        obtain ⟨z1, z2⟩ := Bool.and_eq_true_iff.1 hz
        exact absurd ⟨by simpa using z1, by simpa using z2⟩ g1)
    clear g1 hS
    go_enter Try.func14, Try.ntmps14
    go_wp2
    go_ret
    exact ⟨ret_bool HV.out.symm, HBX.out⟩
  obtain ⟨rfl, rfl⟩ := g1
  have hE := fun w => nmEq_eql w s q s q true (by simp)
  by_cases g : n = n'
  case neg =>
    have HV := Lib.hid (show r = false from HR.out.symm.trans (decide_eq_false fun h => g h.2.1))
    have g0 : (n == n') = false := beq_eq_false_iff_ne.2 g
    clear g hS
    go_enter Try.func14, Try.ntmps14
    go_wp2
    go_ret
    exact ⟨ret_bool HV.out.symm, HBX.out⟩
  subst g
  by_cases g : k = k'
  case neg =>
    have HV := Lib.hid (show r = false from HR.out.symm.trans (decide_eq_false fun h => g h.2.2.1))
    have g0 : (k == k') = false := beq_eq_false_iff_ne.2 g
    clear g hS
    go_enter Try.func14, Try.ntmps14
    go_wp2
    go_ret
    exact ⟨ret_bool HV.out.symm, HBX.out⟩
  subst g
  by_cases g : a = a'
  case neg =>
    have HV := Lib.hid (show r = false from HR.out.symm.trans (decide_eq_false fun h => g h.2.2.2.1))
    have g0 : (a == a') = false := beq_eq_false_iff_ne.2 g
    clear g hS
    go_enter Try.func14, Try.ntmps14
    go_wp2
    go_ret
    exact ⟨ret_bool HV.out.symm, HBX.out⟩
  subst g
  by_cases g : t = t'
  case neg =>
    have HV := Lib.hid (show r = false from HR.out.symm.trans (decide_eq_false fun h => g h.2.2.2.2.1))
    have g1 : ¬ t.toList = t'.toList := fun e => g (bytes_same (by rwa [list_data, list_data] at e))
    clear g
    clear hS
    go_enter Try.func14, Try.ntmps14
    go_wp2
    go_ret
    exact ⟨ret_bool HV.out.symm, HBX.out⟩
  subst g
  have HV := Lib.hid (show r = decide (xs = ys) from HR.out.symm.trans (decide_eq_decide.2 ⟨fun h => h.2.2.2.2.2, fun h => ⟨⟨rfl, rfl⟩, rfl, rfl, rfl, rfl, h⟩⟩))
  clear HR
  generalize decide (xs = ys) = r' at *
  go_enter Try.func14, Try.ntmps14
  go_wp2_with fail
  refine hS.mono ?_
  clear hS
  rintro e w1 ⟨rfl, hb⟩
  have HW := Lib.hid (HBX.out.trans (hb.mono HBX.out.size))
  clear hb
  go_wp2
  go_ret
  exact ⟨ret_bool HV.out.symm, HW.out⟩

set_option maxRecDepth 100000 in
set_option maxHeartbeats 4000000 in
theorem pBefore_any (s q n k a : Int) (t : ByteArray) (sp : Value) (s' q' n' k' a' : Int) (t' : ByteArray) (sp' : Value) (w : World) :
    Calls Try.prog 16 #[opV s q n k a t sp, opV s' q' n' k' a' t' sp'] w fun e w' => e = .returned (.bool (bef n s q n' s' q')) ∧ Below w.heap.size w w' := by
  have hL := fun W => pLess_any s q s' q' W
  unfold nmV at hL
  unfold opV
  have hbx := ((Below.refl w.heap.size w).alloc (Nat.le_refl _) (.cells #[.int .i64 s, .int .i64 q, .int .i64 n, .int .i64 k, .int .i64 a, .string t, sp] 26))
  have HBX := Lib.hid (hbx.alloc hbx.size (.cells #[.int .i64 s', .int .i64 q', .int .i64 n', .int .i64 k', .int .i64 a', .string t', sp'] 26))
  clear hbx
  by_cases h1 : n = n'
  · subst h1
    have hB := Lib.hid (show bef n s q n s' q' = nLess s q s' q' by unfold bef; rw [if_pos rfl])
    generalize nLess s q s' q' = r at *
    go_enter Try.func16, Try.ntmps16
    go_wp2_with fail
    refine (hL _).mono ?_
    clear hL
    rintro e w1 ⟨rfl, hb⟩
    have HW := Lib.hid (HBX.out.trans (hb.mono HBX.out.size))
    clear hb
    go_wp2
    go_ret
    exact ⟨ret_bool hB.out.symm, HW.out⟩
  · have e1 : (n == n') = false := beq_eq_false_iff_ne.2 h1
    clear hL
    by_cases h2 : n' = 0
    · have hB := Lib.hid (show bef n s q n' s' q' = true by unfold bef; rw [if_neg h1, if_neg (by omega)]; exact decide_eq_true (.inl h2))
      subst h2
      have e3 : (n == 0) = false := e1
      clear h1
      go_enter Try.func16, Try.ntmps16
      go_wp2
      go_ret
      exact ⟨ret_bool hB.out.symm, HBX.out⟩
    · have e2 : (n' == 0) = false := beq_eq_false_iff_ne.2 h2
      by_cases h0 : n = 0
      · have hB := Lib.hid (show bef n s q n' s' q' = false by unfold bef; rw [if_neg h1, if_pos h0])
        subst h0
        clear h1
        go_enter Try.func16, Try.ntmps16
        go_wp2
        go_ret
        exact ⟨ret_bool hB.out.symm, HBX.out⟩
      · have hB := Lib.hid (show bef n s q n' s' q' = decide (n < n') by unfold bef; rw [if_neg h1, if_neg h0]; exact decide_eq_decide.2 (by omega))
        clear h1 h2
        go_enter Try.func16, Try.ntmps16
        go_wp2
        go_ret
        exact ⟨ret_bool (by rw [hB.out, show (n != 0) = true by simpa using h0, Bool.true_and]), HBX.out⟩
end Go.Proofs.Ytnlajfdgpdijjaa
