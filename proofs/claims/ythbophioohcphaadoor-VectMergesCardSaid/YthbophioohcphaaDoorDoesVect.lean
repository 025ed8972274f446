/- The program's own names and vectors: MayName, NameLess, May, at, Count, Has. -/
import Derived.Test.YthbophioohcphaaDoorRefVect
namespace Go.Proofs.YthbophioohcphaaDoor
open Go.RowKit

set_option maxRecDepth 100000 in
set_option maxHeartbeats 2000000 in
theorem pMayName_any (s q : Int) (w : World) :
    Calls Tryd.prog 11 #[nmV s q] w fun e w' => e = .returned (.bool (nMay s q)) ∧ Below w.heap.size w w' := by
  unfold nmV
  have hB := (Below.refl w.heap.size w).alloc (Nat.le_refl _) (.cells #[.int .i64 s, .int .i64 q] 23)
  have fin : ∀ b, nMay s q = b → (Ending.returned (.bool b) = .returned (.bool (nMay s q)) ∧ Below w.heap.size w (w.alloc (.cells #[.int .i64 s, .int .i64 q] 23))) := fun b h => ⟨by rw [h], hB⟩
  have HF := Lib.hid fin
  clear fin
  by_cases p1 : 1 ≤ s
  by_cases p2 : s ≤ 16
  by_cases p3 : 1 ≤ q
  by_cases p4 : q ≤ 1099511627776
  all_goals
    go_enter Tryd.func11, Tryd.ntmps11
    go_wp2
    go_ret
  · exact HF.out true (decide_eq_true ⟨p1, p2, p3, p4⟩)
  · exact HF.out false (decide_eq_false (by omega))
  · exact HF.out false (decide_eq_false (by omega))
  · exact HF.out false (decide_eq_false (by omega))
  · exact HF.out false (decide_eq_false (by omega))
theorem vLessForm (s q s' q' : Int) : nLess s q s' q' = if s = s' then decide (q < q') else decide (s < s') := by
  unfold nLess
  by_cases h : s = s'
  · subst h; simp
  · rw [if_neg h]
    simp [h]
set_option maxRecDepth 100000 in
set_option maxHeartbeats 2000000 in
theorem pLess_any (s q s' q' : Int) (w : World) :
    Calls Tryd.prog 13 #[nmV s q, nmV s' q'] w fun e w' => e = .returned (.bool (nLess s q s' q')) ∧ Below w.heap.size w w' := by
  have hF := Lib.hid (vLessForm s q s' q')
  unfold nmV
  have hB := Lib.hid (below_pair w (.cells #[.int .i64 s, .int .i64 q] 23) (.cells #[.int .i64 s', .int .i64 q'] 23))
  by_cases p2 : s = s'
  · subst p2
    have p2b : (s != s) = false := by simp
    rw [if_pos rfl] at hF
    go_enter Tryd.func13, Tryd.ntmps13
    go_wp2
    go_ret
    exact ⟨ret_bool hF.out.symm, hB.out⟩
  · have p2b : (s != s') = true := by simpa using p2
    rw [if_neg p2] at hF
    clear p2
    go_enter Tryd.func13, Tryd.ntmps13
    go_wp2
    go_ret
    exact ⟨ret_bool hF.out.symm, hB.out⟩
set_option maxRecDepth 100000 in
set_option maxHeartbeats 2000000 in
theorem pMay_any (v : Value) (xs : List Int) (w : World) (h : Reads64 w v xs) (hx : xs.length ≤ 1000000000) :
    Calls Tryd.prog 19 #[v] w fun e w' => e = .returned (.bool (vMay xs)) ∧ w = w' := by
  by_cases h16 : 16 < xs.length
  · have hV := Lib.hid (show vMay xs = false from decide_eq_false fun q => by omega)
    obtain ⟨ao, cap, rfl, _⟩ := h
    generalize xs.length = n at *
    go_enter Tryd.func19, Tryd.ntmps19
    go_wp2
    go_ret
    exact ⟨ret_bool hV.out.symm, rfl⟩
  · have HR := Lib.hid h
    obtain ⟨ao, cap, rfl, _⟩ := h
    obtain ⟨n, hn⟩ : ∃ n, xs.length = n := ⟨_, rfl⟩
    rw [hn]
    have Hn := Lib.hid hn
    have hn16 : n ≤ 16 := by omega
    clear hx h16 hn
    go_enter Tryd.func19, Tryd.ntmps19
    go_wp2
    go_loop [10] (fun i => ∃ k : Nat, i = .int .i64 k ∧ k ≤ n ∧ vOk (xs.take k)) (fun i => n - (intOf i).toNat)
    case atStart => exact ⟨0, rfl, Nat.zero_le _, fun x hm => by simp at hm⟩
    case round =>
      obtain ⟨k, rfl, hk, hok⟩ := hrel
      have Hok := Lib.hid hok
      clear hok
      rcases Nat.lt_or_ge k n with hlt | hge
      · have hxk : k < xs.length := by rw [Hn.out]; exact hlt
        obtain ⟨b, off, cap', hv, hc⟩ := HR.out.at hxk
        cases hv
        obtain ⟨x, ex⟩ : ∃ x, xs.getD k 0 = x := ⟨_, rfl⟩
        rw [ex] at hc
        have Ex := Lib.hid ex
        have hxk' := Lib.hid hxk
        clear ex hxk
        by_cases g0 : x < 0
        · have hV := Lib.hid (show vMay xs = false from decide_eq_false fun q => vOk_bad hxk'.out (by rw [Ex.out]; omega) q.2.1)
          go_wp2
          go_ret
          exact ⟨ret_bool hV.out.symm, rfl⟩
        · by_cases g1 : 1099511627776 < x
          · have hV := Lib.hid (show vMay xs = false from decide_eq_false fun q => vOk_bad hxk'.out (by rw [Ex.out]; omega) q.2.1)
            go_wp2
            go_ret
            exact ⟨ret_bool hV.out.symm, rfl⟩
          · have hN := Lib.hid (vOk_take Hok.out hxk'.out (by rw [Ex.out]; omega))
            go_wp2
            go_round
            case rel => exact ⟨k + 1, by go_num, by omega, hN.out⟩
            case measure => simp [intOf]; omega
      · obtain rfl : k = n := by omega
        have hokA : vOk xs := by have := Hok.out; rwa [List.take_of_length_le (by rw [Hn.out]; exact Nat.le_refl _)] at this
        rcases Nat.eq_zero_or_pos k with h0 | hpos
        · subst h0
          have hV := Lib.hid (show vMay xs = true from decide_eq_true ⟨by rw [Hn.out]; omega, hokA, .inl (List.eq_nil_of_length_eq_zero Hn.out)⟩)
          clear hokA
          go_wp2
          go_ret
          exact ⟨ret_bool hV.out.symm, rfl⟩
        · obtain ⟨m, rfl⟩ : ∃ m, k = m + 1 := ⟨k - 1, by omega⟩
          have hxk : m < xs.length := by rw [Hn.out]; omega
          obtain ⟨b, off, cap', hv, hc⟩ := HR.out.at hxk
          cases hv
          obtain ⟨x, ex⟩ : ∃ x, xs.getD m 0 = x := ⟨_, rfl⟩
          rw [ex] at hc
          have hV := Lib.hid (show vMay xs = !(x == 0) by
            unfold vMay
            rw [Hn.out, Nat.add_sub_cancel, ex]
            cases hq : x == 0 with
            | true => exact decide_eq_false fun q => by rcases q.2.2 with g | g; rw [g] at hxk; exact absurd hxk (Nat.not_lt_zero m); exact g (by simpa using hq)
            | false => exact decide_eq_true ⟨by omega, hokA, .inr (by simpa using hq)⟩)
          clear ex hxk hokA
          have hm0 : ((m : Int) + 1 == 0) = false := beq_eq_false_iff_ne.2 (by omega)
          have Hm0 := Lib.hid hm0
          clear hm0
          go_wp2
          go_ret
          exact ⟨ret_bool (a := ((m : Int) + 1 == 0 || x != 0)) (by rw [hV.out, Hm0.out]; rfl), rfl⟩
set_option maxRecDepth 100000 in
set_option maxHeartbeats 2000000 in
theorem pAt_any (v : Value) (xs : List Int) (k : Nat) (w : World) (h : Reads64 w v xs) :
    Calls Tryd.prog 40 #[v, .int .i64 k] w fun e w' => e = .returned (.int .i64 (xs.getD k 0)) ∧ w = w' := by
  by_cases h2 : k < xs.length
  · obtain ⟨b, off, cap, rfl, hc⟩ := h.at h2
    have hi : (0 : Int) ≤ (k : Int) ∧ (k : Int) < (xs.length : Int) := ⟨by omega, by omega⟩
    generalize xs.getD k 0 = x at *
    generalize hn : xs.length = n at *
    go_enter Tryd.func40, Tryd.ntmps40
    go_wp2
    go_ret
    exact ⟨rfl, rfl⟩
  · have hV := Lib.hid (show xs.getD k 0 = 0 by simp [List.getD, Nat.not_lt.1 h2])
    obtain ⟨ao, cap, rfl, _⟩ := h
    generalize xs.length = n at *
    go_enter Tryd.func40, Tryd.ntmps40
    go_wp2
    go_ret
    exact ⟨ret_i64 hV.out.symm, rfl⟩
end Go.Proofs.YthbophioohcphaaDoor
