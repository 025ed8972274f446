/- The document's vectors: MayName, Less, May, Count, Covers, Same. -/
import Derived.Test.YthbophioohcphaaDoorVectPlain
import Derived.Test.YthbophioohcphaaDoorReads64
namespace Go.Proofs.YthbophioohcphaaDoor
open Go.RowKit

/-- A name by value. -/
def nmV (s q : Int) : Value := .agg #[.int .i64 s, .int .i64 q]
set_option maxRecDepth 100000 in
set_option maxHeartbeats 2000000 in
theorem rMayName_any (s q : Int) (w : World) :
    Calls Tryd.prog 12 #[nmV s q] w fun e w' => e = .returned (.bool (nMay s q)) ∧ Below w.heap.size w w' := by
  unfold nmV
  have hB := (Below.refl w.heap.size w).alloc (Nat.le_refl _) (.cells #[.int .i64 s, .int .i64 q] 23)
  have fin : ∀ b, nMay s q = b → (Ending.returned (.bool b) = .returned (.bool (nMay s q)) ∧ Below w.heap.size w (w.alloc (.cells #[.int .i64 s, .int .i64 q] 23))) := fun b h => ⟨by rw [h], hB⟩
  have HF := Lib.hid fin
  clear fin
  by_cases p1 : 1 ≤ s
  by_cases p2 : s ≤ 16
  by_cases p3 : 1 ≤ q
  by_cases p4 : q ≤ 1099511627776
  all_goals
    go_enter Tryd.func12, Tryd.ntmps12
    go_wp2
    go_ret
  · exact HF.out true (decide_eq_true ⟨p1, p2, p3, p4⟩)
  · exact HF.out false (decide_eq_false (by omega))
  · exact HF.out false (decide_eq_false (by omega))
  · exact HF.out false (decide_eq_false (by omega))
  · exact HF.out false (decide_eq_false (by omega))
set_option maxRecDepth 100000 in
set_option maxHeartbeats 2000000 in
theorem rLess_any (s q s' q' : Int) (w : World) :
    Calls Tryd.prog 14 #[nmV s q, nmV s' q'] w fun e w' => e = .returned (.bool (nLess s q s' q')) ∧ Below w.heap.size w w' := by
  unfold nmV
  have hB := below_pair w (.cells #[.int .i64 s, .int .i64 q] 23) (.cells #[.int .i64 s', .int .i64 q'] 23)
  have fin : ∀ b, nLess s q s' q' = b → (Ending.returned (.bool b) = .returned (.bool (nLess s q s' q')) ∧ Below w.heap.size w ((w.alloc (.cells #[.int .i64 s, .int .i64 q] 23)).alloc (.cells #[.int .i64 s', .int .i64 q'] 23))) := fun b h => ⟨by rw [h], hB⟩
  have HF := Lib.hid fin
  clear fin hB
  by_cases p1 : s < s'
  · go_enter Tryd.func14, Tryd.ntmps14
    go_wp2
    go_ret
    exact HF.out true (decide_eq_true (.inl p1))
  · by_cases p2 : s = s'
    · subst p2
      by_cases p3 : q < q'
      · go_enter Tryd.func14, Tryd.ntmps14
        go_wp2
        go_ret
        exact HF.out true (decide_eq_true (.inr ⟨rfl, p3⟩))
      · go_enter Tryd.func14, Tryd.ntmps14
        go_wp2
        go_ret
        exact HF.out false (decide_eq_false (by omega))
    · have p2b : (s == s') = false := beq_eq_false_iff_ne.2 p2
      go_enter Tryd.func14, Tryd.ntmps14
      go_wp2
      go_ret
      exact HF.out false (decide_eq_false (by omega))
set_option maxRecDepth 100000 in
set_option maxHeartbeats 2000000 in
theorem rCount_any (v : Value) (xs : List Int) (s : Int) (w : World) (h : Reads64 w v xs) (hs : -9223372036854775808 ≤ s) (hx : xs.length ≤ 1000000000) :
    Calls Tryd.prog 26 #[v, .int .i64 s] w fun e w' => e = .returned (.int .i64 (vCount xs s)) ∧ w = w' := by
  by_cases h1 : 1 ≤ s
  by_cases h2 : s ≤ xs.length
  · obtain ⟨k, rfl⟩ := Int.eq_ofNat_of_zero_le (show 0 ≤ s - 1 by omega) |> fun ⟨k, hk⟩ => (⟨k, by omega⟩ : ∃ k : Nat, s = (k : Int) + 1)
    have hk : k < xs.length := by omega
    have hV := Lib.hid (vCount_nat xs k)
    obtain ⟨b, off, cap, rfl, hc⟩ := h.at hk
    have hi : (0 : Int) ≤ (k : Int) ∧ (k : Int) < (xs.length : Int) := ⟨by omega, by omega⟩
    generalize xs.getD k 0 = x at *
    generalize hn : xs.length = n at *
    go_enter Tryd.func26, Tryd.ntmps26
    go_wp2
    go_ret
    exact ⟨ret_i64 hV.out.symm, rfl⟩
  · have hV := Lib.hid (vCount_none xs s (by omega))
    obtain ⟨ao, cap, rfl, _⟩ := h
    generalize xs.length = n at *
    go_enter Tryd.func26, Tryd.ntmps26
    go_wp2
    go_ret
    exact ⟨ret_i64 hV.out.symm, rfl⟩
  · have hV := Lib.hid (vCount_none xs s (by omega))
    obtain ⟨ao, cap, rfl, _⟩ := h
    generalize xs.length = n at *
    go_enter Tryd.func26, Tryd.ntmps26
    go_wp2
    go_ret
    exact ⟨ret_i64 hV.out.symm, rfl⟩
set_option maxRecDepth 100000 in
set_option maxHeartbeats 2000000 in
theorem rMayV_any (v : Value) (xs : List Int) (w : World) (h : Reads64 w v xs) (hx : xs.length ≤ 1000000000) :
    Calls Tryd.prog 20 #[v] w fun e w' => e = .returned (.bool (vMay xs)) ∧ w = w' := by
  by_cases h16 : 16 < xs.length
  · have hV := Lib.hid (show vMay xs = false from decide_eq_false fun q => by omega)
    obtain ⟨ao, cap, rfl, _⟩ := h
    generalize xs.length = n at *
    go_enter Tryd.func20, Tryd.ntmps20
    go_wp2
    go_ret
    exact ⟨ret_bool hV.out.symm, rfl⟩
  · have HR := Lib.hid h
    obtain ⟨ao, cap, rfl, _⟩ := h
    obtain ⟨n, hn⟩ : ∃ n, xs.length = n := ⟨_, rfl⟩
    rw [hn]
    have Hn := Lib.hid hn
    have hn16 : n ≤ 16 := by omega
    clear hx h16 hn
    go_enter Tryd.func20, Tryd.ntmps20
    go_wp2
    go_loop [3] (fun i => ∃ k : Nat, i = .int .i64 k ∧ k ≤ n ∧ vOk (xs.take k)) (fun i => n - (intOf i).toNat)
    case atStart => exact ⟨0, rfl, Nat.zero_le _, fun x hm => by simp at hm⟩
    case round =>
      obtain ⟨k, rfl, hk, hok⟩ := hrel
      have Hok := Lib.hid hok
      clear hok
      rcases Nat.lt_or_ge k n with hlt | hge
      · have hxk : k < xs.length := by rw [Hn.out]; exact hlt
        obtain ⟨b, off, cap', hv, hc⟩ := HR.out.at hxk
        cases hv
        obtain ⟨x, ex⟩ : ∃ x, xs.getD k 0 = x := ⟨_, rfl⟩
        rw [ex] at hc
        have Ex := Lib.hid ex
        have hxk' := Lib.hid hxk
        clear ex hxk
        by_cases g0 : x < 0
        · have hV := Lib.hid (show vMay xs = false from decide_eq_false fun q => vOk_bad hxk'.out (by rw [Ex.out]; omega) q.2.1)
          go_wp2
          go_ret
          exact ⟨ret_bool hV.out.symm, rfl⟩
        · by_cases g1 : 1099511627776 < x
          · have hV := Lib.hid (show vMay xs = false from decide_eq_false fun q => vOk_bad hxk'.out (by rw [Ex.out]; omega) q.2.1)
            go_wp2
            go_ret
            exact ⟨ret_bool hV.out.symm, rfl⟩
          · have hN := Lib.hid (vOk_take Hok.out hxk'.out (by rw [Ex.out]; omega))
            go_wp2
            go_round
            case rel => exact ⟨k + 1, by go_num, by omega, hN.out⟩
            case measure => simp [intOf]; omega
      · obtain rfl : k = n := by omega
        have hokA : vOk xs := by have := Hok.out; rwa [List.take_of_length_le (by rw [Hn.out]; exact Nat.le_refl _)] at this
        rcases Nat.eq_zero_or_pos k with h0 | hpos
        · subst h0
          have hV := Lib.hid (show vMay xs = true from decide_eq_true ⟨by rw [Hn.out]; omega, hokA, .inl (List.eq_nil_of_length_eq_zero Hn.out)⟩)
          clear hokA
          go_wp2
          go_ret
          exact ⟨ret_bool hV.out.symm, rfl⟩
        · obtain ⟨m, rfl⟩ : ∃ m, k = m + 1 := ⟨k - 1, by omega⟩
          have hxk : m < xs.length := by rw [Hn.out]; omega
          obtain ⟨b, off, cap', hv, hc⟩ := HR.out.at hxk
          cases hv
          obtain ⟨x, ex⟩ : ∃ x, xs.getD m 0 = x := ⟨_, rfl⟩
          rw [ex] at hc
          have hV := Lib.hid (show vMay xs = !(x == 0) by
            unfold vMay
            rw [Hn.out, Nat.add_sub_cancel, ex]
            cases hq : x == 0 with
            | true => exact decide_eq_false fun q => by rcases q.2.2 with g | g; rw [g] at hxk; exact absurd hxk (Nat.not_lt_zero m); exact g (by simpa using hq)
            | false => exact decide_eq_true ⟨by omega, hokA, .inr (by simpa using hq)⟩)
          clear ex hxk hokA
          have hm0 : ((m : Int) + 1 == 0) = false := beq_eq_false_iff_ne.2 (by omega)
          have Hm0 := Lib.hid hm0
          clear hm0
          go_wp2
          go_ret
          exact ⟨ret_bool (a := ((m : Int) + 1 == 0 || x != 0)) (by rw [hV.out, Hm0.out]; rfl), rfl⟩
set_option maxRecDepth 100000 in
set_option maxHeartbeats 2000000 in
theorem rCov_any (u v : Value) (xs ys : List Int) (w : World) (h1 : Reads64 w u xs) (h2 : Reads64 w v ys) (hx : xs.length ≤ 1000000000) (hy : ys.length ≤ 1000000000) :
    Calls Tryd.prog 25 #[u, v] w fun e w' => e = .returned (.bool (vCov xs ys)) ∧ w = w' := by
  have hA := fun s hs => rCount_any u xs s w h1 hs hx
  have hB := fun s hs => rCount_any v ys s w h2 hs hy
  clear h1 h2
  go_enter Tryd.func25, Tryd.ntmps25
  go_wp2
  go_loop [5] (fun i => ∃ k : Nat, i = .int .i64 ((k : Int) + 1) ∧ k ≤ 16 ∧ ∀ s : Nat, s < k → vCount ys (s + 1) ≤ vCount xs (s + 1)) (fun i => 17 - (intOf i).toNat)
  case atStart => exact ⟨0, rfl, Nat.zero_le _, fun s hs => absurd hs (Nat.not_lt_zero s)⟩
  case round =>
    obtain ⟨k, rfl, hk, hall⟩ := hrel
    have Hall := Lib.hid hall
    clear hall
    rcases Nat.lt_or_ge k 16 with hlt | hge
    · by_cases hc : vCount xs (k + 1) < vCount ys (k + 1)
      · have hV := Lib.hid (show vCov xs ys = false from decide_eq_false fun q => by have := q k hlt; omega)
        have a1 := hA ((k : Int) + 1) (by omega)
        have b1 := hB ((k : Int) + 1) (by omega)
        generalize vCount xs ((k : Int) + 1) = x at *
        generalize vCount ys ((k : Int) + 1) = y at *
        clear hA hB
        go_wp2_with fail
        refine a1.mono ?_
        rintro e _ ⟨rfl, rfl⟩
        go_wp2_with fail
        refine b1.mono ?_
        rintro e _ ⟨rfl, rfl⟩
        go_wp2
        go_ret
        exact ⟨ret_bool hV.out.symm, rfl⟩
      · have hN := Lib.hid (show ∀ s : Nat, s < k + 1 → vCount ys (s + 1) ≤ vCount xs (s + 1) from fun s hs => by
          rcases Nat.lt_or_ge s k with g | g
          · exact Hall.out s g
          · obtain rfl : s = k := by omega
            omega)
        have a1 := hA ((k : Int) + 1) (by omega)
        have b1 := hB ((k : Int) + 1) (by omega)
        generalize vCount xs ((k : Int) + 1) = x at *
        generalize vCount ys ((k : Int) + 1) = y at *
        clear hA hB
        go_wp2_with fail
        refine a1.mono ?_
        rintro e _ ⟨rfl, rfl⟩
        go_wp2_with fail
        refine b1.mono ?_
        rintro e _ ⟨rfl, rfl⟩
        go_wp2
        go_round
        case rel => exact ⟨k + 1, by go_num, by omega, hN.out⟩
        case measure => simp [intOf]; omega
    · obtain rfl : k = 16 := by omega
      have hV := Lib.hid (show vCov xs ys = true from decide_eq_true Hall.out)
      clear hA hB
      go_wp2
      go_ret
      exact ⟨ret_bool hV.out.symm, rfl⟩
end Go.Proofs.YthbophioohcphaaDoor
