/- takeNum: the number that stands next. -/
import Derived.Test.YtckknopjhmpnhaaNumsReader
import Derived.Recover
import Derived.Laws.Pointers
namespace Go.Proofs.Ytckknopjhmpnhaa
open Go.RowKit Go.Shelf

/-- What a take of a number leaves. -/
def TakePost (B : Nat) (s : ByteArray) (most : Nat) (w : World) (e : Ending) (w' : World) : Prop :=
  (∃ c, takeL s.data.toList most = .error c ∧ e = faultEnd c ∧ w' = w) ∨ (∃ n k, takeL s.data.toList most = .ok (n, k) ∧ e = .returned (.int .u64 n) ∧ w' = w.setCell ⟨B, 0, none⟩ (.string (s.extract k s.size)))

set_option maxRecDepth 100000 in
set_option maxHeartbeats 4000000 in
theorem take_any (B : Nat) (s : ByteArray) (f : Int) (most : Nat) (w : World) (h : Rd B s f w) (hs : s.size ≤ 1000000000) :
    Calls Try.prog 51 #[.pointer (some ⟨B, 0, none⟩), .int .u64 most] w (TakePost B s most w) := by
  have c0 := h.c0
  have f0 := h.f0
  have hS := size_any B s f w h hs
  obtain ⟨l, hl⟩ : ∃ l, s.data.toList = l := ⟨_, rfl⟩
  have hls : l.length = s.size := by rw [← hl, ← Lib.size_eq]
  by_cases h1 : 10 ≤ hiL l
  · have hP : ∀ w', w' = w → TakePost B s most w (faultEnd 9) w' := fun w' e => .inl ⟨9, by rw [hl]; unfold takeL; rw [if_pos h1], rfl, e⟩
    rw [show sizeEnd s.data.toList = faultEnd 9 by rw [hl]; unfold sizeEnd; rw [if_pos h1]] at hS
    unfold faultEnd at hS
    have HP := Lib.hid hP
    clear hP h1 hl hls
    go_enter Try.func51, Try.ntmps51
    go_wp2_with (go_at_call 59; refine hS.mono ?_; clear hS; rintro e _ ⟨rfl, rfl⟩)
    exact ⟨rfl, HP.out _ rfl⟩
  by_cases h2 : l.length ≤ hiL l
  · have hP : ∀ w', w' = w → TakePost B s most w (faultEnd 8) w' := fun w' e => .inl ⟨8, by rw [hl]; unfold takeL; rw [if_neg h1, if_pos h2], rfl, e⟩
    rw [show sizeEnd s.data.toList = faultEnd 8 by rw [hl]; unfold sizeEnd; rw [if_neg h1, if_pos h2]] at hS
    unfold faultEnd at hS
    have HP := Lib.hid hP
    clear hP h1 h2 hl hls
    go_enter Try.func51, Try.ntmps51
    go_wp2_with (go_at_call 59; refine hS.mono ?_; clear hS; rintro e _ ⟨rfl, rfl⟩)
    exact ⟨rfl, HP.out _ rfl⟩
  rw [show sizeEnd s.data.toList = .returned (.int .i64 (hiL l + 1)) by rw [hl]; unfold sizeEnd; rw [if_neg h1, if_neg h2]] at hS
  obtain ⟨K, hK⟩ : ∃ K, hiL l = K := ⟨_, rfl⟩
  rw [hK] at hS
  have hKs : K < s.size := by omega
  have hK9 : K ≤ 9 := by omega
  have hy : l.getD K 0 = s[K] := by rw [← hl]; exact getD_list s K hKs
  by_cases h3 : (K = 9 ∧ 1 < s[K].toNat) ∨ (0 < K ∧ s[K].toNat = 0)
  · have hP : ∀ w', w' = w → TakePost B s most w (faultEnd 9) w' := fun w' e => .inl ⟨9, by rw [hl]; unfold takeL; rw [if_neg h1, if_neg h2, hK, hy, if_pos h3], rfl, e⟩
    have HP := Lib.hid hP
    clear hP h1 h2 hl hls hy hK
    rcases h3 with ⟨h3, h4⟩ | ⟨h3, h4⟩
    · subst h3
      go_enter Try.func51, Try.ntmps51
      go_wp2_with (go_at_call 59; refine hS.mono ?_; clear hS; rintro e _ ⟨rfl, rfl⟩)
      all_goals exact ⟨rfl, HP.out _ rfl⟩
    · go_enter Try.func51, Try.ntmps51
      go_wp2_with (go_at_call 59; refine hS.mono ?_; clear hS; rintro e _ ⟨rfl, rfl⟩)
      all_goals exact ⟨rfl, HP.out _ rfl⟩
  have hPn : ∀ w', most < valL (l.take (K + 1)) → w' = w → TakePost B s most w (faultEnd 9) w' := fun w' g e => .inl ⟨9, by rw [hl]; unfold takeL; rw [if_neg h1, if_neg h2, hK, hy, if_neg h3, if_pos g], rfl, e⟩
  have hPy : ∀ w', ¬ most < valL (l.take (K + 1)) → w' = w.setCell ⟨B, 0, none⟩ (.string (s.extract (K + 1) s.size)) → TakePost B s most w (.returned (.int .u64 (valL (l.take (K + 1))))) w' := fun w' g e => .inr ⟨_, K + 1, by rw [hl]; unfold takeL; rw [if_neg h1, if_neg h2, hK, hy, if_neg h3, if_neg g], rfl, e⟩
  have HPn := Lib.hid hPn
  have HPy := Lib.hid hPy
  have hnx : ∀ k (hk : k < s.size), k ≤ K → bits .or .u64 (valL (l.take k)) (IntKind.u64.wrap ((s[k].toNat : Int) % 128 * 2 ^ (7 * k))) = (valL (l.take (k + 1)) : Nat) := fun k hk hkK =>
    join_next l k (by omega) s[k] (by rw [← hl]; exact getD_list s k hk) (val64 l k (by omega) (by
      rcases Nat.lt_or_ge k 9 with g | g
      · exact .inl (by omega)
      · obtain rfl : k = 9 := by omega
        obtain rfl : K = 9 := by omega
        refine .inr ⟨rfl, ?_⟩
        rw [hy]
        rcases Nat.lt_or_ge 1 s[9].toNat with g | g
        · exact absurd (.inl ⟨rfl, g⟩) h3
        · exact g))
  have hv64 : valL (l.take (K + 1)) < 18446744073709551616 := val64 l K (by omega) (by
      rcases Nat.lt_or_ge K 9 with g | g
      · exact .inl (by omega)
      · obtain rfl : K = 9 := by omega
        refine .inr ⟨rfl, ?_⟩
        rw [hy]
        rcases Nat.lt_or_ge 1 s[9].toNat with g | g
        · exact absurd (.inl ⟨rfl, g⟩) h3
        · exact g)
  have Hnx := Lib.hid hnx
  have hcase : (K = 9 ∧ s[K].toNat ≤ 1 ∧ s[K].toNat ≠ 0) ∨ K = 0 ∨ (K < 9 ∧ 0 < K ∧ s[K].toNat ≠ 0) := by omega
  clear hPn hPy h1 h2 hy hK h3 hl hnx hls
  rcases hcase with ⟨h3, h4, h5⟩ | h3 | ⟨h3, h4, h5⟩
  · subst h3
    have h6 : ((s[9].toNat : Int) == 0) = false := beq_eq_false_iff_ne.2 (by omega)
    go_enter Try.func51, Try.ntmps51
    go_wp2_with (go_at_call 59; refine hS.mono ?_; clear hS; rintro e _ ⟨rfl, rfl⟩)
    go_loop [7, 34] (fun v i => ∃ k : Nat, k ≤ 10 ∧ i = .int .i64 k ∧ v = .int .u64 (valL (l.take k))) (fun _ i => 10 - (intOf i).toNat)
    case atStart => exact ⟨0, Nat.zero_le _, rfl, rfl⟩
    case round =>
      obtain ⟨k, hk, rfl, rfl⟩ := hrel
      rcases Nat.lt_or_ge k (10) with hlt | hge
      · have hks : k < s.size := by omega
        have hn := Lib.hid (Hnx.out k hks (by omega))
        go_wp2
        refine ⟨⟨k + 1, by omega, by go_num, by rw [hn.out]⟩, by simp [intOf]; omega⟩
      · obtain rfl : k = 10 := by omega
        by_cases hmo : most < valL (l.take (10))
        · have HP := Lib.hid (HPn.out w hmo rfl)
          have hmo2 : (most : Int) < (valL (l.take (10)) : Nat) := by omega
          generalize valL (l.take (10)) = z at *
          go_wp2
          exact ⟨rfl, HP.out⟩
        · have HP := Lib.hid (HPy.out _ hmo rfl)
          have hmo2 : ((valL (l.take (10)) : Nat) : Int) ≤ most := by omega
          generalize valL (l.take (10)) = z at *
          go_wp2
          go_ret
          exact HP.out
  · subst h3
    go_enter Try.func51, Try.ntmps51
    go_wp2_with (go_at_call 59; refine hS.mono ?_; clear hS; rintro e _ ⟨rfl, rfl⟩)
    go_loop [7, 34] (fun v i => ∃ k : Nat, k ≤ 1 ∧ i = .int .i64 k ∧ v = .int .u64 (valL (l.take k))) (fun _ i => 1 - (intOf i).toNat)
    case atStart => exact ⟨0, Nat.zero_le _, rfl, rfl⟩
    case round =>
      obtain ⟨k, hk, rfl, rfl⟩ := hrel
      rcases Nat.lt_or_ge k (1) with hlt | hge
      · have hks : k < s.size := by omega
        have hn := Lib.hid (Hnx.out k hks (by omega))
        go_wp2
        refine ⟨⟨k + 1, by omega, by go_num, by rw [hn.out]⟩, by simp [intOf]; omega⟩
      · obtain rfl : k = 1 := by omega
        by_cases hmo : most < valL (l.take (1))
        · have HP := Lib.hid (HPn.out w hmo rfl)
          have hmo2 : (most : Int) < (valL (l.take (1)) : Nat) := by omega
          generalize valL (l.take (1)) = z at *
          go_wp2
          exact ⟨rfl, HP.out⟩
        · have HP := Lib.hid (HPy.out _ hmo rfl)
          have hmo2 : ((valL (l.take (1)) : Nat) : Int) ≤ most := by omega
          generalize valL (l.take (1)) = z at *
          go_wp2
          go_ret
          exact HP.out
  · have h6 : ((s[K].toNat : Int) == 0) = false := beq_eq_false_iff_ne.2 (by omega)
    go_enter Try.func51, Try.ntmps51
    go_wp2_with (go_at_call 59; refine hS.mono ?_; clear hS; rintro e _ ⟨rfl, rfl⟩)
    go_loop [7, 34] (fun v i => ∃ k : Nat, k ≤ K + 1 ∧ i = .int .i64 k ∧ v = .int .u64 (valL (l.take k))) (fun _ i => K + 1 - (intOf i).toNat)
    case atStart => exact ⟨0, Nat.zero_le _, rfl, rfl⟩
    case round =>
      obtain ⟨k, hk, rfl, rfl⟩ := hrel
      rcases Nat.lt_or_ge k (K + 1) with hlt | hge
      · have hks : k < s.size := by omega
        have hn := Lib.hid (Hnx.out k hks (by omega))
        go_wp2
        refine ⟨⟨k + 1, by omega, by go_num, by rw [hn.out]⟩, by simp [intOf]; omega⟩
      · obtain rfl : k = K + 1 := by omega
        by_cases hmo : most < valL (l.take (K + 1))
        · have HP := Lib.hid (HPn.out w hmo rfl)
          have hmo2 : (most : Int) < (valL (l.take (K + 1)) : Nat) := by omega
          generalize valL (l.take (K + 1)) = z at *
          go_wp2
          exact ⟨rfl, HP.out⟩
        · have HP := Lib.hid (HPy.out _ hmo rfl)
          have hmo2 : ((valL (l.take (K + 1)) : Nat) : Int) ≤ most := by omega
          generalize valL (l.take (K + 1)) = z at *
          go_wp2
          go_ret
          exact HP.out
end Go.Proofs.Ytckknopjhmpnhaa
