/- feeds: insert, leave. -/
import Derived.Test.YtpldalmodcmfaaaDoorFeeds
import Derived.Deep.RegionHeld
namespace Go.Proofs.YtpldalmodcmfaaaDoor
open Go.RowKit

/-- What leave leaves: those that are not above. -/
def LeavePost (S : Nat → Prop) (N B : Nat) (a0 a1 a2 : Value) (ah Q : List Int) (rest : Int) (w : World) (e : Ending) (w' : World) : Prop :=
  e = .returned (.tuple #[]) ∧ ∃ k, Fs S N B a0 a1 a2 ah (Q.take k) w' ∧ Keep S N w w' ∧ (∀ p ∈ Q.take k, p < rest + 1) ∧ (∀ p ∈ Q.drop k, rest + 1 ≤ p)
theorem take_snoc' (P : List Int) (k : Nat) (h : k < P.length) : P.take (k + 1) = P.take k ++ [P.getD k 0] := by
  rw [List.take_succ_eq_append_getElem h]; simp [List.getD, h]
theorem mem_take_lt' {P : List Int} (hP : P.Pairwise (· < ·)) (k : Nat) (m : Int) (h : k < P.length) (hk : P.getD k 0 < m) : ∀ p ∈ P.take (k + 1), p < m := by
  intro p hp
  rw [take_snoc' P k h] at hp
  rcases List.mem_append.1 hp with h1 | h1
  · have h2 : (P.take (k + 1)).Pairwise (· < ·) := hP.sublist (List.take_sublist _ _)
    rw [take_snoc' P k h, List.pairwise_append] at h2
    have := h2.2.2 p h1 _ (List.mem_singleton.2 rfl)
    omega
  · rw [List.mem_singleton.1 h1]; exact hk

set_option maxRecDepth 100000 in
set_option maxHeartbeats 2000000 in
theorem fs_leave {S : Nat → Prop} {N B : Nat} {a0 a1 a2 : Value} (ah Q : List Int) (rest : Int) (w : World) (hQ : Q.Pairwise (· < ·)) (h : Fs S N B a0 a1 a2 ah Q w) :
    Calls Tryd.prog 47 #[.pointer (some ⟨B, 3, none⟩), .int .i64 rest] w (LeavePost S N B a0 a1 a2 ah Q rest w) := by
  have HQ := Lib.hid hQ
  have H0 : Hid (Fs S N B a0 a1 a2 ah (Q.take Q.length) w) := by rw [List.take_length]; exact h
  clear hQ h
  go_enter Tryd.func47, Tryd.ntmps47
  go_wp2
  go_loopg [] Q.length (fun k wr => k ≤ Q.length ∧ Fs S N B a0 a1 a2 ah (Q.take k) wr ∧ Keep S N w wr ∧ ∀ p ∈ Q.drop k, rest + 1 ≤ p)
  case atStart => exact ⟨Nat.le_refl _, H0.out, Keep.refl _ _ _, by simp⟩
  case round =>
    clear H0
    obtain ⟨hk, hF, hK, hq⟩ := hrel
    have HF := Lib.hid hF
    have HK := Lib.hid hK
    have Hq := Lib.hid hq
    clear hF hK hq
    rcases Nat.eq_zero_or_pos gk with hk0' | hkp
    · subst hk0'
      have hsz := fsizeK HF.out
      rw [List.take_zero, List.length_nil] at hsz
      go_wp2_with (go_at_call 54; refine hsz.mono ?_; clear hsz; rintro e _ ⟨rfl, rfl⟩)
      go_end0
      exact ⟨rfl, 0, HF.out, HK.out, by simp, Hq.out⟩
    · obtain ⟨j, rfl⟩ : ∃ j, gk = j + 1 := ⟨gk - 1, by omega⟩
      obtain ⟨x, hx⟩ : ∃ x, Q.getD j 0 = x := ⟨_, rfl⟩
      have hF3 := HF.out
      rw [take_snoc' Q j (by omega), hx] at hF3
      have hsz := fsizeK hF3
      have htop := ftopK hF3
      rw [List.length_append, List.length_take, Nat.min_eq_left (by omega), List.length_cons, List.length_nil] at hsz
      have hlt2 : (0 : Int) < ((j + (0 + 1) : Nat) : Int) := by omega
      by_cases hxa : rest < x
      · have hpopA : ∀ n, Calls Tryd.prog 63 #[.pointer (some ⟨B, 4, none⟩)] (wr.drewN n) fun e w' => e = .returned (.int .i64 x) ∧ Fs S N B a0 a1 a2 ah (Q.take j) w' ∧ Keep S N (wr.drewN n) w' := fun n => fpopK (hF3.drewN n)
        have hqn : ∀ p ∈ Q.drop j, rest + 1 ≤ p := by
          intro p hp
          rw [List.drop_eq_getElem_cons (by omega : j < Q.length)] at hp
          rcases List.mem_cons.1 hp with h1 | h1
          · have : Q.getD j 0 = Q[j] := by simp [List.getD, (by omega : j < Q.length)]
            omega
          · exact Hq.out p h1
        have Hqn := Lib.hid hqn
        clear hF3 hx hqn
        go_wp2_with (first
          | (go_at_call 54; refine hsz.mono ?_; clear hsz; rintro e _ ⟨rfl, rfl⟩)
          | (go_at_call 62; refine htop.mono ?_; clear htop; rintro e _ ⟨rfl, q, rfl⟩)
          | (go_at_call 63; refine (hpopA _).mono ?_; clear hpopA; rintro e w1 ⟨rfl, hF5, hK5⟩))
        go_roundg j
        case measure => omega
        case rel => exact ⟨by omega, hF5, HK.out.trans (((Keep.refl S N wr).drewN _).trans hK5), Hqn.out⟩
      · have hbn : ∀ p ∈ Q.take (j + 1), p < rest + 1 := mem_take_lt' HQ.out j (rest + 1) (by omega) (by rw [hx]; omega)
        have Hbn := Lib.hid hbn
        clear hF3 hx hbn
        go_wp2_with (first
          | (go_at_call 54; refine hsz.mono ?_; clear hsz; rintro e _ ⟨rfl, rfl⟩)
          | (go_at_call 62; refine htop.mono ?_; clear htop; rintro e _ ⟨rfl, q, rfl⟩))
        go_end0
        exact ⟨rfl, j + 1, HF.out.drewN _, HK.out.drewN _, Hbn.out, Hq.out⟩

theorem lfs_take (i : Int) (l : List Int) (k : Nat) (h : k < l.length) : lfs i (l.take (k + 1)) = lfs i (l.take k) ++ if l.getD k 0 = 10 then [i + k] else [] := by
  rw [take_snoc' l k h, lfs_append]
  congr 1
  rw [List.length_take, Nat.min_eq_left (by omega)]
  simp [lfs]

set_option maxRecDepth 100000 in
set_option maxHeartbeats 2000000 in
theorem fs_insert {S : Nat → Prop} {N B : Nat} {a0 a1 a2 : Value} (ah bh : List Int) (at' : Int) (v : Value) (ls : List Int) (w : World) (ha0 : 0 ≤ at') (ha1 : at' ≤ 1000000) (hls : ls.length ≤ 400000) (hah : ah.length ≤ 400000) (h : Fs S N B a0 a1 a2 ah bh w)
    (hrd : ∀ W, Keep S N w W → Reads32 W v ls) :
    Calls Tryd.prog 46 #[.pointer (some ⟨B, 3, none⟩), .int .i64 at', v] w fun e w' => e = .returned (.tuple #[]) ∧ Fs S N B a0 a1 a2 (ah ++ lfs at' ls) bh w' ∧ Keep S N w w' := by
  have hrd0 := hrd w (Keep.refl _ _ _)
  obtain ⟨ao, cap, rfl, _⟩ := hrd0
  have H0 : Hid (Fs S N B a0 a1 a2 (ah ++ lfs at' (ls.take 0)) bh w) := by rw [List.take_zero, lfs, List.append_nil]; exact h
  have Hrd := Lib.hid hrd
  obtain ⟨n, hn⟩ : ∃ n, ls.length = n := ⟨_, rfl⟩
  rw [hn] at hls ⊢
  have Hn := Lib.hid hn
  clear h hrd hn
  go_enter Tryd.func46, Tryd.ntmps46
  go_wp2
  go_loopg [10] n (fun g i wr => ∃ k : Nat, k ≤ n ∧ g = n - k ∧ i = .int .i64 k ∧ Fs S N B a0 a1 a2 (ah ++ lfs at' (ls.take k)) bh wr ∧ Keep S N w wr)
  case atStart => exact ⟨0, Nat.zero_le _, rfl, rfl, H0.out, Keep.refl _ _ _⟩
  case round =>
    clear H0
    obtain ⟨k, hk, hg, rfl, hF, hK⟩ := hrel
    have HG := Lib.hid hg
    have HF := Lib.hid hF
    have HK := Lib.hid hK
    clear hF hK hg
    rcases Nat.lt_or_ge k n with hkn | hkn
    · have hkl : k < ls.length := by rw [Hn.out]; exact hkn
      obtain ⟨ao', cap', hv, hq⟩ := Hrd.out wr HK.out
      obtain ⟨b, off, rfl, hc⟩ := hq (by intro e; rw [e] at hkl; simp at hkl)
      cases hv
      have hc1 := hc k hkl
      obtain ⟨x, hx⟩ : ∃ x, ls.getD k 0 = x := ⟨_, rfl⟩
      rw [hx] at hc1
      have hnx := lfs_take at' ls k hkl
      rw [hx] at hnx
      have hki : (k : Int) < n := by omega
      have hln : (ah ++ lfs at' (ls.take k)).length ≤ 900000 := by
        have := lfs_length at' (ls.take k)
        rw [List.length_take] at this
        rw [List.length_append]; omega
      by_cases hx10 : x = 10
      · subst hx10
        rw [if_pos rfl] at hnx
        have hpush := fpushF (at' + k) HF.out hln
        rw [List.append_assoc, ← hnx] at hpush
        have e1 : IntKind.i64.wrap (at' + (k : Int)) = at' + k := IntWalk.i64_in _ (by omega)
        clear hc hx hnx hq
        go_wp2_with (go_at_call 61; (try rw [e1]); refine hpush.mono ?_; clear hpush; rintro e w1 ⟨rfl, hF5, hK5⟩)
        go_roundg (n - (k + 1))
        case measure => have hgg := HG.out; omega
        case rel => exact ⟨k + 1, hkn, rfl, by go_num, hF5, HK.out.trans hK5⟩
      · rw [if_neg hx10, List.append_nil] at hnx
        have Hnx := Lib.hid hnx
        have hne : (x == 10) = false := beq_eq_false_iff_ne.2 hx10
        clear hc hx hnx hq hx10
        go_wp2
        go_roundg (n - (k + 1))
        case measure => have hgg := HG.out; omega
        case rel => exact ⟨k + 1, hkn, rfl, by go_num, by rw [Hnx.out]; exact HF.out, HK.out⟩
    · obtain rfl : k = n := by omega
      have hF' := HF.out
      rw [List.take_of_length_le (by rw [Hn.out]; exact Nat.le_refl _)] at hF'
      have HF' := Lib.hid hF'
      clear hF'
      go_wp2
      go_end0
      exact ⟨rfl, HF'.out, HK.out⟩
end Go.Proofs.YtpldalmodcmfaaaDoor
