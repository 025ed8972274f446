/- A buffer's Same; the methods of no buffer; New. -/
import Derived.Test.YtpldalmodcmfaaaDoorBufRead2
import Derived.Test.YtpldalmodcmfaaaDoorBufInsert
namespace Go.Proofs.YtpldalmodcmfaaaDoor
open Go.RowKit

theorem take_eq_next {xs ys : List Int} {k : Nat} (h : xs.take k = ys.take k) (hx : k < xs.length) (hy : k < ys.length) (e : xs.getD k 0 = ys.getD k 0) : xs.take (k + 1) = ys.take (k + 1) := take_next h hx hy e

set_option maxRecDepth 100000 in
set_option maxHeartbeats 2000000 in
theorem bsame_any {S S' : Nat → Prop} {N N' r r' B B' : Nat} {zs ys zs' ys' : List Int} {w : World} (h : Bf S N r B zs ys w) (h' : Bf S' N' r' B' zs' ys' w) :
    Calls Tryd.prog 31 #[.pointer (some ⟨B, 0, none⟩), .pointer (some ⟨B', 0, none⟩)] w fun e w' => e = .returned (.bool (decide (zs ++ ys = zs' ++ ys'))) ∧ ∃ q, w' = w.drewN q := by
  have hL := fun q => blen_any (h.drewN q)
  have hL0 := blen_any h
  have hL' := fun q => blen_any (h'.drewN q)
  have hle := h.le
  have hle' := h'.le
  have hA := fun q i hi => at_any (h.drewN q) i hi
  have hA' := fun q i hi => at_any (h'.drewN q) i hi
  have e1 : (zs ++ ys).length = zs.length + ys.length := List.length_append
  have e2 : (zs' ++ ys').length = zs'.length + ys'.length := List.length_append
  obtain ⟨xs, hxs⟩ : ∃ xs, zs ++ ys = xs := ⟨_, rfl⟩
  obtain ⟨us, hus⟩ : ∃ us, zs' ++ ys' = us := ⟨_, rfl⟩
  rw [hxs] at e1 ⊢
  rw [hus] at e2 ⊢
  simp only [hxs, ← e1] at hA hL hL0 hle
  simp only [hus, ← e2] at hA' hL' hle'
  obtain ⟨n, hn⟩ : ∃ n, xs.length = n := ⟨_, rfl⟩
  obtain ⟨m, hm⟩ : ∃ m, us.length = m := ⟨_, rfl⟩
  have Hn := Lib.hid hn
  have Hm := Lib.hid hm
  simp only [hn] at hL hL0 hA hle
  simp only [hm] at hL' hA' hle'
  by_cases hnm : n = m
  · subst hnm
    have hq : ((n : Int) != (n : Int)) = false := by simp
    have HA := Lib.hid hA
    have HA' := Lib.hid hA'
    clear h h' e1 e2 hxs hus hn hm hA hA'
    go_enter Tryd.func31, Tryd.ntmps31
    go_wp2_with (go_at_call 14; (first | (with_reducible refine hL0.mono ?_) | (with_reducible refine (hL' _).mono ?_) | (with_reducible refine (hL _).mono ?_)); rintro e _ ⟨rfl, q, rfl⟩)
    go_loopw [21] (fun i wr => ∃ (k nq : Nat), i = .int .i64 k ∧ k ≤ n ∧ xs.take k = us.take k ∧ wr = w.drewN nq) (fun i _ => n - (intOf i).toNat)
    case atStart => exact ⟨0, _, rfl, Nat.zero_le _, rfl, rfl⟩
    case round =>
      obtain ⟨k, nq, rfl, hk, htk, rfl⟩ := hrel
      have Htk := Lib.hid htk
      clear htk hL hL'
      rcases Nat.lt_or_ge k n with hlt | hge
      · have g1 := fun q => HA.out q k hlt
        have g2 := fun q => HA'.out q k hlt
        obtain ⟨x, ex⟩ : ∃ x, xs.getD k 0 = x := ⟨_, rfl⟩
        obtain ⟨y, ey⟩ : ∃ y, us.getD k 0 = y := ⟨_, rfl⟩
        simp only [ex] at g1
        simp only [ey] at g2
        by_cases hxy : x = y
        · subst hxy
          have Hnx := Lib.hid (take_eq_next Htk.out (by rw [Hn.out]; exact hlt) (by rw [Hm.out]; exact hlt) (ex.trans ey.symm))
          have hq2 : (x != x) = false := by simp
          clear ex ey
          go_wp2_with (go_at_call 48; (first | (with_reducible refine (g1 _).mono ?_) | (with_reducible refine (g2 _).mono ?_)); rintro e _ ⟨rfl, q9, rfl⟩)
          go_roundw
          case rel => exact ⟨k + 1, _, by go_num, hlt, Hnx.out, rfl⟩
          case measure => simp [intOf]; omega
        · have hq2 : (x != y) = true := by rw [bne, beq_eq_false_iff_ne.2 hxy]; rfl
          have hno : ¬ xs = us := fun e => hxy (by rw [← ex, ← ey, e])
          have Hno := Lib.hid hno
          clear ex ey hno hxy
          go_wp2_with (go_at_call 48; (first | (with_reducible refine (g1 _).mono ?_) | (with_reducible refine (g2 _).mono ?_)); rintro e _ ⟨rfl, q9, rfl⟩)
          go_ret
          exact ⟨by rw [decide_eq_false Hno.out]; rfl, _, rfl⟩
      · obtain rfl : k = n := by omega
        have heq : xs = us := by
          have := Htk.out
          rw [List.take_of_length_le (by rw [Hn.out]; exact Nat.le_refl _), List.take_of_length_le (by rw [Hm.out]; exact Nat.le_refl _)] at this
          exact this
        have Heq := Lib.hid heq
        clear heq
        go_wp2
        go_ret
        exact ⟨by rw [decide_eq_true Heq.out]; rfl, _, rfl⟩
  · have hq : ((n : Int) != (m : Int)) = true := by
      rw [bne, beq_eq_false_iff_ne.2 (by omega)]; rfl
    have hno : ¬ xs = us := fun e => hnm (by rw [← Hn.out, ← Hm.out, e])
    rw [decide_eq_false hno]
    clear h h' e1 e2 hxs hus hn hm hA hA' hno
    go_enter Tryd.func31, Tryd.ntmps31
    go_wp2_with (go_at_call 14; (first | (with_reducible refine hL0.mono ?_) | (with_reducible refine (hL' _).mono ?_) | (with_reducible refine (hL _).mono ?_)); rintro e _ ⟨rfl, q, rfl⟩)
    go_ret
    exact ⟨rfl, _, rfl⟩

/-- Of no buffer. -/
theorem none_len (w : World) : Calls Tryd.prog 14 #[.pointer none] w fun e w' => e = .returned (.int .i64 0) ∧ w = w' := by
  go_enter Tryd.func14, Tryd.ntmps14
  go_wp2
  go_ret
  exact ⟨rfl, rfl⟩
theorem none_lines (w : World) : Calls Tryd.prog 17 #[.pointer none] w fun e w' => e = .returned (.int .i64 0) ∧ w = w' := by
  go_enter Tryd.func17, Tryd.ntmps17
  go_wp2
  go_ret
  exact ⟨rfl, rfl⟩
theorem none_text (w : World) : Calls Tryd.prog 15 #[.pointer none] w fun e w' => e = .returned (.string ⟨#[]⟩) ∧ w = w' := by
  go_enter Tryd.func15, Tryd.ntmps15
  go_wp2
  go_ret
  exact ⟨rfl, rfl⟩
set_option maxRecDepth 100000 in
theorem none_insert (a : Int) (s : ByteArray) (w : World) : Calls Tryd.prog 26 #[.pointer none, .int .i64 a, .string s] w fun e w' => e = .returned (.int .i64 1) ∧ w = w' := by
  go_enter Tryd.func26, Tryd.ntmps26
  go_wp2
  go_ret
  exact ⟨rfl, rfl⟩
set_option maxRecDepth 100000 in
theorem none_delete (a n : Int) (w : World) : Calls Tryd.prog 29 #[.pointer none, .int .i64 a, .int .i64 n] w fun e w' => e = .returned (.int .i64 1) ∧ w = w' := by
  go_enter Tryd.func29, Tryd.ntmps29
  go_wp2
  go_ret
  exact ⟨rfl, rfl⟩
theorem same_none (b : Nat) (w : World) : Calls Tryd.prog 31 #[.pointer (some ⟨b, 0, none⟩), .pointer none] w fun e w' => e = .returned (.bool false) ∧ w = w' := by
  go_enter Tryd.func31, Tryd.ntmps31
  go_wp2
  go_ret
  exact ⟨rfl, rfl⟩
theorem none_same (b : Nat) (w : World) : Calls Tryd.prog 31 #[.pointer none, .pointer (some ⟨b, 0, none⟩)] w fun e w' => e = .returned (.bool false) ∧ w = w' := by
  go_enter Tryd.func31, Tryd.ntmps31
  go_wp2
  go_ret
  exact ⟨rfl, rfl⟩
end Go.Proofs.YtpldalmodcmfaaaDoor
