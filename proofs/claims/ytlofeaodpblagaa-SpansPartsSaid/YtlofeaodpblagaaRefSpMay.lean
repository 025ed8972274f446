/- The document's spans: May, and two lists held against each other. -/
import Derived.Test.YtlofeaodpblagaaReadsSp
import Derived.Laws.StructEq
import Derived.BigQuiet
namespace Go.Proofs.Ytlofeaodpblagaa
open Go.RowKit

theorem getD_cell {xs : List Sp} {k : Nat} (hk : k < xs.length) : xs[k] = xs.getD k (0, 0) := by simp [List.getD, hk]
theorem sMayF_at {xs : List Sp} {k : Nat} (hk : k < xs.length) (L : Int) :
    sMayF L (xs.drop k) = (decide (1 ≤ (xs.getD k (0, 0)).2 ∧ L < (xs.getD k (0, 0)).1 ∧ (xs.getD k (0, 0)).1 ≤ 20000 ∧ (xs.getD k (0, 0)).2 ≤ 20000 - (xs.getD k (0, 0)).1) && sMayF ((xs.getD k (0, 0)).1 + (xs.getD k (0, 0)).2) (xs.drop (k + 1))) := by
  rw [List.drop_eq_getElem_cons hk, getD_cell hk]
  rfl
set_option maxRecDepth 100000 in
set_option maxHeartbeats 2000000 in
theorem rSpMay_any (v : Value) (xs : List Sp) (w : World) (h : SpAt w v xs) (hx : xs.length ≤ 1000000000) :
    Calls Try.prog 13 #[v] w fun e w' => e = .returned (.bool (sMay xs)) ∧ Below w.heap.size w w' := by
  have HR := Lib.hid h
  obtain ⟨ao, cap, rfl, _⟩ := h
  obtain ⟨n, hn⟩ : ∃ n, xs.length = n := ⟨_, rfl⟩
  rw [hn] at hx ⊢
  have Hn := Lib.hid hn
  clear hn
  go_enter Try.func13, Try.ntmps13
  go_wp2
  go_loopw [3, 4] (fun la i wr => ∃ (k : Nat) (L : Int), i = .int .i64 k ∧ k ≤ n ∧ la = .int .i64 L ∧ -1 ≤ L ∧ L ≤ 20000 ∧ sMay xs = sMayF L (xs.drop k) ∧ Below w.heap.size w wr) (fun _ i _ => n - (intOf i).toNat)
  case atStart => exact ⟨0, -1, rfl, Nat.zero_le _, rfl, by decide, by decide, rfl, Below.refl _ _⟩
  case round =>
    obtain ⟨k, L, rfl, hk, rfl, hL0, hL1, hm, hb⟩ := hrel
    have Hb := Lib.hid hb
    have Hm := Lib.hid hm
    clear hm hb
    rcases Nat.lt_or_ge k n with hlt | hge
    · have hxk : k < xs.length := by rw [Hn.out]; exact hlt
      obtain ⟨b, off, cap', hv, hc0, hc1⟩ := (HR.out.below Hb.out).at hxk
      rw [Hn.out] at hv
      cases hv
      have hs := sMayF_at hxk L
      generalize (xs.getD k (0, 0)).1 = F at *
      generalize (xs.getD k (0, 0)).2 = E at *
      have HS := Lib.hid hs
      clear hs hxk
      have hi : (0 : Int) ≤ (k : Int) ∧ (k : Int) < (n : Int) := ⟨by omega, by omega⟩
      rcases Bool.eq_false_or_eq_true (decide (E < 1)) with b0 | b0
      · have g0 := of_decide_eq_true b0
        have hV := Lib.hid (show sMay xs = false by rw [Hm.out, HS.out, decide_eq_false (by omega), Bool.false_and])
        go_wp2_with fail
        go_quiet (fail)
        go_wp2
        go_ret
        exact ⟨ret_bool hV.out.symm, below_draws Hb.out _⟩
      have g0 := of_decide_eq_false b0
      rcases Bool.eq_false_or_eq_true (decide (F ≤ L)) with b1 | b1
      · have g1 := of_decide_eq_true b1
        have hV := Lib.hid (show sMay xs = false by rw [Hm.out, HS.out, decide_eq_false (by omega), Bool.false_and])
        go_wp2_with fail
        go_quiet (fail)
        go_wp2
        go_ret
        exact ⟨ret_bool hV.out.symm, below_draws Hb.out _⟩
      have g1 := of_decide_eq_false b1
      rcases Bool.eq_false_or_eq_true (decide ((20000 : Int) < F)) with b2 | b2
      · have g2 := of_decide_eq_true b2
        have hV := Lib.hid (show sMay xs = false by rw [Hm.out, HS.out, decide_eq_false (by omega), Bool.false_and])
        go_wp2_with fail
        go_quiet (fail)
        go_wp2
        go_ret
        exact ⟨ret_bool hV.out.symm, below_draws Hb.out _⟩
      have g2 := of_decide_eq_false b2
      have hw1 : IntKind.i64.wrap (20000 - F) = 20000 - F := by simp only [IntKind.wrap_i64]; omega
      rcases Bool.eq_false_or_eq_true (decide (20000 - F < E)) with b3 | b3
      · have g3 := of_decide_eq_true b3
        have hV := Lib.hid (show sMay xs = false by rw [Hm.out, HS.out, decide_eq_false (by omega), Bool.false_and])
        go_wp2_with fail
        go_quiet (fail)
        go_wp2
        go_ret
        exact ⟨ret_bool hV.out.symm, below_draws Hb.out _⟩
      have g3 := of_decide_eq_false b3
      have hw2 : IntKind.i64.wrap (F + E) = F + E := by simp only [IntKind.wrap_i64]; omega
      have hN := Lib.hid (show sMay xs = sMayF (F + E) (xs.drop (k + 1)) by rw [Hm.out, HS.out, decide_eq_true (by omega), Bool.true_and])
      have HB := Lib.hid (show -1 ≤ F + E ∧ F + E ≤ 20000 from ⟨by omega, by omega⟩)
      clear g0 g1 g2 g3 hL0 hL1
      go_wp2_with fail
      go_quiet (fail)
      go_wp2_with fail
      go_quiet (fail)
      go_wp2
      go_roundw
      case rel => exact ⟨k + 1, F + E, by go_num, by omega, rfl, HB.out.1, HB.out.2, hN.out, below_draws Hb.out _⟩
      case measure => simp [intOf]; omega
    · obtain rfl : k = n := by omega
      have hV := Lib.hid (show sMay xs = true by rw [Hm.out, List.drop_of_length_le (by rw [Hn.out]; exact Nat.le_refl _)]; rfl)
      go_wp2
      go_ret
      exact ⟨ret_bool hV.out.symm, Hb.out⟩
end Go.Proofs.Ytlofeaodpblagaa
