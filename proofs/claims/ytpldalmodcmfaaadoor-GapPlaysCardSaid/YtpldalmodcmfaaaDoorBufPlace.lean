/- A buffer's Place and At. -/
import Derived.Test.YtpldalmodcmfaaaDoorBufCount
import Derived.Test.YtpldalmodcmfaaaDoorBufInsert
import Derived.OwnWalk
namespace Go.Proofs.YtpldalmodcmfaaaDoor
open Go.RowKit

theorem begL_range (xs : List Int) (line : Nat) (h : line ≤ (fd xs).length) : 0 ≤ begL xs line ∧ begL xs line ≤ xs.length := by
  unfold begL
  split
  · omega
  · have := fd_range xs (line - 1) (by omega)
    omega
theorem endL_range (xs : List Int) (line : Nat) (h : line ≤ (fd xs).length) : 0 ≤ endL xs line ∧ endL xs line ≤ xs.length := by
  unfold endL
  split
  · omega
  · have := fd_range xs line (by omega)
    omega
theorem cnt_le (P : List Int) (m : Int) : cnt P m ≤ P.length := List.countP_le_length

set_option maxRecDepth 100000 in
set_option maxHeartbeats 2000000 in
theorem place_no {S : Nat → Prop} {N r B : Nat} {zs ys : List Int} {w : World} (h : Bf S N r B zs ys w) (a : Int) (ha : ¬ (0 ≤ a ∧ a ≤ (zs.length + ys.length : Nat))) :
    Calls Tryd.prog 22 #[.pointer (some ⟨B, 0, none⟩), .int .i64 a] w fun e w' => e = .returned (.tuple #[.int .i64 0, .int .i64 0, .int .i64 3]) ∧ Below w.heap.size w w' := by
  have hH := has_any h a 0
  rw [show hasB (zs.length + ys.length) a 0 = false from decide_eq_false fun q => ha ⟨q.1, q.2.1⟩] at hH
  clear h ha
  go_enter Tryd.func22, Tryd.ntmps22
  go_wp2_with (go_at_call 38; refine hH.mono ?_; clear hH; rintro e _ ⟨rfl, q, rfl⟩)
  go_ret3
  exact ⟨rfl, below_drewN (Below.refl _ _) _⟩

set_option maxRecDepth 100000 in
set_option maxHeartbeats 2000000 in
theorem place_yes {S : Nat → Prop} {N r B : Nat} {zs ys : List Int} {w : World} (h : Bf S N r B zs ys w) (a : Nat) (ha : a ≤ zs.length + ys.length) :
    Calls Tryd.prog 22 #[.pointer (some ⟨B, 0, none⟩), .int .i64 a] w fun e w' => e = .returned (.tuple #[.int .i64 (cnt (fd (zs ++ ys)) a), .int .i64 ((a : Int) - begL (zs ++ ys) (cnt (fd (zs ++ ys)) a)), .int .i64 0]) ∧ Below w.heap.size w w' := by
  have hH := has_any h a 0
  rw [show hasB (zs.length + ys.length) a 0 = true from decide_eq_true ⟨by omega, by omega, by omega, by omega⟩] at hH
  have hle := h.le
  have hLen := fun q => blen_any (h.drewN q)
  have hF : ∃ va gs, Fs S N B va (.int .i64 zs.length) (.int .i64 (zs.length + gs : Nat)) (lfs 0 zs) (bks ys) w := by
    obtain ⟨va, gs, hF, _⟩ := h
    exact ⟨va, gs.length, hF⟩
  obtain ⟨va, gs, hF⟩ := hF
  have hC := fun q => count_any (hF.drewN q) hle a
  have hcl := cnt_le (fd (zs ++ ys)) a
  have hBe : ∀ W, Below w.heap.size w W → _ := fun W hb => begin_any (h.fresh hb) (cnt (fd (zs ++ ys)) a) hcl
  have hbr := begL_range (zs ++ ys) _ hcl
  rw [List.length_append] at hbr
  obtain ⟨c, hc⟩ : ∃ c, cnt (fd (zs ++ ys)) a = c := ⟨_, rfl⟩
  rw [hc] at hbr ⊢
  simp only [hc] at hC hBe
  obtain ⟨b, hb⟩ : ∃ b, begL (zs ++ ys) c = b := ⟨_, rfl⟩
  rw [hb] at hbr ⊢
  simp only [hb] at hBe
  obtain ⟨m, hm⟩ : ∃ m, zs.length + ys.length = m := ⟨_, rfl⟩
  simp only [hm] at hLen hC
  rw [hm] at hbr hle ha
  have e1 : IntKind.i64.wrap ((a : Int) - b) = (a : Int) - b := IntWalk.i64_in _ (by omega)
  clear h hF hc hb hm hcl
  go_enter Tryd.func22, Tryd.ntmps22
  go_wp2_with (go_at_call 38; refine hH.mono ?_; clear hH; rintro e _ ⟨rfl, q, rfl⟩)
  go_region_held (fun _ => True) (trivial) (first | (go_at_call 14; refine (hLen _).mono ?_; clear hLen; rintro e _ ⟨rfl, q2, rfl⟩) | (go_at_call 39; refine (hC _).mono ?_; clear hC; rintro e w2 ⟨rfl, hb2⟩))
  have hb3 : Below w.heap.size w w2 := (below_drewN (Below.refl _ w) _).trans hb2
  have hBe2 := hBe w2 hb3
  clear hBe hb2
  go_wp2_with (go_at_call 40; refine hBe2.mono ?_; clear hBe2; rintro e _ ⟨rfl, q3, rfl⟩)
  go_ret3
  exact ⟨rfl, below_drewN hb3 _⟩

/-- What At tells. -/
def atX (xs : List Int) (line col : Int) : Int × Int :=
  if 0 ≤ line ∧ line ≤ (fd xs).length ∧ 0 ≤ col ∧ col ≤ endL xs line.toNat - begL xs line.toNat then (begL xs line.toNat + col, 0) else (0, 3)
def AtPost (x : Int × Int) (w : World) (e : Ending) (w' : World) : Prop := e = .returned (.tuple #[.int .i64 x.1, .int .i64 x.2]) ∧ Below w.heap.size w w'

set_option maxRecDepth 100000 in
set_option maxHeartbeats 2000000 in
theorem bat_any {S : Nat → Prop} {N r B : Nat} {zs ys : List Int} {w : World} (h : Bf S N r B zs ys w) (line col : Int) :
    Calls Tryd.prog 24 #[.pointer (some ⟨B, 0, none⟩), .int .i64 line, .int .i64 col] w (AtPost (atX (zs ++ ys) line col) w) := by
  have hle := h.le
  have hL := lines_any h
  have hfl := fd_length (zs ++ ys)
  rw [List.length_append] at hfl
  by_cases c1 : line < 0
  · rw [show atX (zs ++ ys) line col = (0, 3) from if_neg fun q => by omega]
    clear h hL hle hfl
    go_enter Tryd.func24, Tryd.ntmps24
    go_wp2
    go_ret2
    exact ⟨rfl, Below.refl _ _⟩
  · by_cases c2 : ((fd (zs ++ ys)).length : Int) + 1 ≤ line
    · rw [show atX (zs ++ ys) line col = (0, 3) from if_neg fun q => by omega]
      obtain ⟨n, hn⟩ : ∃ n, (fd (zs ++ ys)).length = n := ⟨_, rfl⟩
      rw [hn] at hL c2
      clear h hle hfl hn
      go_enter Tryd.func24, Tryd.ntmps24
      go_wp2_with (go_at_call 17; refine hL.mono ?_; clear hL; rintro e _ ⟨rfl, q, rfl⟩)
      go_ret2
      exact ⟨rfl, below_drewN (Below.refl _ _) _⟩
    · obtain ⟨k, rfl⟩ : ∃ k : Nat, line = k := ⟨line.toNat, by omega⟩
      have hk : k ≤ (fd (zs ++ ys)).length := by omega
      have hBe := fun q => begin_any (h.drewN q) k hk
      have hEn := fun q => end_any (h.drewN q) k hk
      have hbr := begL_range (zs ++ ys) k hk
      have her := endL_range (zs ++ ys) k hk
      rw [List.length_append] at hbr her
      have e0 : atX (zs ++ ys) k col = if 0 ≤ col ∧ col ≤ endL (zs ++ ys) k - begL (zs ++ ys) k then (begL (zs ++ ys) k + col, 0) else (0, 3) := by
        unfold atX
        rw [Int.toNat_natCast]
        by_cases hq : 0 ≤ col ∧ col ≤ endL (zs ++ ys) k - begL (zs ++ ys) k
        · rw [if_pos hq, if_pos ⟨by omega, by omega, hq.1, hq.2⟩]
        · rw [if_neg hq, if_neg fun q => hq ⟨q.2.2.1, q.2.2.2⟩]
      rw [e0]
      obtain ⟨n, hn⟩ : ∃ n, (fd (zs ++ ys)).length = n := ⟨_, rfl⟩
      rw [hn] at hL c2 hfl
      obtain ⟨b, hb⟩ : ∃ b, begL (zs ++ ys) k = b := ⟨_, rfl⟩
      obtain ⟨E, hE⟩ : ∃ E, endL (zs ++ ys) k = E := ⟨_, rfl⟩
      rw [hb] at hbr
      rw [hE] at her
      simp only [hb] at hBe
      simp only [hE] at hEn
      rw [hb, hE]
      clear h e0 hk hn hb hE
      have k1 : ¬ ((n : Int) + 1 ≤ (k : Int)) := by omega
      have e1 : IntKind.i64.wrap (E - b) = E - b := IntWalk.i64_in _ (by omega)
      by_cases c3 : 0 ≤ col
      · by_cases c4 : col ≤ E - b
        · rw [if_pos ⟨c3, c4⟩]
          have e2 : IntKind.i64.wrap (b + col) = b + col := IntWalk.i64_in _ (by omega)
          go_enter Tryd.func24, Tryd.ntmps24
          go_wp2_with (first | (go_at_call 17; refine hL.mono ?_; clear hL; rintro e _ ⟨rfl, q, rfl⟩) | (go_at_call 40; refine (hBe _).mono ?_; clear hBe; rintro e _ ⟨rfl, q2, rfl⟩) | (go_at_call 41; refine (hEn _).mono ?_; clear hEn; rintro e _ ⟨rfl, q3, rfl⟩))
          go_ret2
          exact ⟨rfl, below_drewN (Below.refl _ _) _⟩
        · rw [if_neg fun q => c4 q.2]
          have hd : decide (col ≤ E - b) = false := decide_eq_false c4
          go_enter Tryd.func24, Tryd.ntmps24
          go_wp2_with (first | (go_at_call 17; refine hL.mono ?_; clear hL; rintro e _ ⟨rfl, q, rfl⟩) | (go_at_call 40; refine (hBe _).mono ?_; clear hBe; rintro e _ ⟨rfl, q2, rfl⟩) | (go_at_call 41; refine (hEn _).mono ?_; clear hEn; rintro e _ ⟨rfl, q3, rfl⟩))
          go_ret2
          exact ⟨rfl, below_drewN (Below.refl _ _) _⟩
      · rw [if_neg fun q => c3 q.1]
        go_enter Tryd.func24, Tryd.ntmps24
        go_wp2_with (first | (go_at_call 17; refine hL.mono ?_; clear hL; rintro e _ ⟨rfl, q, rfl⟩) | (go_at_call 40; refine (hBe _).mono ?_; clear hBe; rintro e _ ⟨rfl, q2, rfl⟩) | (go_at_call 41; refine (hEn _).mono ?_; clear hEn; rintro e _ ⟨rfl, q3, rfl⟩))
        go_ret2
        exact ⟨rfl, below_drewN (Below.refl _ _) _⟩
end Go.Proofs.YtpldalmodcmfaaaDoor
