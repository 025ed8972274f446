/- A buffer's begin, end, at; count by sort.Search. -/
import Derived.Test.YtpldalmodcmfaaaDoorBufRead
import Derived.Test.YtpldalmodcmfaaaDoorBufFrame
import Derived.Test.YtpldalmodcmfaaaDoorShSearch
namespace Go.Proofs.YtpldalmodcmfaaaDoor
open Go.RowKit Go.Shelf

theorem fd_length (xs : List Int) : (fd xs).length ≤ xs.length := lfs_length 0 xs
theorem fd_range (xs : List Int) (k : Nat) (h : k < (fd xs).length) : 0 ≤ (fd xs).getD k 0 ∧ (fd xs).getD k 0 < xs.length := by
  have := lfs_range 0 xs ((fd xs).getD k 0) (by rw [List.getD_eq_getElem?_getD, List.getElem?_eq_getElem h]; exact List.getElem_mem h)
  omega
/-- Where a line begins, and where it ends. -/
def begL (xs : List Int) (line : Nat) : Int := if line = 0 then 0 else (fd xs).getD (line - 1) 0 + 1
def endL (xs : List Int) (line : Nat) : Int := if line = (fd xs).length then xs.length else (fd xs).getD line 0

set_option maxRecDepth 100000 in
set_option maxHeartbeats 1000000 in
theorem begin_any {S : Nat → Prop} {N r B : Nat} {zs ys : List Int} {w : World} (h : Bf S N r B zs ys w) (line : Nat) (hline : line ≤ (fd (zs ++ ys)).length) :
    Calls Tryd.prog 40 #[.pointer (some ⟨B, 0, none⟩), .int .i64 line] w fun e w' => e = .returned (.int .i64 (begL (zs ++ ys) line)) ∧ ∃ q, w' = w.drewN q := by
  have hLen := fun q => blen_any (h.drewN q)
  have hle := h.le
  have hfl := fd_length (zs ++ ys)
  rw [List.length_append] at hfl
  rcases Nat.eq_zero_or_pos line with rfl | hp
  · have e0 : begL (zs ++ ys) 0 = 0 := rfl
    rw [e0]
    clear h hLen hle hfl hline e0
    go_enter Tryd.func40, Tryd.ntmps40
    go_wp2
    go_ret
    exact ⟨rfl, 0, rfl⟩
  · obtain ⟨j, rfl⟩ : ∃ j, line = j + 1 := ⟨line - 1, by omega⟩
    have hF : ∃ va gs, Fs S N B va (.int .i64 zs.length) (.int .i64 (zs.length + gs : Nat)) (lfs 0 zs) (bks ys) w := by
      obtain ⟨va, gs, hF, _⟩ := h
      exact ⟨va, gs.length, hF⟩
    obtain ⟨va, gs, hF⟩ := hF
    have hP := fun q => place_any (hF.drewN q) (by omega) j (by omega) _ rfl
    have hr := fd_range (zs ++ ys) j (by omega)
    rw [List.length_append] at hr
    have e0 : begL (zs ++ ys) (j + 1) = (fd (zs ++ ys)).getD j 0 + 1 := rfl
    rw [e0]
    obtain ⟨x, hx⟩ : ∃ x, (fd (zs ++ ys)).getD j 0 = x := ⟨_, rfl⟩
    rw [hx] at hr ⊢
    simp only [hx] at hP
    obtain ⟨m, hm⟩ : ∃ m, zs.length + ys.length = m := ⟨_, rfl⟩
    simp only [hm] at hLen hP
    rw [hm] at hle hr hfl
    have e1 : IntKind.i64.wrap (j : Int) = (j : Int) := IntWalk.i64_in _ (by omega)
    have e2 : IntKind.i64.wrap (x + 1) = x + 1 := IntWalk.i64_in _ (by omega)
    have hne : (((j + 1 : Nat) : Int) == 0) = false := beq_eq_false_iff_ne.2 (by omega)
    clear h hF e0 hx hm hp hline
    go_enter Tryd.func40, Tryd.ntmps40
    go_wp2
    go_quiet ((first | (go_at_call 14; exact Calls.quiet_of (hLen _)) | (go_at_call 57; exact Calls.quiet_of (hP _))))
    go_wp2
    go_ret
    exact ⟨rfl, _, rfl⟩

set_option maxRecDepth 100000 in
set_option maxHeartbeats 1000000 in
theorem end_any {S : Nat → Prop} {N r B : Nat} {zs ys : List Int} {w : World} (h : Bf S N r B zs ys w) (line : Nat) (hline : line ≤ (fd (zs ++ ys)).length) :
    Calls Tryd.prog 41 #[.pointer (some ⟨B, 0, none⟩), .int .i64 line] w fun e w' => e = .returned (.int .i64 (endL (zs ++ ys) line)) ∧ ∃ q, w' = w.drewN q := by
  have hLen := fun q => blen_any (h.drewN q)
  have hLen0 := blen_any h
  have hSz := lines_fs h
  have hle := h.le
  have hfl := fd_length (zs ++ ys)
  rw [List.length_append] at hfl
  obtain ⟨m, hm⟩ : ∃ m, zs.length + ys.length = m := ⟨_, rfl⟩
  obtain ⟨n, hn⟩ : ∃ n, (fd (zs ++ ys)).length = n := ⟨_, rfl⟩
  by_cases hl : line = (fd (zs ++ ys)).length
  · have e0 : endL (zs ++ ys) line = (m : Int) := by unfold endL; rw [if_pos hl, List.length_append, hm]
    rw [e0]
    subst hl
    simp only [hm] at hLen hLen0
    rw [hn] at hSz ⊢
    have hq : ((n : Int) == (n : Int)) = true := beq_self_eq_true _
    clear h e0 hm hn hline hfl hle
    go_enter Tryd.func41, Tryd.ntmps41
    go_wp2_with (first | (go_at_call 35; refine hSz.mono ?_; clear hSz; rintro e _ ⟨rfl, q, rfl⟩) | (go_at_call 14; (first | refine hLen0.mono ?_ | refine (hLen _).mono ?_); rintro e _ ⟨rfl, q2, rfl⟩))
    go_ret
    exact ⟨rfl, _, rfl⟩
  · have hF : ∃ va gs, Fs S N B va (.int .i64 zs.length) (.int .i64 (zs.length + gs : Nat)) (lfs 0 zs) (bks ys) w := by
      obtain ⟨va, gs, hF, _⟩ := h
      exact ⟨va, gs.length, hF⟩
    obtain ⟨va, gs, hF⟩ := hF
    have hP : ∀ W, (∃ q, W = w.drewN q) → ∀ n, Calls Tryd.prog 57 #[.pointer (some ⟨B, 3, none⟩), .int .i64 line, .int .i64 ((zs.length + ys.length : Nat) : Int)] (W.drewN n) fun e w' => e = .returned (.int .i64 ((fd (zs ++ ys)).getD line 0)) ∧ ∃ q', w' = (W.drewN n).drewN q' := fun W hq n => by
      obtain ⟨q, rfl⟩ := hq
      rw [World.drewN_drewN]
      exact place_any (hF.drewN _) (by omega) line (by omega) _ rfl
    have hLenW : ∀ W, (∃ q, W = w.drewN q) → ∀ n, Calls Tryd.prog 14 #[.pointer (some ⟨B, 0, none⟩)] (W.drewN n) fun e w' => e = .returned (.int .i64 (zs.length + ys.length : Nat)) ∧ ∃ q', w' = (W.drewN n).drewN q' := fun W hq n => by
      obtain ⟨q, rfl⟩ := hq
      rw [World.drewN_drewN]
      exact hLen _
    have e0 : endL (zs ++ ys) line = (fd (zs ++ ys)).getD line 0 := by unfold endL; rw [if_neg hl]
    rw [e0]
    obtain ⟨x, hx⟩ : ∃ x, (fd (zs ++ ys)).getD line 0 = x := ⟨_, rfl⟩
    rw [hx]
    simp only [hx] at hP
    simp only [hm] at hP hLenW
    rw [hn] at hSz hl
    have hne : ((line : Int) == (n : Int)) = false := beq_eq_false_iff_ne.2 (by omega)
    clear h hF e0 hx hm hn hline hl hLen0 hfl hle hLen
    go_enter Tryd.func41, Tryd.ntmps41
    go_wp2_with (go_at_call 35; refine hSz.mono ?_; clear hSz; rintro e w1 ⟨rfl, hq⟩; have hLen1 := hLenW w1 hq; have hP1 := hP w1 hq; have Hq := Lib.hid hq; clear hLenW hP hq)
    go_quiet ((first | (go_at_call 14; exact Calls.quiet_of (hLen1 _)) | (go_at_call 57; exact Calls.quiet_of (hP1 _))))
    go_wp2
    go_ret
    obtain ⟨q, hq⟩ := Hq.out
    exact ⟨rfl, _, by rw [hq]; exact World.drewN_drewN _ _ _⟩

set_option maxRecDepth 100000 in
set_option maxHeartbeats 1000000 in
theorem at_any {S : Nat → Prop} {N r B : Nat} {zs ys : List Int} {w : World} (h : Bf S N r B zs ys w) (i : Nat) (hi : i < zs.length + ys.length) :
    Calls Tryd.prog 48 #[.pointer (some ⟨B, 0, none⟩), .int .i64 i] w fun e w' => e = .returned (.int .i32 ((zs ++ ys).getD i 0)) ∧ ∃ q, w' = w.drewN q := by
  obtain ⟨gs, ao, cap, hl, hr, hc, hm, h0, h1, h2, hao⟩ := h.cells
  rcases hao with ⟨_, _, h3⟩ | ⟨g, rfl, hcell⟩
  · omega
  unfold maxLen at hm
  rcases Nat.lt_or_ge i zs.length with h' | h'
  · have hx := hcell i (by omega)
    have e0 : (zs ++ (gs ++ ys)).getD i 0 = (zs ++ ys).getD i 0 := by
      rw [List.getD_eq_getElem?_getD, List.getD_eq_getElem?_getD, List.getElem?_append_left h', List.getElem?_append_left h']
    rw [e0] at hx
    obtain ⟨x, hx'⟩ : ∃ x, (zs ++ ys).getD i 0 = x := ⟨_, rfl⟩
    rw [hx'] at hx ⊢
    have k1 : (i : Int) < (zs.length : Int) := by omega
    have k2 : (i : Int) < ((zs.length + (gs.length + ys.length) : Nat) : Int) := by omega
    have kt : ((i : Int)).toNat = i := rfl
    clear hcell e0 hx' h
    go_enter Tryd.func48, Tryd.ntmps48
    go_wp2
    go_ret
    exact ⟨rfl, 0, rfl⟩
  · have hx := hcell (i + gs.length) (by omega)
    have e0 : (zs ++ (gs ++ ys)).getD (i + gs.length) 0 = (zs ++ ys).getD i 0 := by
      rw [List.getD_eq_getElem?_getD, List.getD_eq_getElem?_getD, List.getElem?_append_right (by omega), List.getElem?_append_right (by omega), List.getElem?_append_right h']
      congr 2
      omega
    rw [e0] at hx
    have hw := fun q => width_at (B := B) (w := w.drewN q) (f := zs.length) (t := gs.length) h1 h2 (by omega)
    obtain ⟨x, hx'⟩ : ∃ x, (zs ++ ys).getD i 0 = x := ⟨_, rfl⟩
    rw [hx'] at hx ⊢
    have k1 : ¬ ((i : Int) < (zs.length : Int)) := by omega
    have e1 : IntKind.i64.wrap ((i : Int) + (gs.length : Int)) = ((i + gs.length : Nat) : Int) := by rw [show ((i : Int) + (gs.length : Int)) = ((i + gs.length : Nat) : Int) by omega]; exact IntWalk.i64_in _ (by omega)
    have k2 : ((i + gs.length : Nat) : Int) < ((zs.length + (gs.length + ys.length) : Nat) : Int) := by omega
    have k3 : (0 : Int) ≤ ((i + gs.length : Nat) : Int) := by omega
    have kt : (((i + gs.length : Nat) : Int)).toNat = i + gs.length := rfl
    have k4 : (0 : Int) ≤ (i : Int) + (gs.length : Int) := by omega
    have kt2 : ((i : Int) + (gs.length : Int)).toNat = i + gs.length := by omega
    clear hcell e0 hx' h h'
    go_enter Tryd.func48, Tryd.ntmps48
    go_wp2
    go_quiet ((go_at_call 32; exact Calls.quiet_of (hw _)))
    go_wp2
    go_ret
    exact ⟨rfl, _, rfl⟩
end Go.Proofs.YtpldalmodcmfaaaDoor
