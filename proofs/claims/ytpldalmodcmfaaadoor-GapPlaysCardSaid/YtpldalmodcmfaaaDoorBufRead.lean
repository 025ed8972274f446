/- A buffer's lines: Lines, begin, end, at, and what they lean on. -/
import Derived.Test.YtpldalmodcmfaaaDoorBuf
import Derived.Test.YtpldalmodcmfaaaDoorFeedsRead
namespace Go.Proofs.YtpldalmodcmfaaaDoor
open Go.RowKit

/-- Where the line feeds of the runes stand. -/
abbrev fd (xs : List Int) : List Int := lfs 0 xs

theorem fd_split (zs ys : List Int) : fd (zs ++ ys) = lfs 0 zs ++ lfs zs.length ys := by unfold fd; rw [lfs_append, Int.zero_add]
theorem fd_counts (zs ys : List Int) : (fd (zs ++ ys)).length = (lfs 0 zs).length + (bks ys).length := by
  rw [fd_split, List.length_append, ← backs_bks zs ys, backs_length]
theorem getD_rev (f : Int → Int) (Q : List Int) (j : Nat) (h : j < Q.length) : ((Q.map f).reverse).getD j 0 = f (Q.getD (Q.length - 1 - j) 0) := by
  have h' : Q.length - 1 - j < Q.length := by omega
  rw [List.getD_eq_getElem?_getD, List.getElem?_reverse (by rw [List.length_map]; exact h), List.length_map, List.getElem?_map, List.getElem?_eq_getElem h', List.getD_eq_getElem?_getD, List.getElem?_eq_getElem h']
  rfl
theorem fd_getD_behind (zs ys : List Int) (k : Nat) (h1 : (lfs 0 zs).length ≤ k) (h2 : k < (lfs 0 zs).length + (bks ys).length) :
    ((zs.length : Int) + ys.length) - (bks ys).getD ((lfs 0 zs).length + (bks ys).length - 1 - k) 0 = (fd (zs ++ ys)).getD k 0 := by
  have hl : (bks ys).length = (lfs zs.length ys).length := by rw [← backs_bks zs ys, backs_length]
  rw [fd_split, hl]
  rw [hl] at h2
  have hr := getD_rev (fun p => ((zs.length : Int) + ys.length) - p) (lfs zs.length ys) ((lfs 0 zs).length + (lfs zs.length ys).length - 1 - k) (by omega)
  have e : (lfs zs.length ys).length - 1 - ((lfs 0 zs).length + (lfs zs.length ys).length - 1 - k) = k - (lfs 0 zs).length := by omega
  rw [e] at hr
  have hb : bks ys = ((lfs zs.length ys).map fun p => ((zs.length : Int) + ys.length) - p).reverse := (backs_bks zs ys).symm
  rw [hb, hr, List.getD_eq_getElem?_getD, List.getD_eq_getElem?_getD, List.getElem?_append_right h1]
  omega

/-- place tells where line feed k stands. -/
theorem place_any {S : Nat → Prop} {N B : Nat} {a0 a1 a2 : Value} {zs ys : List Int} {w : World} (h : Fs S N B a0 a1 a2 (lfs 0 zs) (bks ys) w) (hl : zs.length + ys.length ≤ 20000) (k : Nat) (hk : k < (fd (zs ++ ys)).length) (size : Int) (hs : size = ((zs.length + ys.length : Nat) : Int)) :
    Calls Tryd.prog 57 #[.pointer (some ⟨B, 3, none⟩), .int .i64 k, .int .i64 size] w fun e w' => e = .returned (.int .i64 ((fd (zs ++ ys)).getD k 0)) ∧ ∃ q, w' = w.drewN q := by
  rw [fd_counts] at hk
  have l1 := lfs_length 0 zs
  have l2 := bks_length ys
  rcases Nat.lt_or_ge k (lfs 0 zs).length with h' | h'
  · have e : (fd (zs ++ ys)).getD k 0 = (lfs 0 zs).getD k 0 := by
      rw [fd_split, List.getD_eq_getElem?_getD, List.getElem?_append_left h', List.getD_eq_getElem?_getD]
    rw [e]
    exact place_ahead h k _ h'
  · rw [← fd_getD_behind zs ys k h' hk]
    have hp := place_behind h (by omega) k size h' hk (by omega) (fun p hp => by have := bks_range ys p hp; omega)
    rw [hs, show ((zs.length + ys.length : Nat) : Int) = (zs.length : Int) + ys.length by omega] at hp ⊢
    exact hp

theorem lines_fs {S : Nat → Prop} {N r B : Nat} {zs ys : List Int} {w : World} (h : Bf S N r B zs ys w) :
    Calls Tryd.prog 35 #[.pointer (some ⟨B, 3, none⟩)] w fun e w' => e = .returned (.int .i64 ((fd (zs ++ ys)).length : Nat)) ∧ ∃ q, w' = w.drewN q := by
  have hle := h.le
  obtain ⟨va, gs, hF, _⟩ := h
  have l1 := lfs_length 0 zs
  have l2 := bks_length ys
  rw [fd_counts]
  exact fs_size hF (by omega)

set_option maxRecDepth 100000 in
set_option maxHeartbeats 1000000 in
theorem lines_any {S : Nat → Prop} {N r B : Nat} {zs ys : List Int} {w : World} (h : Bf S N r B zs ys w) :
    Calls Tryd.prog 17 #[.pointer (some ⟨B, 0, none⟩)] w fun e w' => e = .returned (.int .i64 ((fd (zs ++ ys)).length + 1 : Nat)) ∧ ∃ q, w' = w.drewN q := by
  have hL := lines_fs h
  have hle := h.le
  have hx := lfs_length 0 (zs ++ ys)
  rw [List.length_append] at hx
  have hx' : (fd (zs ++ ys)).length ≤ zs.length + ys.length := hx
  obtain ⟨m, hm⟩ : ∃ m, (fd (zs ++ ys)).length = m := ⟨_, rfl⟩
  rw [hm] at hL ⊢
  have hm2 : m ≤ 20000 := by rw [← hm]; omega
  clear hm hx hx' h hle
  go_enter Tryd.func17, Tryd.ntmps17
  go_wp2_with (go_at_call 35; refine hL.mono ?_; clear hL; rintro e _ ⟨rfl, q, rfl⟩)
  go_ret
  exact ⟨ret_intB (by omega), _, rfl⟩
end Go.Proofs.YtpldalmodcmfaaaDoor
