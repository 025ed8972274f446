/- The document's own answers for layer 2 that only read: Run, Text, Lines, Place, At. -/
import Derived.Test.YtpldalmodcmfaaaDoorGapPlain
import Derived.Test.YtpldalmodcmfaaaDoorRefJoin
import Derived.OwnWalk
namespace Go.Proofs.YtpldalmodcmfaaaDoor
open Go.RowKit

/-- Whose line feeds lie ahead of a place. -/
theorem fd_take (xs : List Int) (a : Nat) : fd xs = fd (xs.take a) ++ lfs (xs.take a).length (xs.drop a) := by
  rw [← fd_split, List.take_append_drop]
theorem cnt_take (xs : List Int) (a : Nat) (ha : a ≤ xs.length) : cnt (fd xs) a = (fd (xs.take a)).length := by
  have hl : (xs.take a).length = a := by rw [List.length_take]; omega
  have hr1 := lfs_range 0 (xs.take a)
  have hr2 := lfs_range (xs.take a).length (xs.drop a)
  rw [hl] at hr1 hr2
  unfold cnt
  rw [fd_take xs a, List.countP_append, hl, List.countP_eq_length.2 (fun p hp => by have := hr1 p hp; simp; omega), List.countP_eq_zero.2 (fun p hp => by have := hr2 p hp; simp; omega), Nat.add_zero]
theorem fd_next (xs : List Int) (k : Nat) (hk : k < xs.length) : fd (xs.take (k + 1)) = fd (xs.take k) ++ (if xs.getD k 0 = 10 then [(k : Int)] else []) := by
  rw [List.take_succ_eq_append_getElem hk, fd_split]
  have e : xs.getD k 0 = xs[k] := by simp [List.getD, hk]
  have hl : (xs.take k).length = k := by rw [List.length_take]; omega
  rw [e, hl]
  simp only [lfs]
theorem begL_feed (xs : List Int) (k : Nat) (hk : k < xs.length) (h : xs.getD k 0 = 10) : begL xs ((fd (xs.take k)).length + 1) = (k : Int) + 1 := by
  unfold begL
  rw [if_neg (by omega), Nat.add_sub_cancel, fd_take xs (k + 1), fd_next xs k hk, if_pos h, List.append_assoc]
  rw [List.getD_eq_getElem?_getD, List.getElem?_append_right (Nat.le_refl _), Nat.sub_self]
  rfl
/-- A line and a column that stand in the text are a place's. -/
theorem place_at (xs : List Int) (line : Nat) (p : Int) (hl : line ≤ (fd xs).length) (h1 : begL xs line ≤ p) (h2 : p ≤ endL xs line) : cnt (fd xs) p = line := by
  have hs := cnt_spec (P := fd xs) (lfs_sorted 0 xs) p
  have hc := cnt_le (fd xs) p
  have hso : ∀ i j, i < j → j < (fd xs).length → (fd xs).getD i 0 < (fd xs).getD j 0 := by
    intro i j hij hj
    have hi : i < (fd xs).length := Nat.lt_trans hij hj
    have := List.pairwise_iff_getElem.1 (lfs_sorted 0 xs) i j hi hj hij
    rw [List.getD_eq_getElem?_getD, List.getD_eq_getElem?_getD, List.getElem?_eq_getElem hi, List.getElem?_eq_getElem hj]
    exact this
  rcases Nat.lt_trichotomy (cnt (fd xs) p) line with h | h | h
  · exfalso
    have a1 := hs.2 (line - 1) (by omega) (by omega)
    unfold begL at h1
    rw [if_neg (by omega)] at h1
    omega
  · exact h
  · exfalso
    have a1 := hs.1 line h
    unfold endL at h2
    rw [if_neg (by omega)] at h2
    omega

set_option maxRecDepth 100000 in
theorem rrun_any (v : Value) (xs : List Int) (hx : xs.length ≤ 1000000) (w : World) (h1 : Reads32 w v xs) (a n : Int) :
    Calls Tryd.prog 30 #[v, .int .i64 a, .int .i64 n] w fun e w' => e = .returned (.bool (hasB xs.length a n)) ∧ w = w' := by
  obtain ⟨ao, cap, rfl, _⟩ := h1
  obtain ⟨m, hm⟩ : ∃ m, xs.length = m := ⟨_, rfl⟩
  rw [hm] at hx ⊢
  clear hm
  by_cases c1 : 0 ≤ a
  · by_cases c2 : a ≤ m
    · by_cases c3 : 0 ≤ n
      · have e1 : IntKind.i64.wrap ((m : Int) - a) = m - a := IntWalk.i64_in _ (by omega)
        by_cases c4 : n ≤ m - a
        · rw [show hasB m a n = true from decide_eq_true ⟨c1, c2, c3, c4⟩]
          go_enter Tryd.func30, Tryd.ntmps30
          go_wp2
          go_ret
          exact ⟨rfl, rfl⟩
        · rw [show hasB m a n = false from decide_eq_false fun hh => c4 hh.2.2.2]
          have hd : decide (n ≤ (m : Int) - a) = false := decide_eq_false c4
          go_enter Tryd.func30, Tryd.ntmps30
          go_wp2
          go_ret
          exact ⟨rfl, rfl⟩
      · rw [show hasB m a n = false from decide_eq_false fun hh => c3 hh.2.2.1]
        have hd : decide (0 ≤ n) = false := decide_eq_false c3
        go_enter Tryd.func30, Tryd.ntmps30
        go_wp2
        go_ret
        exact ⟨rfl, rfl⟩
    · rw [show hasB m a n = false from decide_eq_false fun hh => c2 hh.2.1]
      have hd : decide (a ≤ (m : Int)) = false := decide_eq_false c2
      go_enter Tryd.func30, Tryd.ntmps30
      go_wp2
      go_ret
      exact ⟨rfl, rfl⟩
  · rw [show hasB m a n = false from decide_eq_false fun hh => c1 hh.1]
    have hd : decide (0 ≤ a) = false := decide_eq_false c1
    go_enter Tryd.func30, Tryd.ntmps30
    go_wp2
    go_ret
    exact ⟨rfl, rfl⟩

set_option maxRecDepth 100000 in
theorem rtext_any (v : Value) (xs : List Int) (hx : xs.length ≤ 1000000) (hv : allValid xs = true) (w : World) (h1 : Reads32 w v xs) :
    Calls Tryd.prog 16 #[v] w fun e w' => e = .returned (.string ⟨(joinL xs).toArray⟩) ∧ Below w.heap.size w w' := by
  have hJ := rjoin_any v xs hx w h1
  unfold RJoinPost at hJ
  simp only [hv, if_true] at hJ
  obtain ⟨ao, cap, rfl, _⟩ := h1
  generalize (⟨(joinL xs).toArray⟩ : ByteArray) = s at hJ ⊢
  clear hv
  go_enter Tryd.func16, Tryd.ntmps16
  go_wp2_with (go_at_call 34; refine hJ.mono ?_; clear hJ; rintro e w1 ⟨rfl, hb⟩)
  go_ret
  exact ⟨rfl, hb⟩

set_option maxRecDepth 100000 in
theorem rlines_any (v : Value) (xs : List Int) (hx : xs.length ≤ 1000000) (w : World) (h1 : Reads32 w v xs) :
    Calls Tryd.prog 18 #[v] w fun e w' => e = .returned (.int .i64 ((fd xs).length + 1 : Nat)) ∧ w = w' := by
  obtain ⟨ao, cap, rfl, r1⟩ := h1
  obtain ⟨m, hm⟩ : ∃ m, xs.length = m := ⟨_, rfl⟩
  have Hm := Lib.hid hm
  have R1 := Lib.hid r1
  rw [hm] at hx ⊢
  clear hm r1
  go_enter Tryd.func18, Tryd.ntmps18
  go_wp2
  go_loop [3, 4] (fun n i => ∃ q : Nat, i = .int .i64 q ∧ q ≤ m ∧ n = .int .i64 ((fd (xs.take q)).length + 1 : Nat)) (fun _ i => m - (intOf i).toNat)
  case atStart => exact ⟨0, rfl, Nat.zero_le _, by simp [lfs]⟩
  case round =>
    obtain ⟨q, rfl, hq, rfl⟩ := hrel
    obtain ⟨c, hc⟩ : ∃ c, (fd (xs.take q)).length = c := ⟨_, rfl⟩
    have hcl : c ≤ q := by
      rw [← hc]
      exact Nat.le_trans (fd_length _) (by rw [List.length_take]; omega)
    have Hcc := Lib.hid hc
    rw [hc]
    clear hc
    rcases Nat.lt_or_ge q m with hlt | hge
    · obtain ⟨b, off, rfl, hcell⟩ := R1.out (by intro h; have := Hm.out; rw [h] at this; simp at this; omega)
      have cc := hcell q (by rw [Hm.out]; exact hlt)
      have Hn := Lib.hid (fd_next xs q (by rw [Hm.out]; exact hlt))
      have i1 : (q : Int) < (m : Int) := by omega
      clear hcell
      obtain ⟨x, hx2⟩ : ∃ x, xs.getD q 0 = x := ⟨_, rfl⟩
      rw [hx2] at cc
      have Hx := Lib.hid hx2
      clear hx2
      by_cases h10 : x = 10
      · subst h10
        go_wp2
        go_roundw
        case rel => exact ⟨q + 1, by go_num, by omega, by rw [Hn.out, if_pos Hx.out, List.length_append, Hcc.out]; go_num⟩
        case measure => simp [intOf]; omega
      · have hb : (x == 10) = false := beq_eq_false_iff_ne.2 h10
        go_wp2
        go_roundw
        case rel => exact ⟨q + 1, by go_num, by omega, by rw [Hn.out, if_neg (by rw [Hx.out]; exact h10), List.append_nil, Hcc.out]⟩
        case measure => simp [intOf]; omega
    · have i1 : ¬ ((q : Int) < (m : Int)) := by omega
      have hf : (fd xs).length = c := by rw [← Hcc.out, List.take_of_length_le (by rw [Hm.out]; exact hge)]
      have Hf := Lib.hid hf
      clear hf
      go_wp2
      go_ret
      exact ⟨by rw [Hf.out]; rfl, rfl⟩

/-- The line and the column of a place. -/
def colX (xs : List Int) (a : Nat) : Int := (a : Int) - begL xs (cnt (fd xs) a)
theorem col_feed (xs : List Int) (k : Nat) (hk : k < xs.length) (h : xs.getD k 0 = 10) : cnt (fd xs) ((k + 1 : Nat) : Int) = cnt (fd xs) k + 1 ∧ colX xs (k + 1) = 0 := by
  have e : cnt (fd xs) ((k + 1 : Nat) : Int) = cnt (fd xs) k + 1 := by
    rw [cnt_take xs (k + 1) hk, cnt_take xs k (by omega), fd_next xs k hk, if_pos h]
    simp
  refine ⟨e, ?_⟩
  unfold colX
  rw [e, cnt_take xs k (by omega), begL_feed xs k hk h]
  omega
theorem col_next (xs : List Int) (k : Nat) (hk : k < xs.length) (h : xs.getD k 0 ≠ 10) : cnt (fd xs) ((k + 1 : Nat) : Int) = cnt (fd xs) k ∧ colX xs (k + 1) = colX xs k + 1 := by
  have e : cnt (fd xs) ((k + 1 : Nat) : Int) = cnt (fd xs) k := by
    rw [cnt_take xs (k + 1) hk, cnt_take xs k (by omega), fd_next xs k hk, if_neg h]
    simp
  refine ⟨e, ?_⟩
  unfold colX
  rw [e]
  omega
theorem col_range (xs : List Int) (k : Nat) (hk : k ≤ xs.length) : -xs.length ≤ colX xs k ∧ colX xs k ≤ xs.length := by
  have := begL_range xs (cnt (fd xs) k) (cnt_le _ _)
  unfold colX
  omega

def PlacePost (l c : Int) (w : World) (e : Ending) (w' : World) : Prop := e = .returned (.tuple #[.int .i64 l, .int .i64 c, .int .i64 0]) ∧ w = w'
set_option maxRecDepth 100000 in
theorem rplace_yes (v : Value) (xs : List Int) (hx : xs.length ≤ 1000000) (w : World) (h1 : Reads32 w v xs) (a : Nat) (ha : a ≤ xs.length) :
    Calls Tryd.prog 23 #[v, .int .i64 a] w (PlacePost (cnt (fd xs) a) (colX xs a) w) := by
  obtain ⟨ao, cap, rfl, r1⟩ := h1
  obtain ⟨m, hm⟩ : ∃ m, xs.length = m := ⟨_, rfl⟩
  have Hm := Lib.hid hm
  have R1 := Lib.hid r1
  rw [hm] at hx ha ⊢
  clear hm r1
  have j1 : ¬ ((a : Int) < 0) := by omega
  have j2 : ¬ ((m : Int) < (a : Int)) := by omega
  go_enter Tryd.func23, Tryd.ntmps23
  go_wp2
  go_loop [7, 8, 9] (fun l c i => ∃ q : Nat, i = .int .i64 q ∧ q ≤ a ∧ l = .int .i64 (cnt (fd xs) q) ∧ c = .int .i64 (colX xs q)) (fun _ _ i => a - (intOf i).toNat)
  case atStart => exact ⟨0, rfl, Nat.zero_le _, by rw [cnt_take xs 0 (Nat.zero_le _)]; simp [lfs], by unfold colX; rw [cnt_take xs 0 (Nat.zero_le _)]; simp [lfs, begL]⟩
  case round =>
    obtain ⟨q, rfl, hq, rfl, rfl⟩ := hrel
    have hcr := col_range xs q (by rw [Hm.out]; omega)
    have hcl : cnt (fd xs) q ≤ xs.length := Nat.le_trans (cnt_le _ _) (fd_length _)
    rw [Hm.out] at hcr hcl
    rcases Nat.lt_or_ge q a with hlt | hge
    · obtain ⟨b, off, rfl, hcell⟩ := R1.out (by intro h; have := Hm.out; rw [h] at this; simp at this; omega)
      have cc := hcell q (by rw [Hm.out]; omega)
      have Hf := Lib.hid (col_feed xs q (by rw [Hm.out]; omega))
      have Hn := Lib.hid (col_next xs q (by rw [Hm.out]; omega))
      have i1 : (q : Int) < (a : Int) := by omega
      have i2 : q < m := by omega
      clear hcell
      obtain ⟨c, hc⟩ : ∃ c, cnt (fd xs) q = c := ⟨_, rfl⟩
      obtain ⟨d, hd⟩ : ∃ d, colX xs q = d := ⟨_, rfl⟩
      obtain ⟨x, hx2⟩ : ∃ x, xs.getD q 0 = x := ⟨_, rfl⟩
      rw [hc] at hcl ⊢
      rw [hd] at hcr ⊢
      rw [hx2] at cc
      have Hc := Lib.hid hc
      have Hd := Lib.hid hd
      have Hx := Lib.hid hx2
      clear hc hd hx2
      have e1 : IntKind.i64.wrap (d + 1) = d + 1 := IntWalk.i64_in _ (by omega)
      have e2 : IntKind.i64.wrap ((c : Int) + 1) = (c : Int) + 1 := IntWalk.i64_in _ (by omega)
      by_cases h10 : x = 10
      · subst h10
        go_wp2
        go_roundw
        case rel => exact ⟨q + 1, by go_num, by omega, by rw [(Hf.out Hx.out).1, Hc.out]; go_num, by rw [(Hf.out Hx.out).2]⟩
        case measure => simp [intOf]; omega
      · have hb : (x == 10) = false := beq_eq_false_iff_ne.2 h10
        have hne : xs.getD q 0 ≠ 10 := by rw [Hx.out]; exact h10
        have Hne := Lib.hid (Hn.out hne)
        clear hne
        go_wp2
        go_roundw
        case rel => exact ⟨q + 1, by go_num, by omega, by rw [Hne.out.1, Hc.out], by rw [Hne.out.2, Hd.out]⟩
        case measure => simp [intOf]; omega
    · obtain rfl : q = a := by omega
      have i1 : ¬ ((q : Int) < (q : Int)) := by omega
      generalize cnt (fd xs) q = c at *
      generalize colX xs q = d at *
      go_wp2
      go_ret3
      exact ⟨rfl, rfl⟩
set_option maxRecDepth 100000 in
theorem rplace_no (v : Value) (xs : List Int) (_ : xs.length ≤ 1000000) (w : World) (h1 : Reads32 w v xs) (a : Int) (ha : ¬ (0 ≤ a ∧ a ≤ xs.length)) :
    Calls Tryd.prog 23 #[v, .int .i64 a] w fun e w' => e = .returned (.tuple #[.int .i64 0, .int .i64 0, .int .i64 3]) ∧ w = w' := by
  obtain ⟨ao, cap, rfl, _⟩ := h1
  obtain ⟨m, hm⟩ : ∃ m, xs.length = m := ⟨_, rfl⟩
  rw [hm] at ha ⊢
  clear hm
  by_cases c1 : a < 0
  · clear ha
    go_enter Tryd.func23, Tryd.ntmps23
    go_wp2
    go_ret3
    exact ⟨rfl, rfl⟩
  · have c2 : (m : Int) < a := by omega
    clear ha
    go_enter Tryd.func23, Tryd.ntmps23
    go_wp2
    go_ret3
    exact ⟨rfl, rfl⟩

/-- No place has that line and column. -/
theorem at_none (xs : List Int) (line col : Int) (h : ∀ q : Nat, q ≤ xs.length → ¬ ((cnt (fd xs) q : Int) = line ∧ colX xs q = col)) : atX xs line col = (0, 3) := by
  unfold atX
  split
  · rename_i hh
    exfalso
    have hb := begL_range xs line.toNat (by omega)
    have he := endL_range xs line.toNat (by omega)
    have hp := place_at xs line.toNat (begL xs line.toNat + col) (by omega) (by omega) (by omega)
    refine h (begL xs line.toNat + col).toNat (by omega) ?_
    have e : (((begL xs line.toNat + col).toNat : Nat) : Int) = begL xs line.toNat + col := by omega
    unfold colX
    rw [e, hp]
    omega
  · rfl
set_option maxRecDepth 100000 in
theorem rat_any (v : Value) (xs : List Int) (hx : xs.length ≤ 1000000) (w : World) (h1 : Reads32 w v xs) (line col : Int) :
    Calls Tryd.prog 25 #[v, .int .i64 line, .int .i64 col] w (AtPost (atX xs line col) w) := by
  have hP := fun a ha => rplace_yes v xs hx w h1 a ha
  have hcr := fun a ha => col_range xs a ha
  have hY : ∀ q : Nat, q ≤ xs.length → (cnt (fd xs) q : Int) = line → colX xs q = col → atX xs line col = ((q : Int), 0) := by
    intro q hq e1 e2
    have := at_place xs q hq
    rw [e1] at this
    unfold colX at e2
    rw [e2] at this
    exact this
  have hNo := at_none xs line col
  obtain ⟨ao, cap, rfl, _⟩ := h1
  obtain ⟨m, hm⟩ : ∃ m, xs.length = m := ⟨_, rfl⟩
  rw [hm] at hx hP hcr hY hNo ⊢
  have HP := Lib.hid hP
  have HY := Lib.hid hY
  have HN := Lib.hid hNo
  clear hm hP hcr hY hNo
  go_enter Tryd.func25, Tryd.ntmps25
  go_wp2
  go_loop [8] (fun i => ∃ q : Nat, i = .int .i64 q ∧ q ≤ m + 1 ∧ ∀ j : Nat, j < q → ¬ ((cnt (fd xs) j : Int) = line ∧ colX xs j = col)) (fun i => m + 1 - (intOf i).toNat)
  case atStart => exact ⟨0, rfl, Nat.zero_le _, fun j hj => absurd hj (Nat.not_lt_zero j)⟩
  case round =>
    obtain ⟨q, rfl, hq, hj⟩ := hrel
    have Hj := Lib.hid hj
    clear hj
    rcases Nat.lt_or_ge m q with hlt | hge
    · have i1 : ¬ ((q : Int) ≤ (m : Int)) := by omega
      have hn : atX xs line col = (0, 3) := HN.out fun j hj => Hj.out j (by omega)
      rw [hn]
      go_wp2
      go_ret2
      exact ⟨rfl, Below.refl _ _⟩
    · have i1 : (q : Int) ≤ (m : Int) := by omega
      have hp := HP.out q hge
      have hy := HY.out q hge
      obtain ⟨c, hc⟩ : ∃ c : Int, (cnt (fd xs) q : Int) = c := ⟨_, rfl⟩
      obtain ⟨d, hd⟩ : ∃ d, colX xs q = d := ⟨_, rfl⟩
      unfold PlacePost at hp
      rw [hc, hd] at hp hy
      have Hc := Lib.hid hc
      have Hd := Lib.hid hd
      have Hy := Lib.hid hy
      clear hc hd hy
      by_cases h1 : c = line
      · by_cases h2 : d = col
        · rw [Hy.out h1 h2]
          subst h1 h2
          go_wp2_with (go_at_call 23; refine hp.mono ?_; clear hp; rintro e _ ⟨rfl, rfl⟩)
          go_ret2
          exact ⟨rfl, Below.refl _ _⟩
        · have hb : (d == col) = false := beq_eq_false_iff_ne.2 h2
          go_wp2_with (go_at_call 23; refine hp.mono ?_; clear hp; rintro e _ ⟨rfl, rfl⟩)
          go_roundw
          case rel => exact ⟨q + 1, by go_num, by omega, fun j hj hh => by
            rcases Nat.lt_succ_iff_lt_or_eq.1 hj with h | rfl
            · exact Hj.out j h hh
            · rw [Hd.out] at hh; exact h2 hh.2⟩
          case measure => simp [intOf]; omega
      · have hb : (c == line) = false := beq_eq_false_iff_ne.2 h1
        go_wp2_with (go_at_call 23; refine hp.mono ?_; clear hp; rintro e _ ⟨rfl, rfl⟩)
        go_roundw
        case rel => exact ⟨q + 1, by go_num, by omega, fun j hj hh => by
          rcases Nat.lt_succ_iff_lt_or_eq.1 hj with h | rfl
          · exact Hj.out j h hh
          · rw [Hc.out] at hh; exact h1 hh.1⟩
        case measure => simp [intOf]; omega
end Go.Proofs.YtpldalmodcmfaaaDoor
