/- The document's spans: Two. -/
import Derived.Test.YtlofeaodpblagaaRefSpOpen
namespace Go.Proofs.Ytlofeaodpblagaa
open Go.RowKit

/-- Of two marks what is asked of both. -/
def twoB (wh : Nat) (x y : Bool) : Bool := if wh = 0 then x || y else if wh = 1 then x && y else x && !y
/-- What is marked when the first k places are gone through. -/
def tUpTo (f : Nat → Bool) (k j : Nat) : Bool := decide (j < k) && f j
theorem tUpTo_zero (f : Nat → Bool) : tUpTo f 0 = fun _ => false := by
  funext j
  unfold tUpTo
  rw [decide_eq_false (Nat.not_lt_zero j), Bool.false_and]
theorem tUpTo_next (f : Nat → Bool) (k : Nat) : (fun j => if j = k then f k else tUpTo f k j) = tUpTo f (k + 1) := by
  funext j
  unfold tUpTo
  by_cases e : j = k
  · subst e
    rw [if_pos rfl, decide_eq_true (Nat.lt_succ_self j), Bool.true_and]
  · rw [if_neg e, lt_succ_ne e]
theorem tUpTo_end (f : Nat → Bool) (j : Nat) (hj : j < 20000) : tUpTo f 20000 j = f j := by
  unfold tUpTo
  rw [decide_eq_true hj, Bool.true_and]
def twoL (wh : Nat) (xs ys : List Sp) : List Sp := sMade (fun j => twoB wh (sMark xs j) (sMark ys j)) 20000
set_option maxRecDepth 100000 in
set_option maxHeartbeats 4000000 in
theorem rSpTwo_any (wh : Nat) (z : Int) (hwh : (z = 0 ∧ wh = 0) ∨ (z = 1 ∧ wh = 1) ∨ (z = 2 ∧ wh = 2)) (u v : Value) (xs ys : List Sp) (w : World) (h : SpAt w u xs) (h' : SpAt w v ys) (hx : xs.length ≤ 1000000000) (hy : ys.length ≤ 1000000000) :
    Calls Try.prog 27 #[u, v, .int .i64 z] w (SpOkPost (sMay xs && sMay ys) (twoL wh xs ys) w) := by
  have hMx := rSpMay_any u xs w h hx
  have hMy := fun W hW => rSpMay_any v ys W hW hy
  have H := Lib.hid h
  have H' := Lib.hid h'
  obtain ⟨ao, cap, rfl, _⟩ := h
  obtain ⟨ao', cap', rfl, _⟩ := h'
  obtain ⟨L, hL⟩ : ∃ L, xs.length = L := ⟨_, rfl⟩
  obtain ⟨L', hL'⟩ : ∃ L, ys.length = L := ⟨_, rfl⟩
  rw [hL] at H hMx ⊢
  rw [hL'] at H' hMy ⊢
  cases hm : sMay xs with
  | false =>
    rw [hm] at hMx
    go_enter Try.func27, Try.ntmps27
    go_wp2_with fail
    refine hMx.mono ?_
    clear hMx
    rintro e w1 ⟨rfl, hb⟩
    go_wp2
    go_ret2
    exact SpOkPost.no rfl hb
  | true =>
  rw [hm] at hMx
  cases hm' : sMay ys with
  | false =>
    rw [hm'] at hMy
    go_enter Try.func27, Try.ntmps27
    go_wp2_with fail
    refine hMx.mono ?_
    clear hMx
    rintro e w1 ⟨rfl, hb⟩
    go_wp2_with fail
    refine (hMy w1 (H'.out.below hb)).mono ?_
    rintro e w2 ⟨rfl, hb2⟩
    have HP := Lib.hid (hb.trans (hb2.mono hb.size))
    clear hb hb2
    go_wp2
    go_ret2
    exact SpOkPost.no rfl HP.out
  | true =>
  rw [hm'] at hMy
  have gx := (sMay_good xs).1 hm
  have gy := (sMay_good ys).1 hm'
  have hMkx := fun W hW => rMarks_any (.slice ao L cap) xs W hW hx
  have hMky := fun W hW => rMarks_any (.slice ao' L' cap') ys W hW hy
  clear hm hm'
  go_enter Try.func27, Try.ntmps27
  go_wp2_with fail
  refine hMx.mono ?_
  clear hMx
  rintro e w1 ⟨rfl, hb1⟩
  go_wp2_with fail
  refine (hMy w1 (H'.out.below hb1)).mono ?_
  clear hMy
  rintro e w2 ⟨rfl, hb2⟩
  have hb := hb1.trans (hb2.mono hb1.size)
  clear hb1 hb2
  have hMkx := hMkx w2 (H.out.below hb)
  go_wp2_with fail
  refine hMkx.mono ?_
  clear hMkx
  rintro e w3 ⟨mv, rfl, hmk, hb3⟩
  rw [sGood_ok gx]
  have hm3 := hmk (sGood_ok gx)
  have hb := hb.trans (hb3.mono hb.size)
  clear hb3 hmk
  have hMky := hMky w3 (H'.out.below hb)
  go_wp2_with fail
  refine hMky.mono ?_
  clear hMky
  rintro e w4 ⟨nv, rfl, hnk, hb4⟩
  rw [sGood_ok gy]
  have hn4 := hnk (sGood_ok gy)
  have HM := Lib.hid (hm3.below hb4)
  have HN4 := Lib.hid hn4
  have HB := Lib.hid (hb.trans (hb4.mono hb.size))
  have hB := run_makeB w4
  have HB0 := Lib.hid (MB.new w4)
  clear hb hb4 hnk hm3 hn4 gx gy
  go_wp2
  clear hB
  generalize w4.alloc (.cells (bArr fun _ => false) 4) = w5 at *
  obtain ⟨f, hf0⟩ : ∃ f, sMark xs = f := ⟨_, rfl⟩
  obtain ⟨g, hg0⟩ : ∃ g, sMark ys = g := ⟨_, rfl⟩
  obtain ⟨F, hF⟩ : ∃ F : Nat → Bool, F = fun j => twoB wh (f j) (g j) := ⟨_, rfl⟩
  have HLE := Lib.hid (show twoL wh xs ys = sMade (tUpTo F 20000) 20000 by
    unfold twoL
    rw [hf0, hg0, ← hF]
    exact sMade_congr fun j hj => (tUpTo_end _ j hj).symm)
  have HF := Lib.hid (show ∀ j, F j = twoB wh (f j) (g j) from fun j => by rw [hF])
  clear hF
  rw [hf0] at HM
  rw [hg0] at HN4
  clear hf0 hg0
  obtain ⟨_, _, rfl, _⟩ := id HM.out
  obtain ⟨_, _, rfl, _⟩ := id HN4.out
  go_loopw [13] (fun i wr => ∃ k : Nat, i = .int .i64 k ∧ k ≤ 20000 ∧ MB w4.heap.size (tUpTo F k) w4 wr) (fun i _ => 20000 - (intOf i).toNat)
  case atStart => exact ⟨0, rfl, Nat.zero_le _, by rw [tUpTo_zero]; exact HB0.out⟩
  case round =>
    obtain ⟨k, rfl, hk, hbx⟩ := hrel
    have HBX := Lib.hid hbx
    clear hbx
    rcases Nat.lt_or_ge k 20000 with hlt | hge
    · obtain ⟨b, off, c1, hv, hc⟩ := (HM.out.below HBX.out.2).at hlt
      obtain ⟨b', off', c1', hv', hc'⟩ := (HN4.out.below HBX.out.2).at hlt
      cases hv
      cases hv'
      have hi : (0 : Int) ≤ (k : Int) ∧ (k : Int) < 20000 := ⟨by omega, by omega⟩
      have hN := HBX.out.set k (F k)
      rw [tUpTo_next, HF.out k] at hN
      have hcell := HBX.out.cell k hlt
      have hfro := HBX.out.frozen k
      generalize f k = x at *
      generalize g k = y at *
      have HN := Lib.hid hN
      clear hN
      rcases hwh with ⟨rfl, rfl⟩ | ⟨rfl, rfl⟩ | ⟨rfl, rfl⟩ <;> cases x <;> cases y
      all_goals
        go_wp2
        exact ⟨⟨k + 1, by go_num, by omega, HN.out⟩, by simp [intOf]; omega⟩
    · obtain rfl : k = 20000 := by omega
      have hD := rSpMade_any _ 20000 _ _ (HBX.out.reads 20000) (Nat.le_refl _)
      rw [← HLE.out] at hD
      have HW := Lib.hid (HB.out.trans (HBX.out.2.mono HB.out.size))
      clear HBX HLE
      go_wp2_with fail
      refine hD.mono ?_
      clear hD
      rintro e w6 ⟨rv, rfl, hr, hb4⟩
      have HP := Lib.hid (SpOkPost.yes (b := true && true) rfl hr (HW.out.trans (hb4.mono HW.out.size)))
      clear hr hb4
      go_wp2
      go_ret2
      exact HP.out
end Go.Proofs.Ytlofeaodpblagaa
