/- The document's spans: Open, Shut. -/
import Derived.Test.YtlofeaodpblagaaRefSpNorm
namespace Go.Proofs.Ytlofeaodpblagaa
open Go.RowKit

theorem sGood_ok {xs : List Sp} (h : sGood xs) : xs.all spOk = true := by
  rw [List.all_eq_true]
  intro s hs
  have := h.1 s hs
  exact decide_eq_true (by omega)
/-- What is marked of the opened when the first k places are gone through. -/
def oUpTo (f : Nat → Bool) (a n k j : Nat) : Bool := if j < a then decide (j < k) && f j else if j < a + n then false else decide (j - n < k) && f (j - n)
theorem oUpTo_zero (f : Nat → Bool) (a n : Nat) : oUpTo f a n 0 = fun _ => false := by
  funext j
  unfold oUpTo
  rw [decide_eq_false (Nat.not_lt_zero j), decide_eq_false (Nat.not_lt_zero (j - n)), Bool.false_and, Bool.false_and]
  split
  · rfl
  · split <;> rfl
theorem lt_succ_and {f : Nat → Bool} {k : Nat} (hf : f k = false) (j : Nat) : (decide (j < k + 1) && f j) = (decide (j < k) && f j) := by
  by_cases e : j = k
  · subst e; rw [hf, Bool.and_false, Bool.and_false]
  · rw [show decide (j < k + 1) = decide (j < k) from decide_eq_decide.2 (by omega)]
theorem lt_succ_ne {k j : Nat} (e : j ≠ k) : decide (j < k + 1) = decide (j < k) := decide_eq_decide.2 (by omega)
theorem oUpTo_skip {f : Nat → Bool} (a n : Nat) {k : Nat} (hf : f k = false) : oUpTo f a n (k + 1) = oUpTo f a n k := by
  funext j
  unfold oUpTo
  rw [lt_succ_and hf, lt_succ_and hf]
theorem oUpTo_low {f : Nat → Bool} {a : Nat} (n : Nat) {k : Nat} (hf : f k = true) (hk : k < a) : (fun j => if j = k then true else oUpTo f a n k j) = oUpTo f a n (k + 1) := by
  funext j
  unfold oUpTo
  by_cases e : j = k
  · subst e
    rw [if_pos rfl, if_pos hk, hf, decide_eq_true (Nat.lt_succ_self j)]
    rfl
  · rw [if_neg e]
    by_cases g : j < a
    · rw [if_pos g, if_pos g, lt_succ_ne e]
    · rw [if_neg g, if_neg g]
      by_cases q : j < a + n
      · rw [if_pos q, if_pos q]
      · rw [if_neg q, if_neg q, lt_succ_ne (show j - n ≠ k by omega)]
theorem oUpTo_high {f : Nat → Bool} {a : Nat} (n : Nat) {k : Nat} (hf : f k = true) (hk : a ≤ k) : (fun j => if j = k + n then true else oUpTo f a n k j) = oUpTo f a n (k + 1) := by
  funext j
  unfold oUpTo
  by_cases e : j = k + n
  · subst e
    rw [if_pos rfl, if_neg (by omega), if_neg (by omega), Nat.add_sub_cancel, hf, decide_eq_true (Nat.lt_succ_self k)]
    rfl
  · rw [if_neg e]
    by_cases g : j < a
    · rw [if_pos g, if_pos g, lt_succ_ne (show j ≠ k by omega)]
    · rw [if_neg g, if_neg g]
      by_cases q : j < a + n
      · rw [if_pos q, if_pos q]
      · rw [if_neg q, if_neg q, lt_succ_ne (show j - n ≠ k by omega)]
theorem oUpTo_end (f : Nat → Bool) (a n : Nat) (j : Nat) (hj : j < 20000) : oUpTo f a n 20000 j = sOpenM f a n j := by
  unfold oUpTo sOpenM
  rw [decide_eq_true hj, decide_eq_true (show j - n < 20000 by omega), Bool.true_and, Bool.true_and]
/-- Does a place come to be above the greatest, told of all? -/
def fullB (f : Nat → Bool) (a n : Nat) : Bool := (List.range 20000).any fun i => decide (a ≤ i) && f i && decide (20000 ≤ i + n)
theorem fullB_iff (f : Nat → Bool) (a n : Nat) : fullB f a n = true ↔ sFull f a n := by
  unfold fullB sFull
  rw [List.any_eq_true]
  constructor
  · rintro ⟨i, h1, h2⟩
    rw [Bool.and_eq_true, Bool.and_eq_true, decide_eq_true_eq, decide_eq_true_eq] at h2
    exact ⟨i, h2.1.1, List.mem_range.1 h1, h2.1.2, h2.2⟩
  · rintro ⟨i, h1, h2, h3, h4⟩
    exact ⟨i, List.mem_range.2 h2, by rw [Bool.and_eq_true, Bool.and_eq_true, decide_eq_true_eq, decide_eq_true_eq]; exact ⟨⟨h1, h3⟩, h4⟩⟩
/-- Which error Open tells. -/
def spArgs (xs : List Sp) (p n : Int) : Bool := sMay xs && decide (0 ≤ p ∧ p ≤ 20000 ∧ 0 ≤ n)
def opC (xs : List Sp) (p n : Int) : Int := if spArgs xs p n then (if fullB (sMark xs) p.toNat n.toNat then 4 else 0) else 1
def opL (xs : List Sp) (p n : Int) : List Sp := sMade (sOpenM (sMark xs) p.toNat n.toNat) 20000
def OpenPost (xs : List Sp) (p n : Int) (w : World) (e : Ending) (w' : World) : Prop :=
  ∃ v, e = .returned (.tuple #[v, .int .i64 (opC xs p n)]) ∧ SpAt w' v (if opC xs p n = 0 then opL xs p n else []) ∧ Below w.heap.size w w'
theorem OpenPost.no {xs : List Sp} {p n : Int} {w w' : World} {c : Int} (h : opC xs p n = c) (hc : c ≠ 0) (hb : Below w.heap.size w w') : OpenPost xs p n w (.returned (.tuple #[.slice none 0 0, .int .i64 c])) w' :=
  ⟨_, by rw [h], by rw [h, if_neg hc]; exact SpAt.nil _, hb⟩
theorem OpenPost.yes {xs : List Sp} {p n : Int} {w w' : World} {v : Value} (h : opC xs p n = 0) (hv : SpAt w' v (opL xs p n)) (hb : Below w.heap.size w w') : OpenPost xs p n w (.returned (.tuple #[v, .int .i64 0])) w' :=
  ⟨_, by rw [h], by rw [h, if_pos rfl]; exact hv, hb⟩
theorem spArgs_no {xs : List Sp} {p n : Int} (h : ¬ (sMay xs = true ∧ 0 ≤ p ∧ p ≤ 20000 ∧ 0 ≤ n)) : spArgs xs p n = false := by
  cases hz : spArgs xs p n with
  | false => rfl
  | true =>
    obtain ⟨h1, h2⟩ := Bool.and_eq_true_iff.1 hz
    exact absurd ⟨h1, of_decide_eq_true h2⟩ h
set_option maxRecDepth 100000 in
set_option maxHeartbeats 4000000 in
theorem rSpOpen_any (v : Value) (xs : List Sp) (p n : Int) (w : World) (h : SpAt w v xs) (hx : xs.length ≤ 1000000000) (hn1 : n ≤ 9223372036854775807) :
    Calls Try.prog 21 #[v, .int .i64 p, .int .i64 n] w (OpenPost xs p n w) := by
  have hMay := rSpMay_any v xs w h hx
  have H := Lib.hid h
  have hNo : ¬ (sMay xs = true ∧ 0 ≤ p ∧ p ≤ 20000 ∧ 0 ≤ n) → ∀ W, Below w.heap.size w W → OpenPost xs p n w (.returned (.tuple #[.slice none 0 0, .int .i64 1])) W := fun g W hb => OpenPost.no (by unfold opC; rw [spArgs_no g]; rfl) (by decide) hb
  have HNo := Lib.hid hNo
  clear hNo
  obtain ⟨ao, cap, rfl, _⟩ := h
  obtain ⟨L, hL⟩ : ∃ L, xs.length = L := ⟨_, rfl⟩
  rw [hL] at H hMay ⊢
  cases hm : sMay xs with
  | false =>
    rw [hm] at hMay
    go_enter Try.func21, Try.ntmps21
    go_wp2_with fail
    refine hMay.mono ?_
    clear hMay
    rintro e w1 ⟨rfl, hb⟩
    go_wp2
    go_ret2
    exact HNo.out (fun q => by rw [hm] at q; exact absurd q.1 (by decide)) _ hb
  | true =>
    rw [hm] at hMay
    have hgood := (sMay_good xs).1 hm
    have hMk := fun W hW => rMarks_any (.slice ao L cap) xs W hW hx
    go_enter Try.func21, Try.ntmps21
    go_wp2_with fail
    refine hMay.mono ?_
    clear hMay
    rintro e w1 ⟨rfl, hb⟩
    have HB := Lib.hid hb
    have hMk := hMk w1 (H.out.below hb)
    clear hb
    rcases Bool.eq_false_or_eq_true (decide (p < 0)) with b0 | b0
    · have g0 := of_decide_eq_true b0
      go_wp2
      go_ret2
      exact HNo.out (by omega) _ HB.out
    have g0 := of_decide_eq_false b0
    rcases Bool.eq_false_or_eq_true (decide ((20000 : Int) < p)) with b1 | b1
    · have g1 := of_decide_eq_true b1
      go_wp2
      go_ret2
      exact HNo.out (by omega) _ HB.out
    have g1 := of_decide_eq_false b1
    rcases Bool.eq_false_or_eq_true (decide (n < 0)) with b2 | b2
    · have g2 := of_decide_eq_true b2
      go_wp2
      go_ret2
      exact HNo.out (by omega) _ HB.out
    have g2 := of_decide_eq_false b2
    obtain ⟨a, rfl⟩ : ∃ a : Nat, p = a := ⟨p.toNat, by omega⟩
    obtain ⟨m, rfl⟩ : ∃ m : Nat, n = m := ⟨n.toNat, by omega⟩
    have hC : spArgs xs (a : Int) (m : Int) = true := by
      unfold spArgs
      rw [hm, decide_eq_true (by omega)]
      rfl
    have HCF := Lib.hid (show sFull (sMark xs) a m → opC xs (a : Int) (m : Int) = 4 from fun q => by
      unfold opC
      rw [if_pos hC, Int.toNat_natCast, Int.toNat_natCast, if_pos ((fullB_iff _ _ _).2 q)])
    have HCT := Lib.hid (show ¬ sFull (sMark xs) a m → opC xs (a : Int) (m : Int) = 0 from fun q => by
      unfold opC
      rw [if_pos hC, Int.toNat_natCast, Int.toNat_natCast, if_neg (fun g => q ((fullB_iff _ _ _).1 g))])
    have HLE := Lib.hid (show opL xs (a : Int) (m : Int) = sMade (oUpTo (sMark xs) a m 20000) 20000 by
      unfold opL
      rw [Int.toNat_natCast, Int.toNat_natCast]
      exact sMade_congr fun j hj => (oUpTo_end _ _ _ j hj).symm)
    go_wp2_with fail
    refine hMk.mono ?_
    clear hMk
    rintro e w2 ⟨mv, rfl, hmk, hb2⟩
    have HM := Lib.hid (hmk (sGood_ok hgood))
    have HB2 := Lib.hid (HB.out.trans (hb2.mono HB.out.size))
    rw [sGood_ok hgood]
    have hB := run_makeB w2
    have HB0 := Lib.hid (MB.new w2)
    clear hmk hb2 hgood hC hm HB
    go_wp2
    clear hB b0 b1 b2
    generalize w2.alloc (.cells (bArr fun _ => false) 4) = w3 at *
    obtain ⟨f, hf0⟩ : ∃ f, sMark xs = f := ⟨_, rfl⟩
    rw [hf0] at HM HCF HCT HLE
    clear hf0
    obtain ⟨_, _, rfl, _⟩ := id HM.out
    go_loopw [11] (fun i wr => ∃ k : Nat, i = .int .i64 k ∧ k ≤ 20000 ∧ (∀ j, j < k → a ≤ j → f j = true → j + m < 20000) ∧ MB w2.heap.size (oUpTo f a m k) w2 wr) (fun i _ => 20000 - (intOf i).toNat)
    case atStart => exact ⟨0, rfl, Nat.zero_le _, fun j hj => absurd hj (Nat.not_lt_zero j), by rw [oUpTo_zero]; exact HB0.out⟩
    case round =>
      obtain ⟨k, rfl, hk, hnf, hbx⟩ := hrel
      have HNF := Lib.hid hnf
      have HBX := Lib.hid hbx
      clear hnf hbx
      rcases Nat.lt_or_ge k 20000 with hlt | hge
      · obtain ⟨b, off, cap', hv, hc⟩ := (HM.out.below HBX.out.2).at hlt
        cases hv
        have hi : (0 : Int) ≤ (k : Int) ∧ (k : Int) < 20000 := ⟨by omega, by omega⟩
        cases hf : f k with
        | false =>
          rw [hf] at hc
          have HN := Lib.hid (oUpTo_skip a m hf)
          have HNF2 := Lib.hid (show ∀ j, j < k + 1 → a ≤ j → f j = true → j + m < 20000 from fun j q1 q2 q3 => by
            by_cases e : j = k
            · subst e; rw [hf] at q3; cases q3
            · exact HNF.out j (by omega) q2 q3)
          clear hf
          go_wp2
          exact ⟨⟨k + 1, by go_num, by omega, HNF2.out, by rw [HN.out]; exact HBX.out⟩, by simp [intOf]; omega⟩
        | true =>
          rw [hf] at hc
          by_cases hka : k < a
          · have hN := HBX.out.set k true
            rw [oUpTo_low m hf hka] at hN
            have HN := Lib.hid hN
            have hcell := HBX.out.cell k hlt
            have hfro := HBX.out.frozen k
            have HNF2 := Lib.hid (show ∀ j, j < k + 1 → a ≤ j → f j = true → j + m < 20000 from fun j q1 q2 q3 => absurd q2 (by omega))
            clear hf hN
            have hka' : (k : Int) < (a : Int) := by omega
            go_wp2
            exact ⟨⟨k + 1, by go_num, by omega, HNF2.out, HN.out⟩, by simp [intOf]; omega⟩
          · have hka' : ¬ (k : Int) < (a : Int) := by omega
            have hw : IntKind.i64.wrap (19999 - (k : Int)) = 19999 - (k : Int) := by simp only [IntKind.wrap_i64]; omega
            by_cases hfl : 19999 - (k : Int) < (m : Int)
            · have HP := Lib.hid (OpenPost.no (HCF.out ⟨k, by omega, hlt, hf, by omega⟩) (by decide) (HB2.out.trans (HBX.out.2.mono HB2.out.size)))
              clear hf
              go_wp2
              go_ret2
              exact HP.out
            · have hN := HBX.out.set (k + m) true
              rw [oUpTo_high m hf (by omega)] at hN
              have HN := Lib.hid hN
              have hcell := HBX.out.cell (k + m) (by omega)
              have hfro := HBX.out.frozen (k + m)
              have HNF2 := Lib.hid (show ∀ j, j < k + 1 → a ≤ j → f j = true → j + m < 20000 from fun j q1 q2 q3 => by
                by_cases e : j = k
                · subst e; omega
                · exact HNF.out j (by omega) q2 q3)
              have hw2 : IntKind.i64.wrap ((k : Int) + (m : Int)) = (k : Int) + (m : Int) := by simp only [IntKind.wrap_i64]; omega
              have hi2 : (0 : Int) ≤ (k : Int) + (m : Int) ∧ (k : Int) + (m : Int) < 20000 := ⟨by omega, by omega⟩
              have hnt : ((k : Int) + (m : Int)).toNat = k + m := by omega
              clear hf hN
              go_wp2
              exact ⟨⟨k + 1, by go_num, by omega, HNF2.out, HN.out⟩, by simp [intOf]; omega⟩
      · obtain rfl : k = 20000 := by omega
        have hD := rSpMade_any _ 20000 _ _ (HBX.out.reads 20000) (Nat.le_refl _)
        rw [← HLE.out] at hD
        have h0 := HCT.out (by
          rintro ⟨j, q1, q2, q3, q4⟩
          have := HNF.out j q2 q1 q3
          omega)
        have HW := Lib.hid (HB2.out.trans (HBX.out.2.mono HB2.out.size))
        have H0 := Lib.hid h0
        clear h0 HBX HNF HCT HCF HLE
        go_wp2_with fail
        refine hD.mono ?_
        clear hD
        rintro e w4 ⟨rv, rfl, hr, hb4⟩
        have HP := Lib.hid (OpenPost.yes H0.out hr (HW.out.trans (hb4.mono HW.out.size)))
        clear hr hb4
        go_wp2
        go_ret2
        exact HP.out
end Go.Proofs.Ytlofeaodpblagaa
