/- The program's May, mayAnywhere and Adds, of any operation. -/
import Derived.Test.YtnlajfdgpdijjaaOpsMayP
import Derived.Test.YtnlajfdgpdijjaaSpAsk
namespace Go.Proofs.Ytnlajfdgpdijjaa
open Go.RowKit

theorem OBox.newAt (s q n k a : Int) (t : ByteArray) (sp : Value) (w : World) (ty : TypeId) {N : Nat} (hN : w.heap.size = N) : OBox N s q n k a t sp w (w.alloc (.cells #[.int .i64 s, .int .i64 q, .int .i64 n, .int .i64 k, .int .i64 a, .string t, sp] ty)) := by
  subst hN
  exact OBox.new s q n k a t sp w ty
theorem len_le4 : ∀ (n : Nat) (l : List UInt8) (rs : List Int), l.length ≤ n → runesL l = some rs → l.length ≤ 4 * rs.length
  | 0, l, rs, h, _ => by omega
  | n + 1, l, rs, h, hr => by
    by_cases hne : l = []
    · subst hne; simp
    · cases hb : badL l with
      | true => rw [runesL_bad _ hne hb] at hr; cases hr
      | false =>
        obtain ⟨_, hK1, hK2, hK3⟩ := decodeL_bound _ hne hb
        rw [runesL_step _ hne hb] at hr
        cases hr2 : runesL (l.drop (Lib.decodeL l).2) with
        | none => rw [hr2] at hr; cases hr
        | some r2 =>
          rw [hr2] at hr
          obtain rfl : ((Lib.decodeL l).1 : Int) :: r2 = rs := by simpa using hr
          have ih := len_le4 n _ r2 (by rw [List.length_drop]; omega) hr2
          rw [List.length_drop] at ih
          rw [List.length_cons]
          omega
theorem mayT_len (l : List UInt8) : mayT l = decide (1 ≤ lenT l ∧ lenT l ≤ 200) := by
  unfold mayT
  by_cases h : 1 ≤ lenT l ∧ lenT l ≤ 200
  · rw [decide_eq_true h, Bool.and_true]
    refine decide_eq_true ?_
    unfold lenT at h
    cases hr : runesL l with
    | none => rw [hr] at h; simp at h
    | some rs =>
      rw [hr] at h
      have := len_le4 _ l rs (Nat.le_refl _) hr
      simp only at h
      omega
  · rw [decide_eq_false h, Bool.and_false]
theorem cntTo_mono (f : Nat → Bool) (k : Nat) : ∀ n, cntTo f k ≤ cntTo f (k + n)
  | 0 => Nat.le_refl _
  | n + 1 => Nat.le_trans (cntTo_mono f k n) (by show _ ≤ cntTo f (k + n) + _; omega)
/-- No place from k on: just if as many are ahead of k as there are. -/
theorem cnt_ahead {xs : List Sp} (h : sGood xs) (k : Nat) (hk : k ≤ 20000) : decide ((cntTo (sMark xs) k : Int) = (cntTo (sMark xs) 20000 : Nat)) = xs.all fun s => decide (s.1 + s.2 ≤ (k : Int)) := by
  rw [Bool.eq_iff_iff, decide_eq_true_eq, List.all_eq_true]
  constructor
  · intro e s hs
    have hg := h.1 s hs
    refine decide_eq_true ?_
    apply Classical.byContradiction
    intro hlt
    obtain ⟨i, hi⟩ : ∃ i : Nat, (i : Int) = s.1 + s.2 - 1 := ⟨(s.1 + s.2 - 1).toNat, by omega⟩
    have hm : sMark xs i = true := (sMark_iff xs i).2 ⟨s, hs, by omega, by omega⟩
    have h1 := cntTo_mono (sMark xs) k (i - k)
    have h2 := cntTo_mono (sMark xs) (i + 1) (20000 - (i + 1))
    rw [show k + (i - k) = i by omega] at h1
    rw [show i + 1 + (20000 - (i + 1)) = 20000 by omega] at h2
    have h3 : cntTo (sMark xs) (i + 1) = cntTo (sMark xs) i + 1 := by
      show cntTo _ i + _ = _
      rw [if_pos hm]
    omega
  · intro e
    have hn := cntTo_none (f := sMark xs) (k := k) (n := 20000 - k) (by
      intro i hi _
      cases hm : sMark xs i with
      | false => rfl
      | true =>
        obtain ⟨s, hs, h1, h2⟩ := (sMark_iff xs i).1 hm
        have := of_decide_eq_true (e s hs)
        omega)
    rw [show k + (20000 - k) = 20000 by omega] at hn
    omega
set_option maxRecDepth 100000 in
set_option maxHeartbeats 4000000 in
theorem insMay_any (s q n a size : Int) (t : ByteArray) (ao : Option Addr) (x cap : Nat) (w : World) (hL : LenAt t w) (hs0 : 0 ≤ size) (hs1 : size ≤ 20000) :
    Calls Try.prog 84 #[.agg #[], .agg #[.int .i64 s, .int .i64 q, .int .i64 n, .int .i64 1, .int .i64 a, .string t, .slice ao x cap], .int .i64 size] w fun e w' =>
      e = .returned (.bool (decide (0 ≤ a ∧ a ≤ size) && decide (1 ≤ lenT t.data.toList ∧ lenT t.data.toList ≤ 200) && decide (x = 0) && decide (size + lenT t.data.toList ≤ 20000))) ∧ Below w.heap.size w w' := by
  have hB0 := (Below.refl w.heap.size w).alloc (Nat.le_refl _) (.cells #[] 93)
  have hB := hB0.alloc hB0.size (.cells #[.int .i64 s, .int .i64 q, .int .i64 n, .int .i64 1, .int .i64 a, .string t, .slice ao x cap] 26)
  have hC := hL _ hB
  have hbx := OBox.newAt s q n 1 a t (.slice ao x cap) (w.alloc (.cells #[] 93)) 26 (N := w.heap.size + 1) (by simp)
  have hlo := lenT_ge t.data.toList
  rw [lenL_lenT] at hC
  clear hL hB0
  generalize lenT t.data.toList = m at *
  obtain ⟨r, hr⟩ : ∃ r, (decide (0 ≤ a ∧ a ≤ size) && decide (1 ≤ m ∧ m ≤ 200) && decide (x = 0) && decide (size + m ≤ 20000)) = r := ⟨_, rfl⟩
  rw [hr]
  have HR := Lib.hid (show r = decide ((0 ≤ a ∧ a ≤ size) ∧ (1 ≤ m ∧ m ≤ 200) ∧ x = 0 ∧ size + m ≤ 20000) by rw [← hr, Bool.eq_iff_iff]; simp only [Bool.and_eq_true, decide_eq_true_eq, and_assoc])
  have hI := fun W => mayIns_any m W
  clear hr
  rcases (show ¬ 0 ≤ a ∨ (0 ≤ a ∧ ¬ a ≤ size) ∨ (0 ≤ a ∧ a ≤ size ∧ ¬ (1 ≤ m ∧ m ≤ 200)) ∨ (0 ≤ a ∧ a ≤ size ∧ (1 ≤ m ∧ m ≤ 200) ∧ ¬ x = 0) ∨ (0 ≤ a ∧ a ≤ size ∧ (1 ≤ m ∧ m ≤ 200) ∧ x = 0 ∧ ¬ size + m ≤ 20000) ∨ (0 ≤ a ∧ a ≤ size ∧ (1 ≤ m ∧ m ≤ 200) ∧ x = 0 ∧ size + m ≤ 20000) by omega) with p1 | ⟨p1, p2⟩ | ⟨p1, p2, p3⟩ | ⟨p1, p2, p3, p4⟩ | ⟨p1, p2, p3, rfl, p5⟩ | ⟨p1, p2, p3, rfl, p5⟩
  · have HN := Lib.hid (show ¬ ((0 ≤ a ∧ a ≤ size) ∧ (1 ≤ m ∧ m ≤ 200) ∧ x = 0 ∧ size + m ≤ 20000) by omega)
    clear hI
    go_enter Try.func84, Try.ntmps84
    go_wp2_with fail
    refine hC.mono ?_
    rintro e w1 ⟨rfl, hb⟩
    replace hbx := hbx.keep hb
    obtain ⟨c0, c1, c2, c3, c4, c5, c6, -⟩ := id hbx
    have hz := hB.trans (hb.mono hB.size)
    clear hb hC hB hbx
    go_wp2
    go_ret
    exact ⟨ret_bool (HR.out.trans (decide_eq_false HN.out)).symm, hz⟩
  · have HN := Lib.hid (show ¬ ((0 ≤ a ∧ a ≤ size) ∧ (1 ≤ m ∧ m ≤ 200) ∧ x = 0 ∧ size + m ≤ 20000) by omega)
    clear hI
    go_enter Try.func84, Try.ntmps84
    go_wp2_with fail
    refine hC.mono ?_
    rintro e w1 ⟨rfl, hb⟩
    replace hbx := hbx.keep hb
    obtain ⟨c0, c1, c2, c3, c4, c5, c6, -⟩ := id hbx
    have hz := hB.trans (hb.mono hB.size)
    clear hb hC hB hbx
    go_wp2
    go_ret
    exact ⟨ret_bool (HR.out.trans (decide_eq_false HN.out)).symm, hz⟩
  · have HN := Lib.hid (show ¬ ((0 ≤ a ∧ a ≤ size) ∧ (1 ≤ m ∧ m ≤ 200) ∧ x = 0 ∧ size + m ≤ 20000) by omega)
    rw [decide_eq_false p3] at hI
    clear p3
    go_enter Try.func84, Try.ntmps84
    go_wp2_with fail
    refine hC.mono ?_
    rintro e w1 ⟨rfl, hb⟩
    replace hbx := hbx.keep hb
    obtain ⟨c0, c1, c2, c3, c4, c5, c6, -⟩ := id hbx
    have hz := hB.trans (hb.mono hB.size)
    clear hb hC hB hbx
    go_wp2_with fail
    refine (hI _).mono ?_
    rintro e _ ⟨rfl, rfl⟩
    go_wp2
    go_ret
    exact ⟨ret_bool (HR.out.trans (decide_eq_false HN.out)).symm, hz⟩
  · have HN := Lib.hid (show ¬ ((0 ≤ a ∧ a ≤ size) ∧ (1 ≤ m ∧ m ≤ 200) ∧ x = 0 ∧ size + m ≤ 20000) by omega)
    rw [decide_eq_true p3] at hI
    have p6 : ((x : Int) == 0) = false := beq_eq_false_iff_ne.2 (by omega)
    clear p4
    go_enter Try.func84, Try.ntmps84
    go_wp2_with fail
    refine hC.mono ?_
    rintro e w1 ⟨rfl, hb⟩
    replace hbx := hbx.keep hb
    obtain ⟨c0, c1, c2, c3, c4, c5, c6, -⟩ := id hbx
    have hz := hB.trans (hb.mono hB.size)
    clear hb hC hB hbx
    go_wp2_with fail
    refine (hI _).mono ?_
    rintro e _ ⟨rfl, rfl⟩
    go_wp2
    go_ret
    exact ⟨ret_bool (HR.out.trans (decide_eq_false HN.out)).symm, hz⟩
  · have HN := Lib.hid (show ¬ ((0 ≤ a ∧ a ≤ size) ∧ (1 ≤ m ∧ m ≤ 200) ∧ (0 : Nat) = 0 ∧ size + m ≤ 20000) by omega)
    rw [decide_eq_true p3] at hI
    go_enter Try.func84, Try.ntmps84
    go_wp2_with fail
    refine hC.mono ?_
    rintro e w1 ⟨rfl, hb⟩
    replace hbx := hbx.keep hb
    obtain ⟨c0, c1, c2, c3, c4, c5, c6, -⟩ := id hbx
    have hz := hB.trans (hb.mono hB.size)
    clear hb hC hB hbx
    go_wp2_with fail
    refine (hI _).mono ?_
    rintro e _ ⟨rfl, rfl⟩
    go_wp2
    go_ret
    exact ⟨ret_bool ((decide_eq_false (by omega)).trans (HR.out.trans (decide_eq_false HN.out)).symm), hz⟩
  · have HN := Lib.hid (show ((0 ≤ a ∧ a ≤ size) ∧ (1 ≤ m ∧ m ≤ 200) ∧ (0 : Nat) = 0 ∧ size + m ≤ 20000) from ⟨⟨p1, p2⟩, p3, rfl, p5⟩)
    rw [decide_eq_true p3] at hI
    go_enter Try.func84, Try.ntmps84
    go_wp2_with fail
    refine hC.mono ?_
    rintro e w1 ⟨rfl, hb⟩
    replace hbx := hbx.keep hb
    obtain ⟨c0, c1, c2, c3, c4, c5, c6, -⟩ := id hbx
    have hz := hB.trans (hb.mono hB.size)
    clear hb hC hB hbx
    go_wp2_with fail
    refine (hI _).mono ?_
    rintro e _ ⟨rfl, rfl⟩
    go_wp2
    go_ret
    exact ⟨ret_bool (HR.out.trans (decide_eq_true HN.out)).symm, hz⟩
end Go.Proofs.Ytnlajfdgpdijjaa
