/- Texts of this proof, joined. -/
import Derived.Test.YtmedickofiielaaGOpsKind
import Derived.Test.YtmedickofiielaaGSpEdges
import Derived.Test.YtmedickofiielaaGSpansPlain
import Derived.Test.YtmedickofiielaaGRefOps
import Derived.Test.YtmedickofiielaaGCopyCheck
import Derived.Test.YtmedickofiielaaGPlain
import Derived.Test.YtmedickofiielaaGReads64
import Derived.Test.YtmedickofiielaaGRefSplit
import Derived.Test.YtmedickofiielaaCaretP0
namespace Go.Proofs.Ytmedickofiielaa
open Go.RowKit

theorem OBox.newAt (s q n k a : Int) (t : ByteArray) (sp : Value) (w : World) (ty : TypeId) {N : Nat} (hN : w.heap.size = N) : OBox N s q n k a t sp w (w.alloc (.cells #[.int .i64 s, .int .i64 q, .int .i64 n, .int .i64 k, .int .i64 a, .string t, sp] ty)) := by
 subst hN
 exact OBox.new s q n k a t sp w ty
theorem len_le4 : ∀ (n : Nat) (l : List UInt8) (rs : List Int), l.length ≤ n → runesL l = some rs → l.length ≤ 4 * rs.length
 | 0, l, rs, h, _ => by omega
 | n + 1, l, rs, h, hr => by
  by_cases hne : l = []
  ·subst hne; simp
  ·cases hb : badL l with
   | true => rw [runesL_bad _ hne hb] at hr; cases hr
   | false =>
    obtain ⟨_, hK1, hK2, hK3⟩ := decodeL_bound _ hne hb
    rw [runesL_step _ hne hb] at hr
    cases hr2 : runesL (l.drop (Lib.decodeL l).2) with
    | none => rw [hr2] at hr; cases hr
    | some r2 =>
     rw [hr2] at hr
     obtain rfl : ((Lib.decodeL l).1 : Int) :: r2 = rs := by simpa using hr
     have ih := len_le4 n _ r2 (by rw [List.length_drop]; omega) hr2
     rw [List.length_drop] at ih
     rw [List.length_cons]
     omega
theorem mayT_len (l : List UInt8) : mayT l = decide (1 ≤ lenT l ∧ lenT l ≤ 200) := by
 unfold mayT
 by_cases h : 1 ≤ lenT l ∧ lenT l ≤ 200
 ·rw [decide_eq_true h, Bool.and_true]
  refine decide_eq_true ?_
  unfold lenT at h
  cases hr : runesL l with
  | none => rw [hr] at h; simp at h
  | some rs =>
   rw [hr] at h
   have := len_le4 _ l rs (Nat.le_refl _) hr
   simp only at h
   omega
 ·rw [decide_eq_false h, Bool.and_false]
theorem cntTo_mono (f : Nat → Bool) (k : Nat) : ∀ n, cntTo f k ≤ cntTo f (k + n)
 | 0 => Nat.le_refl _
 | n + 1 => Nat.le_trans (cntTo_mono f k n) (by show _ ≤ cntTo f (k + n) + _; omega)
theorem cnt_ahead {xs : List Sp} (h : sGood xs) (k : Nat) (hk : k ≤ 20000) : decide ((cntTo (sMark xs) k : Int) = (cntTo (sMark xs) 20000 : Nat)) = xs.all fun s => decide (s.1 + s.2 ≤ (k : Int)) := by
 rw [Bool.eq_iff_iff, decide_eq_true_eq, List.all_eq_true]
 constructor
 ·intro e s hs
  have hg := h.1 s hs
  refine decide_eq_true ?_
  apply Classical.byContradiction
  intro hlt
  obtain ⟨i, hi⟩ : ∃ i : Nat, (i : Int) = s.1 + s.2 - 1 := ⟨(s.1 + s.2 - 1).toNat, by omega⟩
  have hm : sMark xs i = true := (sMark_iff xs i).2 ⟨s, hs, by omega, by omega⟩
  have h1 := cntTo_mono (sMark xs) k (i - k)
  have h2 := cntTo_mono (sMark xs) (i + 1) (20000 - (i + 1))
  rw [show k + (i - k) = i by omega] at h1
  rw [show i + 1 + (20000 - (i + 1)) = 20000 by omega] at h2
  have h3 : cntTo (sMark xs) (i + 1) = cntTo (sMark xs) i + 1 := by
   show cntTo _ i + _ = _
   rw [if_pos hm]
  omega
 ·intro e
  have hn := cntTo_none (f := sMark xs) (k := k) (n := 20000 - k) (by
   intro i hi _
   cases hm : sMark xs i with
   | false => rfl
   | true =>
    obtain ⟨s, hs, h1, h2⟩ := (sMark_iff xs i).1 hm
    have := of_decide_eq_true (e s hs)
    omega)
  rw [show k + (20000 - k) = 20000 by omega] at hn
  omega
set_option maxRecDepth 100000 in
set_option maxHeartbeats 4000000 in
theorem insMay_any (s q n a size : Int) (t : ByteArray) (ao : Option Addr) (x cap : Nat) (w : World) (hL : LenAt t w) (hs0 : 0 ≤ size) (hs1 : size ≤ 20000) :
  Calls Try.prog 88 #[.agg #[], .agg #[.int .i64 s, .int .i64 q, .int .i64 n, .int .i64 1, .int .i64 a, .string t, .slice ao x cap], .int .i64 size] w fun e w' =>
   e = .returned (.bool (decide (0 ≤ a ∧ a ≤ size) && decide (1 ≤ lenT t.data.toList ∧ lenT t.data.toList ≤ 200) && decide (x = 0) && decide (size + lenT t.data.toList ≤ 20000))) ∧ Below w.heap.size w w' := by
 have hB0 := (Below.refl w.heap.size w).alloc (Nat.le_refl _) (.cells #[] 138)
 have hB := hB0.alloc hB0.size (.cells #[.int .i64 s, .int .i64 q, .int .i64 n, .int .i64 1, .int .i64 a, .string t, .slice ao x cap] 47)
 have hC := hL _ hB
 have hbx := OBox.newAt s q n 1 a t (.slice ao x cap) (w.alloc (.cells #[] 138)) 47 (N := w.heap.size + 1) (by simp)
 have hlo := lenT_ge t.data.toList
 rw [lenL_lenT] at hC
 clear hL hB0
 generalize lenT t.data.toList = m at *
 obtain ⟨r, hr⟩ : ∃ r, (decide (0 ≤ a ∧ a ≤ size) && decide (1 ≤ m ∧ m ≤ 200) && decide (x = 0) && decide (size + m ≤ 20000)) = r := ⟨_, rfl⟩
 rw [hr]
 have HR := Lib.hid (show r = decide ((0 ≤ a ∧ a ≤ size) ∧ (1 ≤ m ∧ m ≤ 200) ∧ x = 0 ∧ size + m ≤ 20000) by rw [← hr, Bool.eq_iff_iff]; simp only [Bool.and_eq_true, decide_eq_true_eq, and_assoc])
 have hI := fun W => mayIns_any m W
 clear hr
 rcases (show ¬ 0 ≤ a ∨ (0 ≤ a ∧ ¬ a ≤ size) ∨ (0 ≤ a ∧ a ≤ size ∧ ¬ (1 ≤ m ∧ m ≤ 200)) ∨ (0 ≤ a ∧ a ≤ size ∧ (1 ≤ m ∧ m ≤ 200) ∧ ¬ x = 0) ∨ (0 ≤ a ∧ a ≤ size ∧ (1 ≤ m ∧ m ≤ 200) ∧ x = 0 ∧ ¬ size + m ≤ 20000) ∨ (0 ≤ a ∧ a ≤ size ∧ (1 ≤ m ∧ m ≤ 200) ∧ x = 0 ∧ size + m ≤ 20000) by omega) with p1 | ⟨p1, p2⟩ | ⟨p1, p2, p3⟩ | ⟨p1, p2, p3, p4⟩ | ⟨p1, p2, p3, rfl, p5⟩ | ⟨p1, p2, p3, rfl, p5⟩
 ·have HN := Lib.hid (show ¬ ((0 ≤ a ∧ a ≤ size) ∧ (1 ≤ m ∧ m ≤ 200) ∧ x = 0 ∧ size + m ≤ 20000) by omega)
  clear hI
  go_enter Try.func88, Try.ntmps88
  go_wp2_with fail
  refine hC.mono ?_
  rintro e w1 ⟨rfl, hb⟩
  replace hbx := hbx.keep hb
  obtain ⟨c0, c1, c2, c3, c4, c5, c6, -⟩ := id hbx
  have hz := hB.trans (hb.mono hB.size)
  clear hb hC hB hbx
  go_wp2
  go_ret
  exact ⟨ret_bool (HR.out.trans (decide_eq_false HN.out)).symm, hz⟩
 ·have HN := Lib.hid (show ¬ ((0 ≤ a ∧ a ≤ size) ∧ (1 ≤ m ∧ m ≤ 200) ∧ x = 0 ∧ size + m ≤ 20000) by omega)
  clear hI
  go_enter Try.func88, Try.ntmps88
  go_wp2_with fail
  refine hC.mono ?_
  rintro e w1 ⟨rfl, hb⟩
  replace hbx := hbx.keep hb
  obtain ⟨c0, c1, c2, c3, c4, c5, c6, -⟩ := id hbx
  have hz := hB.trans (hb.mono hB.size)
  clear hb hC hB hbx
  go_wp2
  go_ret
  exact ⟨ret_bool (HR.out.trans (decide_eq_false HN.out)).symm, hz⟩
 ·have HN := Lib.hid (show ¬ ((0 ≤ a ∧ a ≤ size) ∧ (1 ≤ m ∧ m ≤ 200) ∧ x = 0 ∧ size + m ≤ 20000) by omega)
  rw [decide_eq_false p3] at hI
  clear p3
  go_enter Try.func88, Try.ntmps88
  go_wp2_with fail
  refine hC.mono ?_
  rintro e w1 ⟨rfl, hb⟩
  replace hbx := hbx.keep hb
  obtain ⟨c0, c1, c2, c3, c4, c5, c6, -⟩ := id hbx
  have hz := hB.trans (hb.mono hB.size)
  clear hb hC hB hbx
  go_wp2_with fail
  refine (hI _).mono ?_
  rintro e _ ⟨rfl, rfl⟩
  go_wp2
  go_ret
  exact ⟨ret_bool (HR.out.trans (decide_eq_false HN.out)).symm, hz⟩
 ·have HN := Lib.hid (show ¬ ((0 ≤ a ∧ a ≤ size) ∧ (1 ≤ m ∧ m ≤ 200) ∧ x = 0 ∧ size + m ≤ 20000) by omega)
  rw [decide_eq_true p3] at hI
  have p6 : ((x : Int) == 0) = false := beq_eq_false_iff_ne.2 (by omega)
  clear p4
  go_enter Try.func88, Try.ntmps88
  go_wp2_with fail
  refine hC.mono ?_
  rintro e w1 ⟨rfl, hb⟩
  replace hbx := hbx.keep hb
  obtain ⟨c0, c1, c2, c3, c4, c5, c6, -⟩ := id hbx
  have hz := hB.trans (hb.mono hB.size)
  clear hb hC hB hbx
  go_wp2_with fail
  refine (hI _).mono ?_
  rintro e _ ⟨rfl, rfl⟩
  go_wp2
  go_ret
  exact ⟨ret_bool (HR.out.trans (decide_eq_false HN.out)).symm, hz⟩
 ·have HN := Lib.hid (show ¬ ((0 ≤ a ∧ a ≤ size) ∧ (1 ≤ m ∧ m ≤ 200) ∧ (0 : Nat) = 0 ∧ size + m ≤ 20000) by omega)
  rw [decide_eq_true p3] at hI
  go_enter Try.func88, Try.ntmps88
  go_wp2_with fail
  refine hC.mono ?_
  rintro e w1 ⟨rfl, hb⟩
  replace hbx := hbx.keep hb
  obtain ⟨c0, c1, c2, c3, c4, c5, c6, -⟩ := id hbx
  have hz := hB.trans (hb.mono hB.size)
  clear hb hC hB hbx
  go_wp2_with fail
  refine (hI _).mono ?_
  rintro e _ ⟨rfl, rfl⟩
  go_wp2
  go_ret
  exact ⟨ret_bool ((decide_eq_false (by omega)).trans (HR.out.trans (decide_eq_false HN.out)).symm), hz⟩
 ·have HN := Lib.hid (show ((0 ≤ a ∧ a ≤ size) ∧ (1 ≤ m ∧ m ≤ 200) ∧ (0 : Nat) = 0 ∧ size + m ≤ 20000) from ⟨⟨p1, p2⟩, p3, rfl, p5⟩)
  rw [decide_eq_true p3] at hI
  go_enter Try.func88, Try.ntmps88
  go_wp2_with fail
  refine hC.mono ?_
  rintro e w1 ⟨rfl, hb⟩
  replace hbx := hbx.keep hb
  obtain ⟨c0, c1, c2, c3, c4, c5, c6, -⟩ := id hbx
  have hz := hB.trans (hb.mono hB.size)
  clear hb hC hB hbx
  go_wp2_with fail
  refine (hI _).mono ?_
  rintro e _ ⟨rfl, rfl⟩
  go_wp2
  go_ret
  exact ⟨ret_bool (HR.out.trans (decide_eq_true HN.out)).symm, hz⟩
end Go.Proofs.Ytmedickofiielaa

namespace Go.Proofs.Ytmedickofiielaa
open Go.RowKit

set_option maxRecDepth 100000 in
set_option maxHeartbeats 4000000 in
theorem delMay_any (s q n a size : Int) (t : ByteArray) (ao : Option Addr) (cap : Nat) (xs : List Sp) (w : World) (hS : SpAt w (.slice ao xs.length cap) xs) (hx : xs.length ≤ 2000000) (hwf : sWf xs) (hs0 : 0 ≤ size) (hs1 : size ≤ 20000) :
  Calls Try.prog 101 #[.agg #[], .agg #[.int .i64 s, .int .i64 q, .int .i64 n, .int .i64 2, .int .i64 a, .string t, .slice ao xs.length cap], .int .i64 size] w fun e w' =>
   e = .returned (.bool (decide (a = 0) && decide (t.data.toList = []) && sMay xs && xs.all fun s => decide (s.1 + s.2 ≤ size))) ∧ Below w.heap.size w w' := by
 have hB0 := (Below.refl w.heap.size w).alloc (Nat.le_refl _) (.cells #[] 139)
 have hbx := OBox.newAt s q n 2 a t (.slice ao xs.length cap) (w.alloc (.cells #[] 139)) 47 (N := w.heap.size + 1) (by simp)
 have hM := fun W H => spMay_any (.slice ao xs.length cap) xs W H hx hwf
 have hA := fun W H => spAhead_any (.slice ao xs.length cap) xs size W H hx hwf
 have hT := fun W H => spTotal_any (.slice ao xs.length cap) xs W H hx hwf
 obtain ⟨r, hr⟩ : ∃ r, (decide (a = 0) && decide (t.data.toList = []) && sMay xs && xs.all fun s => decide (s.1 + s.2 ≤ size)) = r := ⟨_, rfl⟩
 rw [hr]
 have h0 := hS.below hB0
 have HB0 := Lib.hid hB0
 clear hB0 hS
 by_cases p1 : a = 0
 case neg =>
  rw [decide_eq_false p1, Bool.false_and, Bool.false_and, Bool.false_and] at hr
  have HR := Lib.hid hr
  have p2 : (a == 0) = false := beq_eq_false_iff_ne.2 p1
  clear hr p1 hM hA hT h0
  go_enter Try.func101, Try.ntmps101
  go_wp2_with fail
  refine wp_region_held_drew (S := fun W => OBox (w.heap.size + 1) s q n 2 a t (.slice ao xs.length cap) (w.alloc (.cells #[] 139)) W) (by kernel_rfl) (hbx.keep (Below.refl _ _).drew) (fun hHeld => ?_)
  clear hbx
  refine tk (i := 0) (v := .pointer (some ⟨w.heap.size + 1, 4, none⟩)) rfl (Or.inl ⟨rfl, fun W hS => by go_simp⟩) ?_
  refine tk (i := 1) (v := .int .i64 a) rfl (Or.inl ⟨rfl, fun W hS => ?_⟩) ?_
  ·obtain ⟨c0, c1, c2, c3, c4, c5, c6, -⟩ := hS
   go_simp
  simp only [td]
  refine tk (i := 2) (v := .bool false) rfl (Or.inl ⟨rfl, fun W hS => by go_simp⟩) ?_
  simp only [td]
  refine tk (i := 3) (v := .bool false) rfl (Or.inl ⟨rfl, fun W hS => by go_simp⟩) ?_
  simp only [td]
  refine tk (i := 4) (v := undef) rfl (Or.inr ⟨rfl, rfl⟩) ?_
  simp only [td]
  refine tk (i := 5) (v := undef) rfl (Or.inr ⟨rfl, rfl⟩) ?_
  simp only [td]
  refine tk (i := 6) (v := undef) rfl (Or.inr ⟨rfl, rfl⟩) ?_
  simp only [td]
  refine tk (i := 7) (v := .bool false) rfl (Or.inl ⟨rfl, fun W hS => by go_simp⟩) ?_
  simp only [td]
  refine tk (i := 8) (v := .bool false) rfl (Or.inl ⟨rfl, fun W hS => by go_simp⟩) ?_
  simp only [td]
  refine tk (i := 9) (v := undef) rfl (Or.inr ⟨rfl, rfl⟩) ?_
  simp only [td]
  refine tk (i := 10) (v := undef) rfl (Or.inr ⟨rfl, rfl⟩) ?_
  simp only [td]
  refine tk (i := 11) (v := undef) rfl (Or.inr ⟨rfl, rfl⟩) ?_
  simp only [td]
  refine tk (i := 12) (v := .bool false) rfl (Or.inl ⟨rfl, fun W hS => by go_simp⟩) ?_
  simp only [td]
  refine tk (i := 13) (v := .bool false) rfl (Or.inl ⟨rfl, fun W hS => by go_simp⟩) ?_
  simp only [td]
  refine tk (i := 14) (v := undef) rfl (Or.inr ⟨rfl, rfl⟩) ?_
  simp only [td]
  refine tk (i := 15) (v := undef) rfl (Or.inr ⟨rfl, rfl⟩) ?_
  simp only [td]
  refine tk (i := 16) (v := undef) rfl (Or.inr ⟨rfl, rfl⟩) ?_
  simp only [td]
  refine tk (i := 17) (v := undef) rfl (Or.inr ⟨rfl, rfl⟩) ?_
  simp only [td]
  refine tk (i := 18) (v := undef) rfl (Or.inr ⟨rfl, rfl⟩) ?_
  simp only [td]
  refine tk (i := 19) (v := undef) rfl (Or.inr ⟨rfl, rfl⟩) ?_
  simp only [td]
  refine tk (i := 20) (v := undef) rfl (Or.inr ⟨rfl, rfl⟩) ?_
  simp only [td]
  refine tk (i := 21) (v := undef) rfl (Or.inr ⟨rfl, rfl⟩) ?_
  simp only [td]
  refine tk (i := 22) (v := .bool false) rfl (Or.inl ⟨rfl, fun W hS => by go_simp⟩) ?_
  simp only [td]
  refine tk (i := 23) (v := .bool false) rfl (Or.inl ⟨rfl, fun W hS => by go_simp⟩) ?_
  simp only [td]
  refine wpAnyH_done (by kernel_rfl) ?_ _
  have hz := HB0.out.trans (hHeld.2.2.2.2.2.2.2.mono (by simp))
  go_wp2
  go_ret
  exact ⟨ret_bool HR.out, hz⟩
 subst p1
 rw [decide_eq_true rfl, Bool.true_and] at hr
 by_cases t0 : t.data.toList = []
 case neg =>
  rw [decide_eq_false t0, Bool.false_and, Bool.false_and] at hr
  have HR := Lib.hid hr
  have t0' : ¬ t.toList = [] := by rw [list_data]; exact t0
  clear hr hM hA hT h0 t0
  go_enter Try.func101, Try.ntmps101
  go_wp2_with fail
  refine wp_region_held_drew (S := fun W => OBox (w.heap.size + 1) s q n 2 0 t (.slice ao xs.length cap) (w.alloc (.cells #[] 139)) W) (by kernel_rfl) (hbx.keep (Below.refl _ _).drew) (fun hHeld => ?_)
  clear hbx
  refine tk (i := 0) (v := .pointer (some ⟨w.heap.size + 1, 4, none⟩)) rfl (Or.inl ⟨rfl, fun W hS => by go_simp⟩) ?_
  refine tk (i := 1) (v := .int .i64 0) rfl (Or.inl ⟨rfl, fun W hS => ?_⟩) ?_
  ·obtain ⟨c0, c1, c2, c3, c4, c5, c6, -⟩ := hS
   go_simp
  simp only [td]
  refine tk (i := 2) (v := .bool true) rfl (Or.inl ⟨rfl, fun W hS => by go_simp⟩) ?_
  simp only [td]
  refine tk (i := 3) (v := .bool true) rfl (Or.inl ⟨rfl, fun W hS => by go_simp⟩) ?_
  simp only [td]
  refine tk (i := 4) (v := .pointer (some ⟨w.heap.size + 1, 5, none⟩)) rfl (Or.inl ⟨rfl, fun W hS => by go_simp⟩) ?_
  simp only [td]
  refine tk (i := 5) (v := .string t) rfl (Or.inl ⟨rfl, fun W hS => ?_⟩) ?_
  ·obtain ⟨c0, c1, c2, c3, c4, c5, c6, -⟩ := hS
   go_simp
  simp only [td]
  refine tk (i := 6) (v := .bool false) rfl (Or.inl ⟨rfl, fun W hS => by go_simp⟩) ?_
  simp only [td]
  refine tk (i := 7) (v := .bool false) rfl (Or.inl ⟨rfl, fun W hS => by go_simp⟩) ?_
  simp only [td]
  refine tk (i := 8) (v := .bool false) rfl (Or.inl ⟨rfl, fun W hS => by go_simp⟩) ?_
  simp only [td]
  refine tk (i := 9) (v := undef) rfl (Or.inr ⟨rfl, rfl⟩) ?_
  simp only [td]
  refine tk (i := 10) (v := undef) rfl (Or.inr ⟨rfl, rfl⟩) ?_
  simp only [td]
  refine tk (i := 11) (v := undef) rfl (Or.inr ⟨rfl, rfl⟩) ?_
  simp only [td]
  refine tk (i := 12) (v := .bool false) rfl (Or.inl ⟨rfl, fun W hS => by go_simp⟩) ?_
  simp only [td]
  refine tk (i := 13) (v := .bool false) rfl (Or.inl ⟨rfl, fun W hS => by go_simp⟩) ?_
  simp only [td]
  refine tk (i := 14) (v := undef) rfl (Or.inr ⟨rfl, rfl⟩) ?_
  simp only [td]
  refine tk (i := 15) (v := undef) rfl (Or.inr ⟨rfl, rfl⟩) ?_
  simp only [td]
  refine tk (i := 16) (v := undef) rfl (Or.inr ⟨rfl, rfl⟩) ?_
  simp only [td]
  refine tk (i := 17) (v := undef) rfl (Or.inr ⟨rfl, rfl⟩) ?_
  simp only [td]
  refine tk (i := 18) (v := undef) rfl (Or.inr ⟨rfl, rfl⟩) ?_
  simp only [td]
  refine tk (i := 19) (v := undef) rfl (Or.inr ⟨rfl, rfl⟩) ?_
  simp only [td]
  refine tk (i := 20) (v := undef) rfl (Or.inr ⟨rfl, rfl⟩) ?_
  simp only [td]
  refine tk (i := 21) (v := undef) rfl (Or.inr ⟨rfl, rfl⟩) ?_
  simp only [td]
  refine tk (i := 22) (v := .bool false) rfl (Or.inl ⟨rfl, fun W hS => by go_simp⟩) ?_
  simp only [td]
  refine tk (i := 23) (v := .bool false) rfl (Or.inl ⟨rfl, fun W hS => by go_simp⟩) ?_
  simp only [td]
  refine wpAnyH_done (by kernel_rfl) ?_ _
  have hz := HB0.out.trans (hHeld.2.2.2.2.2.2.2.mono (by simp))
  go_wp2
  go_ret
  exact ⟨ret_bool HR.out, hz⟩
 have t0' : t.toList = [] := by rw [list_data]; exact t0
 rw [decide_eq_true t0, Bool.true_and] at hr
 have hSS : ∀ W, OBox (w.heap.size + 1) s q n 2 0 t (.slice ao xs.length cap) (w.alloc (.cells #[] 139)) W → SpAt W (.slice ao xs.length cap) xs := fun W hW => h0.below (by have h1 := hW.2.2.2.2.2.2.2; rwa [World.size_alloc])
 have HS := Lib.hid hSS
 clear t0 hSS h0
 cases hm : sMay xs with
 | false =>
  rw [hm, Bool.false_and] at hr
  rw [hm] at hM
  have HR := Lib.hid hr
  have HM := Lib.hid hM
  clear hr hM hA hT hm
  go_enter Try.func101, Try.ntmps101
  go_wp2_with fail
  refine wp_region_held_drew (S := fun W => OBox (w.heap.size + 1) s q n 2 0 t (.slice ao xs.length cap) (w.alloc (.cells #[] 139)) W) (by kernel_rfl) (hbx.keep (Below.refl _ _).drew) (fun hHeld => ?_)
  clear hbx
  refine tk (i := 0) (v := .pointer (some ⟨w.heap.size + 1, 4, none⟩)) rfl (Or.inl ⟨rfl, fun W hS => by go_simp⟩) ?_
  refine tk (i := 1) (v := .int .i64 0) rfl (Or.inl ⟨rfl, fun W hS => ?_⟩) ?_
  ·obtain ⟨c0, c1, c2, c3, c4, c5, c6, -⟩ := hS
   go_simp
  simp only [td]
  refine tk (i := 2) (v := .bool true) rfl (Or.inl ⟨rfl, fun W hS => by go_simp⟩) ?_
  simp only [td]
  refine tk (i := 3) (v := .bool true) rfl (Or.inl ⟨rfl, fun W hS => by go_simp⟩) ?_
  simp only [td]
  refine tk (i := 4) (v := .pointer (some ⟨w.heap.size + 1, 5, none⟩)) rfl (Or.inl ⟨rfl, fun W hS => by go_simp⟩) ?_
  simp only [td]
  refine tk (i := 5) (v := .string t) rfl (Or.inl ⟨rfl, fun W hS => ?_⟩) ?_
  ·obtain ⟨c0, c1, c2, c3, c4, c5, c6, -⟩ := hS
   go_simp
  simp only [td]
  refine tk (i := 6) (v := .bool true) rfl (Or.inl ⟨rfl, fun W hS => by go_simp⟩) ?_
  simp only [td]
  refine tk (i := 7) (v := .bool true) rfl (Or.inl ⟨rfl, fun W hS => by go_simp⟩) ?_
  simp only [td]
  refine tk (i := 8) (v := .bool true) rfl (Or.inl ⟨rfl, fun W hS => by go_simp⟩) ?_
  simp only [td]
  refine tk (i := 9) (v := .pointer (some ⟨w.heap.size + 1, 6, none⟩)) rfl (Or.inl ⟨rfl, fun W hS => by go_simp⟩) ?_
  simp only [td]
  refine tk (i := 10) (v := .slice ao xs.length cap) rfl (Or.inl ⟨rfl, fun W hS => ?_⟩) ?_
  ·obtain ⟨c0, c1, c2, c3, c4, c5, c6, -⟩ := hS
   go_simp
  simp only [td]
  refine rd 11 rfl fun K hK => ?_
  go_simp
  go_wp2_with (go_at_call 14; refine (HM.out _ (HS.out _ hHeld)).mono ?_; rintro e wq ⟨rfl, hb⟩)
  refine hK.out _ _ (hHeld.keep hb) (fun hX => ?_)
  clear hK K hHeld
  have hHeld := hX
  clear hX
  refine tk (i := 12) (v := .bool false) rfl (Or.inl ⟨rfl, fun W hS => by go_simp⟩) ?_
  simp only [td]
  refine tk (i := 13) (v := .bool false) rfl (Or.inl ⟨rfl, fun W hS => by go_simp⟩) ?_
  simp only [td]
  refine tk (i := 14) (v := undef) rfl (Or.inr ⟨rfl, rfl⟩) ?_
  simp only [td]
  refine tk (i := 15) (v := undef) rfl (Or.inr ⟨rfl, rfl⟩) ?_
  simp only [td]
  refine tk (i := 16) (v := undef) rfl (Or.inr ⟨rfl, rfl⟩) ?_
  simp only [td]
  refine tk (i := 17) (v := undef) rfl (Or.inr ⟨rfl, rfl⟩) ?_
  simp only [td]
  refine tk (i := 18) (v := undef) rfl (Or.inr ⟨rfl, rfl⟩) ?_
  simp only [td]
  refine tk (i := 19) (v := undef) rfl (Or.inr ⟨rfl, rfl⟩) ?_
  simp only [td]
  refine tk (i := 20) (v := undef) rfl (Or.inr ⟨rfl, rfl⟩) ?_
  simp only [td]
  refine tk (i := 21) (v := undef) rfl (Or.inr ⟨rfl, rfl⟩) ?_
  simp only [td]
  refine tk (i := 22) (v := .bool false) rfl (Or.inl ⟨rfl, fun W hS => by go_simp⟩) ?_
  simp only [td]
  refine tk (i := 23) (v := .bool false) rfl (Or.inl ⟨rfl, fun W hS => by go_simp⟩) ?_
  simp only [td]
  refine wpAnyH_done (by kernel_rfl) ?_ _
  have hz := HB0.out.trans (hHeld.2.2.2.2.2.2.2.mono (by simp))
  go_wp2
  go_ret
  exact ⟨ret_bool HR.out, hz⟩
 | true =>
  rw [hm, Bool.true_and] at hr
  have hc := cnt_ahead ((sMay_good xs).1 hm) size.toNat (by omega)
  rw [show (fun s : Sp => decide (s.1 + s.2 ≤ (size.toNat : Int))) = fun s => decide (s.1 + s.2 ≤ size) by rw [Int.toNat_of_nonneg hs0]] at hc
  rw [hr] at hc
  rw [hm] at hM
  simp only [hm, if_true, show min 20000 size.toNat = size.toNat by omega] at hA hT
  generalize cntTo (sMark xs) size.toNat = u at *
  generalize cntTo (sMark xs) 20000 = z at *
  have HR := Lib.hid hc
  have HM := Lib.hid hM
  have HA := Lib.hid hA
  have HT := Lib.hid hT
  clear hr hM hA hT hm hc
  by_cases g : u = z
  ·subst g
   go_enter Try.func101, Try.ntmps101
   go_wp2_with fail
   refine wp_region_held_drew (S := fun W => OBox (w.heap.size + 1) s q n 2 0 t (.slice ao xs.length cap) (w.alloc (.cells #[] 139)) W) (by kernel_rfl) (hbx.keep (Below.refl _ _).drew) (fun hHeld => ?_)
   clear hbx
   refine tk (i := 0) (v := .pointer (some ⟨w.heap.size + 1, 4, none⟩)) rfl (Or.inl ⟨rfl, fun W hS => by go_simp⟩) ?_
   refine tk (i := 1) (v := .int .i64 0) rfl (Or.inl ⟨rfl, fun W hS => ?_⟩) ?_
   ·obtain ⟨c0, c1, c2, c3, c4, c5, c6, -⟩ := hS
    go_simp
   simp only [td]
   refine tk (i := 2) (v := .bool true) rfl (Or.inl ⟨rfl, fun W hS => by go_simp⟩) ?_
   simp only [td]
   refine tk (i := 3) (v := .bool true) rfl (Or.inl ⟨rfl, fun W hS => by go_simp⟩) ?_
   simp only [td]
   refine tk (i := 4) (v := .pointer (some ⟨w.heap.size + 1, 5, none⟩)) rfl (Or.inl ⟨rfl, fun W hS => by go_simp⟩) ?_
   simp only [td]
   refine tk (i := 5) (v := .string t) rfl (Or.inl ⟨rfl, fun W hS => ?_⟩) ?_
   ·obtain ⟨c0, c1, c2, c3, c4, c5, c6, -⟩ := hS
    go_simp
   simp only [td]
   refine tk (i := 6) (v := .bool true) rfl (Or.inl ⟨rfl, fun W hS => by go_simp⟩) ?_
   simp only [td]
   refine tk (i := 7) (v := .bool true) rfl (Or.inl ⟨rfl, fun W hS => by go_simp⟩) ?_
   simp only [td]
   refine tk (i := 8) (v := .bool true) rfl (Or.inl ⟨rfl, fun W hS => by go_simp⟩) ?_
   simp only [td]
   refine tk (i := 9) (v := .pointer (some ⟨w.heap.size + 1, 6, none⟩)) rfl (Or.inl ⟨rfl, fun W hS => by go_simp⟩) ?_
   simp only [td]
   refine tk (i := 10) (v := .slice ao xs.length cap) rfl (Or.inl ⟨rfl, fun W hS => ?_⟩) ?_
   ·obtain ⟨c0, c1, c2, c3, c4, c5, c6, -⟩ := hS
    go_simp
   simp only [td]
   refine rd 11 rfl fun K hK => ?_
   go_simp
   go_wp2_with (go_at_call 14; refine (HM.out _ (HS.out _ hHeld)).mono ?_; rintro e wq ⟨rfl, hb⟩)
   refine hK.out _ _ (hHeld.keep hb) (fun hX => ?_)
   clear hK K hHeld
   have hHeld := hX
   clear hX
   refine tk (i := 12) (v := .bool true) rfl (Or.inl ⟨rfl, fun W hS => by go_simp⟩) ?_
   simp only [td]
   refine tk (i := 13) (v := .bool true) rfl (Or.inl ⟨rfl, fun W hS => by go_simp⟩) ?_
   simp only [td]
   refine tk (i := 14) (v := .pointer (some ⟨w.heap.size + 1, 6, none⟩)) rfl (Or.inl ⟨rfl, fun W hS => by go_simp⟩) ?_
   simp only [td]
   refine tk (i := 15) (v := .slice ao xs.length cap) rfl (Or.inl ⟨rfl, fun W hS => ?_⟩) ?_
   ·obtain ⟨c0, c1, c2, c3, c4, c5, c6, -⟩ := hS
    go_simp
   simp only [td]
   refine tk (i := 16) (v := .int .i64 size) rfl (Or.inl ⟨rfl, fun W hS => by go_simp⟩) ?_
   simp only [td]
   refine tk (i := 18) (v := .pointer (some ⟨w.heap.size + 1, 6, none⟩)) rfl (Or.inl ⟨rfl, fun W hS => by go_simp⟩) ?_
   simp only [td]
   refine tk (i := 19) (v := .slice ao xs.length cap) rfl (Or.inl ⟨rfl, fun W hS => ?_⟩) ?_
   ·obtain ⟨c0, c1, c2, c3, c4, c5, c6, -⟩ := hS
    go_simp
   simp only [td]
   refine rd 17 rfl fun K hK => ?_
   go_simp
   go_wp2_with (go_at_call 31; refine (HA.out _ (HS.out _ hHeld)).mono ?_; rintro e wq ⟨rfl, hb⟩)
   refine hK.out _ _ (hHeld.keep hb) (fun hX => ?_)
   clear hK K hHeld
   have hHeld := hX
   clear hX
   refine rd 20 rfl fun K hK => ?_
   go_simp
   go_wp2_with (go_at_call 104; refine (HT.out _ (HS.out _ hHeld)).mono ?_; rintro e wq ⟨rfl, hb⟩)
   refine hK.out _ _ (hHeld.keep hb) (fun hX => ?_)
   clear hK K hHeld
   have hHeld := hX
   clear hX
   refine tk (i := 21) (v := .bool true) rfl (Or.inl ⟨rfl, fun W hS => by go_simp⟩) ?_
   simp only [td]
   refine tk (i := 22) (v := .bool true) rfl (Or.inl ⟨rfl, fun W hS => by go_simp⟩) ?_
   simp only [td]
   refine tk (i := 23) (v := .bool true) rfl (Or.inl ⟨rfl, fun W hS => by go_simp⟩) ?_
   simp only [td]
   refine wpAnyH_done (by kernel_rfl) ?_ _
   have hz := HB0.out.trans (hHeld.2.2.2.2.2.2.2.mono (by simp))
   go_wp2
   go_ret
   exact ⟨ret_bool ((decide_eq_true trivial).symm.trans HR.out), hz⟩
  ·have g1 : ((u : Int) == (z : Int)) = false := beq_eq_false_iff_ne.2 (by omega)
   have HG := Lib.hid g
   clear g
   go_enter Try.func101, Try.ntmps101
   go_wp2_with fail
   refine wp_region_held_drew (S := fun W => OBox (w.heap.size + 1) s q n 2 0 t (.slice ao xs.length cap) (w.alloc (.cells #[] 139)) W) (by kernel_rfl) (hbx.keep (Below.refl _ _).drew) (fun hHeld => ?_)
   clear hbx
   refine tk (i := 0) (v := .pointer (some ⟨w.heap.size + 1, 4, none⟩)) rfl (Or.inl ⟨rfl, fun W hS => by go_simp⟩) ?_
   refine tk (i := 1) (v := .int .i64 0) rfl (Or.inl ⟨rfl, fun W hS => ?_⟩) ?_
   ·obtain ⟨c0, c1, c2, c3, c4, c5, c6, -⟩ := hS
    go_simp
   simp only [td]
   refine tk (i := 2) (v := .bool true) rfl (Or.inl ⟨rfl, fun W hS => by go_simp⟩) ?_
   simp only [td]
   refine tk (i := 3) (v := .bool true) rfl (Or.inl ⟨rfl, fun W hS => by go_simp⟩) ?_
   simp only [td]
   refine tk (i := 4) (v := .pointer (some ⟨w.heap.size + 1, 5, none⟩)) rfl (Or.inl ⟨rfl, fun W hS => by go_simp⟩) ?_
   simp only [td]
   refine tk (i := 5) (v := .string t) rfl (Or.inl ⟨rfl, fun W hS => ?_⟩) ?_
   ·obtain ⟨c0, c1, c2, c3, c4, c5, c6, -⟩ := hS
    go_simp
   simp only [td]
   refine tk (i := 6) (v := .bool true) rfl (Or.inl ⟨rfl, fun W hS => by go_simp⟩) ?_
   simp only [td]
   refine tk (i := 7) (v := .bool true) rfl (Or.inl ⟨rfl, fun W hS => by go_simp⟩) ?_
   simp only [td]
   refine tk (i := 8) (v := .bool true) rfl (Or.inl ⟨rfl, fun W hS => by go_simp⟩) ?_
   simp only [td]
   refine tk (i := 9) (v := .pointer (some ⟨w.heap.size + 1, 6, none⟩)) rfl (Or.inl ⟨rfl, fun W hS => by go_simp⟩) ?_
   simp only [td]
   refine tk (i := 10) (v := .slice ao xs.length cap) rfl (Or.inl ⟨rfl, fun W hS => ?_⟩) ?_
   ·obtain ⟨c0, c1, c2, c3, c4, c5, c6, -⟩ := hS
    go_simp
   simp only [td]
   refine rd 11 rfl fun K hK => ?_
   go_simp
   go_wp2_with (go_at_call 14; refine (HM.out _ (HS.out _ hHeld)).mono ?_; rintro e wq ⟨rfl, hb⟩)
   refine hK.out _ _ (hHeld.keep hb) (fun hX => ?_)
   clear hK K hHeld
   have hHeld := hX
   clear hX
   refine tk (i := 12) (v := .bool true) rfl (Or.inl ⟨rfl, fun W hS => by go_simp⟩) ?_
   simp only [td]
   refine tk (i := 13) (v := .bool true) rfl (Or.inl ⟨rfl, fun W hS => by go_simp⟩) ?_
   simp only [td]
   refine tk (i := 14) (v := .pointer (some ⟨w.heap.size + 1, 6, none⟩)) rfl (Or.inl ⟨rfl, fun W hS => by go_simp⟩) ?_
   simp only [td]
   refine tk (i := 15) (v := .slice ao xs.length cap) rfl (Or.inl ⟨rfl, fun W hS => ?_⟩) ?_
   ·obtain ⟨c0, c1, c2, c3, c4, c5, c6, -⟩ := hS
    go_simp
   simp only [td]
   refine tk (i := 16) (v := .int .i64 size) rfl (Or.inl ⟨rfl, fun W hS => by go_simp⟩) ?_
   simp only [td]
   refine tk (i := 18) (v := .pointer (some ⟨w.heap.size + 1, 6, none⟩)) rfl (Or.inl ⟨rfl, fun W hS => by go_simp⟩) ?_
   simp only [td]
   refine tk (i := 19) (v := .slice ao xs.length cap) rfl (Or.inl ⟨rfl, fun W hS => ?_⟩) ?_
   ·obtain ⟨c0, c1, c2, c3, c4, c5, c6, -⟩ := hS
    go_simp
   simp only [td]
   refine rd 17 rfl fun K hK => ?_
   go_simp
   go_wp2_with (go_at_call 31; refine (HA.out _ (HS.out _ hHeld)).mono ?_; rintro e wq ⟨rfl, hb⟩)
   refine hK.out _ _ (hHeld.keep hb) (fun hX => ?_)
   clear hK K hHeld
   have hHeld := hX
   clear hX
   refine rd 20 rfl fun K hK => ?_
   go_simp
   go_wp2_with (go_at_call 104; refine (HT.out _ (HS.out _ hHeld)).mono ?_; rintro e wq ⟨rfl, hb⟩)
   refine hK.out _ _ (hHeld.keep hb) (fun hX => ?_)
   clear hK K hHeld
   have hHeld := hX
   clear hX
   refine tk (i := 21) (v := .bool false) rfl (Or.inl ⟨rfl, fun W hS => by go_simp⟩) ?_
   simp only [td]
   refine tk (i := 22) (v := .bool false) rfl (Or.inl ⟨rfl, fun W hS => by go_simp⟩) ?_
   simp only [td]
   refine tk (i := 23) (v := .bool false) rfl (Or.inl ⟨rfl, fun W hS => by go_simp⟩) ?_
   simp only [td]
   refine wpAnyH_done (by kernel_rfl) ?_ _
   have hz := HB0.out.trans (hHeld.2.2.2.2.2.2.2.mono (by simp))
   go_wp2
   go_ret
   have hg := HG.out
   exact ⟨ret_bool ((decide_eq_false (by omega)).symm.trans HR.out), hz⟩
set_option maxRecDepth 100000 in
set_option maxHeartbeats 4000000 in
theorem noMay_any (s q n k a size : Int) (t : ByteArray) (ao : Option Addr) (x cap : Nat) (w : World) :
  Calls Try.prog 108 #[.agg #[], .agg #[.int .i64 s, .int .i64 q, .int .i64 n, .int .i64 k, .int .i64 a, .string t, .slice ao x cap], .int .i64 size] w fun e w' => e = .returned (.bool false) ∧ Below w.heap.size w w' := by
 have hB0 := (Below.refl w.heap.size w).alloc (Nat.le_refl _) (.cells #[] 140)
 have hB := hB0.alloc hB0.size (.cells #[.int .i64 s, .int .i64 q, .int .i64 n, .int .i64 k, .int .i64 a, .string t, .slice ao x cap] 47)
 go_enter Try.func108, Try.ntmps108
 go_wp2
 go_ret
 exact ⟨rfl, hB⟩
set_option maxRecDepth 100000 in
set_option maxHeartbeats 4000000 in
theorem delAdds_any (s q n a : Int) (t : ByteArray) (ao : Option Addr) (x cap : Nat) (w : World) :
  Calls Try.prog 98 #[.agg #[], .agg #[.int .i64 s, .int .i64 q, .int .i64 n, .int .i64 2, .int .i64 a, .string t, .slice ao x cap]] w fun e w' => e = .returned (.int .i64 0) ∧ Below w.heap.size w w' := by
 have hB0 := (Below.refl w.heap.size w).alloc (Nat.le_refl _) (.cells #[] 139)
 have hB := hB0.alloc hB0.size (.cells #[.int .i64 s, .int .i64 q, .int .i64 n, .int .i64 2, .int .i64 a, .string t, .slice ao x cap] 47)
 go_enter Try.func98, Try.ntmps98
 go_wp2
 go_ret
 exact ⟨rfl, hB⟩
set_option maxRecDepth 100000 in
set_option maxHeartbeats 4000000 in
theorem noAdds_any (s q n k a : Int) (t : ByteArray) (ao : Option Addr) (x cap : Nat) (w : World) :
  Calls Try.prog 105 #[.agg #[], .agg #[.int .i64 s, .int .i64 q, .int .i64 n, .int .i64 k, .int .i64 a, .string t, .slice ao x cap]] w fun e w' => e = .returned (.int .i64 0) ∧ Below w.heap.size w w' := by
 have hB0 := (Below.refl w.heap.size w).alloc (Nat.le_refl _) (.cells #[] 140)
 have hB := hB0.alloc hB0.size (.cells #[.int .i64 s, .int .i64 q, .int .i64 n, .int .i64 k, .int .i64 a, .string t, .slice ao x cap] 47)
 go_enter Try.func105, Try.ntmps105
 go_wp2
 go_ret
 exact ⟨rfl, hB⟩
theorem pAdds_any (s q n k a : Int) (t : ByteArray) (sp : Value) (xs : List Sp) (w : World) (hL : LenAt t w) (h : SpAt w sp xs) :
  Calls Try.prog 65 #[opV s q n k a t sp] w fun e w' => e = .returned (.int .i64 (oAdds ⟨s, q, n, k, a, t.data.toList, xs⟩)) ∧ Below w.heap.size w w' := by
 obtain ⟨ao, cap, rfl, _⟩ := h
 unfold oAdds opV
 by_cases h1 : k = 1
 ·subst h1
  rw [if_pos rfl]
  exact adds_ins s q n a _ t ao xs.length cap w fun W hW => insAdds_any s q n 1 a t _ W (hL.below hW)
 ·rw [if_neg h1]
  by_cases h2 : k = 2
  ·subst h2
   exact adds_del s q n a _ t ao xs.length cap w fun W _ => delAdds_any s q n a t ao xs.length cap W
  ·exact adds_no s q n k a _ t ao xs.length cap w h1 h2 fun W _ => noAdds_any s q n k a t ao xs.length cap W
theorem pMayOp_any (s q n k a size : Int) (t : ByteArray) (sp : Value) (xs : List Sp) (w : World) (hL : LenAt t w) (h : SpAt w sp xs) (hx : xs.length ≤ 2000000) (hwf : sWf xs) :
  Calls Try.prog 56 #[opV s q n k a t sp, .int .i64 size] w fun e w' => e = .returned (.bool (oMay ⟨s, q, n, k, a, t.data.toList, xs⟩ size)) ∧ Below w.heap.size w w' := by
 have hS := h
 obtain ⟨ao, cap, rfl, _⟩ := h
 unfold oMay opV
 by_cases g : 0 ≤ size ∧ size ≤ 20000
 case neg =>
  rw [decide_eq_false g, Bool.false_and, Bool.false_and, Bool.false_and]
  exact may_noplace s q n k a size t ao xs.length cap w g
 rw [decide_eq_true g, Bool.true_and]
 cases hh : (nMay s q && decide (0 ≤ n ∧ n ≤ 1099511627776)) with
 | false =>
  rw [Bool.false_and]
  exact may_nohead s q n k a size t ao xs.length cap w g hh
 | true =>
  rw [Bool.true_and]
  by_cases h1 : k = 1
  ·subst h1
   rw [if_pos rfl]
   have e : decide (xs = []) = decide (xs.length = 0) := decide_eq_decide.2 List.length_eq_zero_iff.symm
   dsimp only
   rw [e, mayT_len]
   exact may_ins s q n a size t ao xs.length cap _ w g hh fun W hW => insMay_any s q n a size t ao xs.length cap W (hL.below hW) g.1 g.2
  ·rw [if_neg h1]
   by_cases h2 : k = 2
   ·subst h2
    rw [decide_eq_true rfl, Bool.true_and]
    exact may_del s q n a size t ao xs.length cap _ w g hh fun W hW => delMay_any s q n a size t ao cap xs W (hS.below hW) hx hwf g.1 g.2
   ·dsimp only
    rw [decide_eq_false h2, Bool.false_and, Bool.false_and, Bool.false_and, Bool.false_and]
    exact may_no s q n k a size t ao xs.length cap _ w g hh h1 h2 fun W _ => noMay_any s q n k a size t ao xs.length cap W
end Go.Proofs.Ytmedickofiielaa

namespace Go.Proofs.Ytmedickofiielaa
open Go.RowKit

theorem oAdds_le (s q n k a : Int) (t : ByteArray) (xs : List Sp) : 0 ≤ oAdds ⟨s, q, n, k, a, t.data.toList, xs⟩ ∧ oAdds ⟨s, q, n, k, a, t.data.toList, xs⟩ ≤ t.size := by
 refine ⟨oAdds_ge _, ?_⟩
 have := lenT_le t.data.toList
 have hs : t.data.toList.length = t.size := rfl
 unfold oAdds
 dsimp only
 split
 ·split <;> omega
 ·omega
set_option maxRecDepth 100000 in
set_option maxHeartbeats 4000000 in
theorem iPlace_any (s q n k a : Int) (t : ByteArray) (sp : Value) (xs : List Sp) (p : Int) (st : Bool) (w : World) (hL : LenAt t w) (h : SpAt w sp xs) (ht : t.size ≤ 1000) (hp : -100000 ≤ p ∧ p ≤ 100000) :
  Calls Try.prog 57 #[opV s q n k a t sp, .int .i64 p, .bool st] w fun e w' => e = .returned (.int .i64 (mvP p a (oAdds ⟨s, q, n, k, a, t.data.toList, xs⟩) st)) ∧ Below w.heap.size w w' := by
 have hB := (Below.refl w.heap.size w).alloc (Nat.le_refl _) (.cells #[.int .i64 s, .int .i64 q, .int .i64 n, .int .i64 k, .int .i64 a, .string t, sp] 123)
 have hbx := OBox.new s q n k a t sp w 123
 have hA := fun W (hz : Below w.heap.size w W) => pAdds_any s q n k a t sp xs W (hL.below hz) (h.below hz)
 have hle := oAdds_le s q n k a t xs
 obtain ⟨ao, cap, rfl, _⟩ := id h
 unfold mvP
 generalize oAdds ⟨s, q, n, k, a, t.data.toList, xs⟩ = m at *
 have hw : IntKind.i64.wrap (p + m) = p + m := by simp only [IntKind.wrap_i64]; omega
 unfold opV at hA ⊢
 obtain ⟨r, hr⟩ : ∃ r, (if a < p ∨ p = a ∧ st = false then p + m else p) = r := ⟨_, rfl⟩
 rw [hr]
 clear hL h ht hle
 by_cases h1 : a < p
 ·rw [if_pos (.inl h1)] at hr
  have HR := Lib.hid hr
  clear hr hbx
  go_enter Try.func57, Try.ntmps57
  go_wp2_with fail
  refine (hA _ hB).mono ?_
  rintro e w1 ⟨rfl, hb⟩
  have hz := hB.trans (hb.mono hB.size)
  go_wp2
  go_ret
  exact ⟨by rw [HR.out]; rfl, hz⟩
 ·by_cases h2 : p = a ∧ st = false
  ·rw [if_pos (.inr h2)] at hr
   obtain ⟨rfl, rfl⟩ := h2
   have HR := Lib.hid hr
   clear hr hbx
   go_enter Try.func57, Try.ntmps57
   go_wp2_with fail
   refine (hA _ hB).mono ?_
   rintro e w1 ⟨rfl, hb⟩
   have hz := hB.trans (hb.mono hB.size)
   go_wp2
   go_ret
   exact ⟨by rw [HR.out]; rfl, hz⟩
  ·rw [if_neg (by rintro (g | g) <;> contradiction)] at hr
   subst hr
   clear hA hbx
   by_cases h3 : p = a
   ·obtain rfl : st = true := by cases st with | true => rfl | false => exact absurd ⟨h3, rfl⟩ h2
    subst h3
    go_enter Try.func57, Try.ntmps57
    go_wp2
    go_ret
    exact ⟨rfl, hB⟩
   ·have e1 : (p == a) = false := beq_eq_false_iff_ne.2 h3
    clear h2
    go_enter Try.func57, Try.ntmps57
    go_wp2
    go_ret
    exact ⟨rfl, hB⟩
theorem SpAt.row {W : World} {v : Value} {xs : List Sp} (h : SpAt W v xs) : RowR 2 W v xs.length (spCells xs) := by
 obtain ⟨ao, cap, rfl, hc⟩ := h
 refine ⟨spCells_length xs, ao, cap, rfl, fun h0 => ?_⟩
 obtain ⟨b, off, e, hc⟩ := hc (fun e => by rw [e] at h0; exact Nat.lt_irrefl 0 h0)
 refine ⟨b, off, e, fun j u hj => ?_⟩
 have hjl := (List.getElem?_eq_some_iff.1 hj).1
 rw [spCells_length] at hjl
 obtain ⟨g1, g2⟩ := spCells_at xs (j / 2) (by omega)
 obtain ⟨c1, c2⟩ := hc (j / 2) (by omega)
 rcases Nat.mod_two_eq_zero_or_one j with e2 | e2
 ·rw [show j / 2 * 2 = j by omega] at g1
  rw [g1] at hj
  cases hj
  rw [show off + j = off + j / 2 * 2 by omega]
  exact c1
 ·rw [show j / 2 * 2 + 1 = j by omega] at g2
  rw [g2] at hj
  cases hj
  rw [show off + j = off + j / 2 * 2 + 1 by omega]
  exact c2
end Go.Proofs.Ytmedickofiielaa

namespace Go.Proofs.Ytmedickofiielaa
open Go.RowKit

def iPt (p : Int) (o : POp) (size : Int) (st : Bool) : Int × Int := if oMay o size && decide (0 ≤ p ∧ p ≤ size) then (mvP p o.pl (oAdds o) st, 0) else (0, 1)
theorem iPt_point {p : Int} {o : POp} {size : Int} {own : Bool} (h : oMay o size = true) (hp : 0 ≤ p ∧ p ≤ size) : iPt p o size (!own) = (kPoint p o own, 0) := by
 unfold iPt kPoint
 rw [h, decide_eq_true hp]
 by_cases hk : o.kind = 1
 ·rw [if_pos hk]; rfl
 ·rw [if_neg hk]
  have e := oAdds_no (o := o) hk
  unfold mvP
  rw [e, Int.add_zero]
  simp
set_option maxRecDepth 100000 in
set_option maxHeartbeats 4000000 in
theorem pPoint_any (p s q n k a size : Int) (t : ByteArray) (sp : Value) (xs : List Sp) (st : Bool) (w : World) (hL : LenAt t w) (h : SpAt w sp xs) (hx : xs.length ≤ 2000000) (hwf : sWf xs) (ht : t.size ≤ 1000) :
  Calls Try.prog 44 #[.int .i64 p, opV s q n k a t sp, .int .i64 size, .bool st] w
   (Nothing (.tuple #[.int .i64 (iPt p ⟨s, q, n, k, a, t.data.toList, xs⟩ size st).1, .int .i64 (iPt p ⟨s, q, n, k, a, t.data.toList, xs⟩ size st).2]) w) := by
 have hM := fun W (z : Below w.heap.size w W) => pMayOp_any s q n k a size t sp xs W (hL.below z) (h.below z) hx hwf
 have hP := fun W (z : Below w.heap.size w W) hp => iPlace_any s q n k a t sp xs p st W (hL.below z) (h.below z) ht hp
 have hbx := OBox.new s q n k a t sp w 47
 have HM := Lib.hid hM
 have HP := Lib.hid hP
 obtain ⟨ao, cap, rfl, -⟩ := id h
 have HBX := Lib.hid hbx
 obtain ⟨mv, hmv⟩ : ∃ mv, mvP p a (oAdds ⟨s, q, n, k, a, t.data.toList, xs⟩) st = mv := ⟨_, rfl⟩
 have HI := Lib.hid (show iPt p ⟨s, q, n, k, a, t.data.toList, xs⟩ size st = if oMay ⟨s, q, n, k, a, t.data.toList, xs⟩ size && decide (0 ≤ p ∧ p ≤ size) then (mv, 0) else (0, 1) by unfold iPt; rw [hmv])
 have HSZ := Lib.hid (show oMay ⟨s, q, n, k, a, t.data.toList, xs⟩ size = true → size ≤ 20000 from fun h => ((oMay_iff _ _).1 h).1.2)
 obtain ⟨m, hm⟩ : ∃ m, oMay ⟨s, q, n, k, a, t.data.toList, xs⟩ size = m := ⟨_, rfl⟩
 rw [hm] at HI HSZ
 simp only [hm] at HM
 simp only [hmv] at HP
 clear hM hP hL h hbx hm hmv
 have hM0 := HM.out _ HBX.out.2.2.2.2.2.2.2
 unfold opV at hM0 HP ⊢
 go_enter Try.func44, Try.ntmps44
 go_wp2_with fail
 refine hM0.mono ?_
 clear hM0
 rintro e w1 ⟨rfl, hb⟩
 have hbx := HBX.out.keep hb
 have HB1 := Lib.hid hbx.2.2.2.2.2.2.2
 cases m with
 | false =>
  have hv := HI.out
  rw [Bool.false_and, if_neg (by decide)] at hv
  have HV := Lib.hid hv
  clear hv hbx hb
  go_wp2
  go_ret2
  exact ⟨by rw [HV.out]; rfl, HB1.out⟩
 | true =>
  have hs := HSZ.out rfl
  by_cases p1 : p < 0
  ·have hv := HI.out
   rw [decide_eq_false (by omega), Bool.and_false, if_neg (by decide)] at hv
   have HV := Lib.hid hv
   clear hv hbx hb
   go_wp2
   go_ret2
   exact ⟨by rw [HV.out]; rfl, HB1.out⟩
  ·by_cases p2 : size < p
   ·have hv := HI.out
    rw [decide_eq_false (by omega), Bool.and_false, if_neg (by decide)] at hv
    have HV := Lib.hid hv
    clear hv hbx hb
    go_wp2
    go_ret2
    exact ⟨by rw [HV.out]; rfl, HB1.out⟩
   ·have hv := HI.out
    rw [decide_eq_true (by omega), Bool.and_true, if_pos rfl] at hv
    have HV := Lib.hid hv
    obtain ⟨c0, c1, c2, c3, c4, c5, c6, _⟩ := hbx
    have hP := HP.out w1 HB1.out (by omega)
    clear hv hb
    go_wp2_with fail
    refine hP.mono ?_
    clear hP c0 c1 c2 c3 c4 c5 c6
    rintro e w2 ⟨rfl, hb⟩
    have hz := HB1.out.trans (hb.mono HB1.out.size)
    clear hb
    go_wp2
    go_ret2
    exact ⟨by rw [HV.out]; rfl, hz⟩
end Go.Proofs.Ytmedickofiielaa

namespace Go.Proofs.Ytmedickofiielaa
open Go.RowKit

theorem mkVm (a b c d : Int) : mkV (a, b, c, d) = .tuple #[.agg #[.int .i64 a, .int .i64 b, .int .i64 c], .int .i64 d] := rfl
theorem kMove_both {s a t : Int} {o : POp} {size : Int} (h : kMay s a t size = true) : kBoth (fun p => iPt p o size (o.site != s)) s a t = kMove s a t o size := by
 have hm := (kMay_iff _ _ _ _).1 h
 unfold kMove kBoth
 cases ho : oMay o size with
 | false =>
  have e : ∀ p, iPt p o size (o.site != s) = (0, 1) := fun p => by unfold iPt; rw [ho]; rfl
  rw [h]
  simp [e]
 | true =>
  have e : ∀ p, 0 ≤ p ∧ p ≤ size → iPt p o size (o.site != s) = (kPoint p o (o.site == s), 0) := fun p hp => iPt_point (own := o.site == s) ho hp
  have e1 := e a (by omega)
  have e2 := e t (by omega)
  rw [h]
  simp [e1, e2]
theorem kMove_no {s a t : Int} {o : POp} {size : Int} (h : kMay s a t size = false) : kMove s a t o size = (0, 0, 0, 1) := by
 unfold kMove
 rw [h]
 rfl
set_option maxRecDepth 100000 in
set_option maxHeartbeats 4000000 in
theorem cDeed_any (s q n k a size : Int) (t : ByteArray) (sp : Value) (xs : List Sp) (st : Bool) (p : Int) (w : World) (hL : LenAt t w) (h : SpAt w sp xs) (ht : t.size ≤ 1000) (hx : xs.length ≤ 20000) (hwf : sWf xs) :
  Calls Try.prog 28 #[.agg #[.int .i64 s, .int .i64 q, .int .i64 n, .int .i64 k, .int .i64 a, .string t, sp, .int .i64 size, .bool st], .int .i64 p] w fun e w' => e = .returned (erV (iPt p ⟨s, q, n, k, a, t.data.toList, xs⟩ size st)) ∧ Below w.heap.size w w' := by
 have hb := (Below.refl w.heap.size w).alloc (Nat.le_refl _) (.cells #[.int .i64 s, .int .i64 q, .int .i64 n, .int .i64 k, .int .i64 a, .string t, sp, .int .i64 size, .bool st] 67)
 have hP := pPoint_any p s q n k a size t sp xs st _ (hL.below hb) (h.below hb) (by omega) hwf ht
 obtain ⟨x, hx⟩ : ∃ x, iPt p ⟨s, q, n, k, a, t.data.toList, xs⟩ size st = x := ⟨_, rfl⟩
 rw [hx] at hP ⊢
 obtain ⟨sao, scp, rfl, -⟩ := id h
 have HB := Lib.hid hb
 clear hb hx hL h
 unfold opV at hP
 unfold erV
 go_enter Try.func28, Try.ntmps28
 go_wp2_with fail
 refine hP.mono ?_
 rintro e w1 ⟨rfl, hb⟩
 go_wp2
 go_ret2
 exact ⟨rfl, HB.out.trans (hb.mono HB.out.size)⟩
set_option maxRecDepth 100000 in
set_option maxHeartbeats 8000000 in
theorem cMove_any (m1 m2 m3 s q n k a size : Int) (t : ByteArray) (sp : Value) (xs : List Sp) (w : World) (hL : LenAt t w) (h : SpAt w sp xs) (ht : t.size ≤ 1000) (hx : xs.length ≤ 20000) (hwf : sWf xs) (v2 : (Lit.int .i64 m2).wf = true) (v3 : (Lit.int .i64 m3).wf = true) :
  Calls Try.prog 13 #[mkA m1 m2 m3, opV s q n k a t sp, .int .i64 size] w fun e w' => e = .returned (mkV (kMove m1 m2 m3 ⟨s, q, n, k, a, t.data.toList, xs⟩ size)) ∧ Below w.heap.size w w' := by
 have hMk := fun W => cMayK_any m1 m2 m3 size W
 have hB := fun bx W (hI : RBox w bx W) => both_deed (fbR w) 28 (fun args W => enters_of Try.func28 (by kernel_rfl) rfl args W) s q n k a t sp size (s != m1) (fun p => iPt p ⟨s, q, n, k, a, t.data.toList, xs⟩ size (s != m1)) (fun p bx W hI _ => (cDeed_any s q n k a size t sp xs (s != m1) p W (hL.below hI.up) (h.below hI.up) ht hx hwf).mono fun e w' he => ⟨he.1, RBox.below hI he.2⟩) m1 m2 m3 v2 v3 bx W hI
 obtain ⟨sao, scp, rfl, -⟩ := id h
 have h0 := (((RBox.start w).new #[.int .i64 m1, .int .i64 m2, .int .i64 m3] 27).new #[.int .i64 s, .int .i64 q, .int .i64 n, .int .i64 k, .int .i64 a, .string t, .slice sao xs.length scp] 47).new #[.int .i64 0, .int .i64 0, .int .i64 0] 27
 rw [show (w.alloc (.cells #[.int .i64 m1, .int .i64 m2, .int .i64 m3] 27)).heap.size = w.heap.size + 1 by simp, show ((w.alloc (.cells #[.int .i64 m1, .int .i64 m2, .int .i64 m3] 27)).alloc (.cells #[.int .i64 s, .int .i64 q, .int .i64 n, .int .i64 k, .int .i64 a, .string t, .slice sao xs.length scp] 47)).heap.size = w.heap.size + 1 + 1 by simp] at h0
 obtain ⟨B, hBB⟩ : ∃ B, w.heap.size = B := ⟨_, rfl⟩
 rw [hBB] at h0
 have H0 := Lib.hid h0
 have HB := Lib.hid hB
 have KM := Lib.hid hMk
 clear h0 hB hMk hL h v2 v3
 unfold opV
 unfold mkA at KM HB ⊢
 go_enter Try.func13, Try.ntmps13
 go_upto_region 1 with fail
 generalize ((w.alloc (.cells #[.int .i64 m1, .int .i64 m2, .int .i64 m3] 27)).alloc (.cells #[.int .i64 s, .int .i64 q, .int .i64 n, .int .i64 k, .int .i64 a, .string t, .slice sao xs.length scp] 47)).alloc (.cells #[.int .i64 0, .int .i64 0, .int .i64 0] 27) = w0 at H0 ⊢
 clear hBB
 have c0 := ((fbR w).at H0.out (B := B) (cs := #[.int .i64 m1, .int .i64 m2, .int .i64 m3]) (t := 27) ((boxAt_other (by omega) _ _).trans ((boxAt_other (by omega) _ _).trans (boxAt_same _ _ _))) 0).1
 have c1 := ((fbR w).at H0.out (B := B) (cs := #[.int .i64 m1, .int .i64 m2, .int .i64 m3]) (t := 27) ((boxAt_other (by omega) _ _).trans ((boxAt_other (by omega) _ _).trans (boxAt_same _ _ _))) 1).1
 have c2 := ((fbR w).at H0.out (B := B) (cs := #[.int .i64 m1, .int .i64 m2, .int .i64 m3]) (t := 27) ((boxAt_other (by omega) _ _).trans ((boxAt_other (by omega) _ _).trans (boxAt_same _ _ _))) 2).1
 go_wp2_with fail
 refine (KM.out _).mono ?_
 clear c0 c1 c2 KM
 rintro e w1 ⟨rfl, hb⟩
 have HR1 := Lib.hid (H0.out.below hb)
 clear hb H0
 obtain ⟨mk, hmk⟩ : ∃ mk, kMay m1 m2 m3 size = mk := ⟨_, rfl⟩
 rw [hmk]
 cases mk with
 | false =>
  have HV := Lib.hid (kMove_no (o := ⟨s, q, n, k, a, t.data.toList, xs⟩) hmk)
  clear hmk HB
  have z0 := ((fbR w).at HR1.out (B := (B + 1 + 1)) (cs := #[.int .i64 0, .int .i64 0, .int .i64 0]) (t := 27) (boxAt_same _ _ _) 0).1
  have y0 := ((fbR w).at HR1.out (B := (B + 1 + 1)) (cs := #[.int .i64 0, .int .i64 0, .int .i64 0]) (t := 27) (boxAt_same _ _ _) 0).2
  have z1 := ((fbR w).at HR1.out (B := (B + 1 + 1)) (cs := #[.int .i64 0, .int .i64 0, .int .i64 0]) (t := 27) (boxAt_same _ _ _) 1).1
  have y1 := ((fbR w).at HR1.out (B := (B + 1 + 1)) (cs := #[.int .i64 0, .int .i64 0, .int .i64 0]) (t := 27) (boxAt_same _ _ _) 1).2
  have z2 := ((fbR w).at HR1.out (B := (B + 1 + 1)) (cs := #[.int .i64 0, .int .i64 0, .int .i64 0]) (t := 27) (boxAt_same _ _ _) 2).1
  have y2 := ((fbR w).at HR1.out (B := (B + 1 + 1)) (cs := #[.int .i64 0, .int .i64 0, .int .i64 0]) (t := 27) (boxAt_same _ _ _) 2).2
  have HK := Lib.hid ((fbR w).mark HR1.out (M := (B + 1 + 1)) (boxAt_same _ _ _) 0 0 0)
  clear HR1
  go_wp2
  refine bodyPost_ret (mkb_result (fn := Try.f13) (p := 6) (u := 7) rfl _ _ (B + 1 + 1) 0 0 0 (.int .i64 1) rfl rfl ((fbR w).box HK.out _ _ (boxAt_same _ _ _))) rfl ?_
  exact ⟨by rw [HV.out]; rfl, HK.out.up⟩
 | true =>
  have hv := kMove_both (o := ⟨s, q, n, k, a, t.data.toList, xs⟩) hmk
  dsimp only at hv
  obtain ⟨x, hx⟩ : ∃ x, kBoth (fun p => iPt p ⟨s, q, n, k, a, t.data.toList, xs⟩ size (s != m1)) m1 m2 m3 = x := ⟨_, rfl⟩
  obtain ⟨x1, x2, x3, x4⟩ := x
  have hB := HB.out
  rw [hx, mkVm] at hB
  have HV := Lib.hid (hv.symm.trans hx)
  clear hv hx HB hmk
  have HB := Lib.hid hB
  clear hB
  have c0 := ((fbR w).at HR1.out (B := B) (cs := #[.int .i64 m1, .int .i64 m2, .int .i64 m3]) (t := 27) ((boxAt_other (by omega) _ _).trans ((boxAt_other (by omega) _ _).trans (boxAt_same _ _ _))) 0).1
  have c1 := ((fbR w).at HR1.out (B := B) (cs := #[.int .i64 m1, .int .i64 m2, .int .i64 m3]) (t := 27) ((boxAt_other (by omega) _ _).trans ((boxAt_other (by omega) _ _).trans (boxAt_same _ _ _))) 1).1
  have c2 := ((fbR w).at HR1.out (B := B) (cs := #[.int .i64 m1, .int .i64 m2, .int .i64 m3]) (t := 27) ((boxAt_other (by omega) _ _).trans ((boxAt_other (by omega) _ _).trans (boxAt_same _ _ _))) 2).1
  have o0 := ((fbR w).at HR1.out (B := (B + 1)) (cs := #[.int .i64 s, .int .i64 q, .int .i64 n, .int .i64 k, .int .i64 a, .string t, .slice sao xs.length scp]) (t := 47) ((boxAt_other (by omega) _ _).trans (boxAt_same _ _ _)) 0).1
  have o1 := ((fbR w).at HR1.out (B := (B + 1)) (cs := #[.int .i64 s, .int .i64 q, .int .i64 n, .int .i64 k, .int .i64 a, .string t, .slice sao xs.length scp]) (t := 47) ((boxAt_other (by omega) _ _).trans (boxAt_same _ _ _)) 1).1
  have o2 := ((fbR w).at HR1.out (B := (B + 1)) (cs := #[.int .i64 s, .int .i64 q, .int .i64 n, .int .i64 k, .int .i64 a, .string t, .slice sao xs.length scp]) (t := 47) ((boxAt_other (by omega) _ _).trans (boxAt_same _ _ _)) 2).1
  have o3 := ((fbR w).at HR1.out (B := (B + 1)) (cs := #[.int .i64 s, .int .i64 q, .int .i64 n, .int .i64 k, .int .i64 a, .string t, .slice sao xs.length scp]) (t := 47) ((boxAt_other (by omega) _ _).trans (boxAt_same _ _ _)) 3).1
  have o4 := ((fbR w).at HR1.out (B := (B + 1)) (cs := #[.int .i64 s, .int .i64 q, .int .i64 n, .int .i64 k, .int .i64 a, .string t, .slice sao xs.length scp]) (t := 47) ((boxAt_other (by omega) _ _).trans (boxAt_same _ _ _)) 4).1
  have o5 := ((fbR w).at HR1.out (B := (B + 1)) (cs := #[.int .i64 s, .int .i64 q, .int .i64 n, .int .i64 k, .int .i64 a, .string t, .slice sao xs.length scp]) (t := 47) ((boxAt_other (by omega) _ _).trans (boxAt_same _ _ _)) 5).1
  have o6 := ((fbR w).at HR1.out (B := (B + 1)) (cs := #[.int .i64 s, .int .i64 q, .int .i64 n, .int .i64 k, .int .i64 a, .string t, .slice sao xs.length scp]) (t := 47) ((boxAt_other (by omega) _ _).trans (boxAt_same _ _ _)) 6).1
  go_wp2_with fail
  refine (HB.out _ _ HR1.out).mono ?_
  rintro e w3 ⟨rfl, hI⟩
  clear HB HR1 c0 c1 c2 o0 o1 o2 o3 o4 o5 o6
  have z0 := ((fbR w).at hI (B := (B + 1 + 1)) (cs := #[.int .i64 0, .int .i64 0, .int .i64 0]) (t := 27) (boxAt_same _ _ _) 0).1
  have y0 := ((fbR w).at hI (B := (B + 1 + 1)) (cs := #[.int .i64 0, .int .i64 0, .int .i64 0]) (t := 27) (boxAt_same _ _ _) 0).2
  have z1 := ((fbR w).at hI (B := (B + 1 + 1)) (cs := #[.int .i64 0, .int .i64 0, .int .i64 0]) (t := 27) (boxAt_same _ _ _) 1).1
  have y1 := ((fbR w).at hI (B := (B + 1 + 1)) (cs := #[.int .i64 0, .int .i64 0, .int .i64 0]) (t := 27) (boxAt_same _ _ _) 1).2
  have z2 := ((fbR w).at hI (B := (B + 1 + 1)) (cs := #[.int .i64 0, .int .i64 0, .int .i64 0]) (t := 27) (boxAt_same _ _ _) 2).1
  have y2 := ((fbR w).at hI (B := (B + 1 + 1)) (cs := #[.int .i64 0, .int .i64 0, .int .i64 0]) (t := 27) (boxAt_same _ _ _) 2).2
  have HK := Lib.hid ((fbR w).mark hI (M := (B + 1 + 1)) (boxAt_same _ _ _) x1 x2 x3)
  clear hI
  go_wp2
  refine bodyPost_ret (mkb_result (fn := Try.f13) (p := 6) (u := 7) rfl _ _ (B + 1 + 1) x1 x2 x3 (.int .i64 x4) rfl rfl ((fbR w).box HK.out _ _ (boxAt_same _ _ _))) rfl ?_
  exact ⟨by rw [HV.out]; rfl, HK.out.up⟩
end Go.Proofs.Ytmedickofiielaa
