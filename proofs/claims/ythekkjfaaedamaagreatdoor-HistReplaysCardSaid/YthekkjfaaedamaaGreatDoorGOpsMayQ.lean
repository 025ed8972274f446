/- Texts of this proof, joined. -/
import Derived.Test.YthekkjfaaedamaaGreatDoorGOpsKind
import Derived.Test.YthekkjfaaedamaaGreatDoorGSpEdges
import Derived.Test.YthekkjfaaedamaaGreatDoorGSpansPlain
import Derived.Test.YthekkjfaaedamaaGreatDoorGRefOps
import Derived.Test.YthekkjfaaedamaaGreatDoorGCopyCheck
import Derived.Test.YthekkjfaaedamaaGreatDoorGPlain
import Derived.Test.YthekkjfaaedamaaGreatDoorGReads64
import Derived.Deep.Cut
import Derived.Deep.RegionHeld
import Derived.Test.YthekkjfaaedamaaGreatDoorInclFacts
import Derived.Test.YthekkjfaaedamaaGreatDoorGHistAt
import Derived.Test.YthekkjfaaedamaaGreatDoorGSpPut
import Derived.ArgAppend
namespace Go.Proofs.YthekkjfaaedamaaGreatDoor
open Go.RowKit

theorem OBox.newAt (s q n k a : Int) (t : ByteArray) (sp : Value) (w : World) (ty : TypeId) {N : Nat} (hN : w.heap.size = N) : OBox N s q n k a t sp w (w.alloc (.cells #[.int .i64 s, .int .i64 q, .int .i64 n, .int .i64 k, .int .i64 a, .string t, sp] ty)) := by
 subst hN
 exact OBox.new s q n k a t sp w ty
theorem len_le4 : ∀ (n : Nat) (l : List UInt8) (rs : List Int), l.length ≤ n → runesL l = some rs → l.length ≤ 4 * rs.length
 | 0, l, rs, h, _ => by omega
 | n + 1, l, rs, h, hr => by
  by_cases hne : l = []
  ·subst hne; simp
  ·cases hb : badL l with
   | true => rw [runesL_bad _ hne hb] at hr; cases hr
   | false =>
    obtain ⟨_, hK1, hK2, hK3⟩ := decodeL_bound _ hne hb
    rw [runesL_step _ hne hb] at hr
    cases hr2 : runesL (l.drop (Lib.decodeL l).2) with
    | none => rw [hr2] at hr; cases hr
    | some r2 =>
     rw [hr2] at hr
     obtain rfl : ((Lib.decodeL l).1 : Int) :: r2 = rs := by simpa using hr
     have ih := len_le4 n _ r2 (by rw [List.length_drop]; omega) hr2
     rw [List.length_drop] at ih
     rw [List.length_cons]
     omega
theorem mayT_len (l : List UInt8) : mayT l = decide (1 ≤ lenT l ∧ lenT l ≤ 200) := by
 unfold mayT
 by_cases h : 1 ≤ lenT l ∧ lenT l ≤ 200
 ·rw [decide_eq_true h, Bool.and_true]
  refine decide_eq_true ?_
  unfold lenT at h
  cases hr : runesL l with
  | none => rw [hr] at h; simp at h
  | some rs =>
   rw [hr] at h
   have := len_le4 _ l rs (Nat.le_refl _) hr
   simp only at h
   omega
 ·rw [decide_eq_false h, Bool.and_false]
theorem cntTo_mono (f : Nat → Bool) (k : Nat) : ∀ n, cntTo f k ≤ cntTo f (k + n)
 | 0 => Nat.le_refl _
 | n + 1 => Nat.le_trans (cntTo_mono f k n) (by show _ ≤ cntTo f (k + n) + _; omega)
theorem cnt_ahead {xs : List Sp} (h : sGood xs) (k : Nat) (hk : k ≤ 20000) : decide ((cntTo (sMark xs) k : Int) = (cntTo (sMark xs) 20000 : Nat)) = xs.all fun s => decide (s.1 + s.2 ≤ (k : Int)) := by
 rw [Bool.eq_iff_iff, decide_eq_true_eq, List.all_eq_true]
 constructor
 ·intro e s hs
  have hg := h.1 s hs
  refine decide_eq_true ?_
  apply Classical.byContradiction
  intro hlt
  obtain ⟨i, hi⟩ : ∃ i : Nat, (i : Int) = s.1 + s.2 - 1 := ⟨(s.1 + s.2 - 1).toNat, by omega⟩
  have hm : sMark xs i = true := (sMark_iff xs i).2 ⟨s, hs, by omega, by omega⟩
  have h1 := cntTo_mono (sMark xs) k (i - k)
  have h2 := cntTo_mono (sMark xs) (i + 1) (20000 - (i + 1))
  rw [show k + (i - k) = i by omega] at h1
  rw [show i + 1 + (20000 - (i + 1)) = 20000 by omega] at h2
  have h3 : cntTo (sMark xs) (i + 1) = cntTo (sMark xs) i + 1 := by
   show cntTo _ i + _ = _
   rw [if_pos hm]
  omega
 ·intro e
  have hn := cntTo_none (f := sMark xs) (k := k) (n := 20000 - k) (by
   intro i hi _
   cases hm : sMark xs i with
   | false => rfl
   | true =>
    obtain ⟨s, hs, h1, h2⟩ := (sMark_iff xs i).1 hm
    have := of_decide_eq_true (e s hs)
    omega)
  rw [show k + (20000 - k) = 20000 by omega] at hn
  omega
set_option maxRecDepth 100000 in
set_option maxHeartbeats 4000000 in
theorem insMay_any (s q n a size : Int) (t : ByteArray) (ao : Option Addr) (x cap : Nat) (w : World) (hL : LenAt t w) (hs0 : 0 ≤ size) (hs1 : size ≤ 20000) :
  Calls Tryz.prog 150 #[.agg #[], .agg #[.int .i64 s, .int .i64 q, .int .i64 n, .int .i64 1, .int .i64 a, .string t, .slice ao x cap], .int .i64 size] w fun e w' =>
   e = .returned (.bool (decide (0 ≤ a ∧ a ≤ size) && decide (1 ≤ lenT t.data.toList ∧ lenT t.data.toList ≤ 200) && decide (x = 0) && decide (size + lenT t.data.toList ≤ 20000))) ∧ Below w.heap.size w w' := by
 have hB0 := (Below.refl w.heap.size w).alloc (Nat.le_refl _) (.cells #[] 161)
 have hB := hB0.alloc hB0.size (.cells #[.int .i64 s, .int .i64 q, .int .i64 n, .int .i64 1, .int .i64 a, .string t, .slice ao x cap] 45)
 have hC := hL _ hB
 have hbx := OBox.newAt s q n 1 a t (.slice ao x cap) (w.alloc (.cells #[] 161)) 45 (N := w.heap.size + 1) (by simp)
 have hlo := lenT_ge t.data.toList
 rw [lenL_lenT] at hC
 clear hL hB0
 generalize lenT t.data.toList = m at *
 obtain ⟨r, hr⟩ : ∃ r, (decide (0 ≤ a ∧ a ≤ size) && decide (1 ≤ m ∧ m ≤ 200) && decide (x = 0) && decide (size + m ≤ 20000)) = r := ⟨_, rfl⟩
 rw [hr]
 have HR := Lib.hid (show r = decide ((0 ≤ a ∧ a ≤ size) ∧ (1 ≤ m ∧ m ≤ 200) ∧ x = 0 ∧ size + m ≤ 20000) by rw [← hr, Bool.eq_iff_iff]; simp only [Bool.and_eq_true, decide_eq_true_eq, and_assoc])
 have hI := fun W => mayIns_any m W
 clear hr
 rcases (show ¬ 0 ≤ a ∨ (0 ≤ a ∧ ¬ a ≤ size) ∨ (0 ≤ a ∧ a ≤ size ∧ ¬ (1 ≤ m ∧ m ≤ 200)) ∨ (0 ≤ a ∧ a ≤ size ∧ (1 ≤ m ∧ m ≤ 200) ∧ ¬ x = 0) ∨ (0 ≤ a ∧ a ≤ size ∧ (1 ≤ m ∧ m ≤ 200) ∧ x = 0 ∧ ¬ size + m ≤ 20000) ∨ (0 ≤ a ∧ a ≤ size ∧ (1 ≤ m ∧ m ≤ 200) ∧ x = 0 ∧ size + m ≤ 20000) by omega) with p1 | ⟨p1, p2⟩ | ⟨p1, p2, p3⟩ | ⟨p1, p2, p3, p4⟩ | ⟨p1, p2, p3, rfl, p5⟩ | ⟨p1, p2, p3, rfl, p5⟩
 ·have HN := Lib.hid (show ¬ ((0 ≤ a ∧ a ≤ size) ∧ (1 ≤ m ∧ m ≤ 200) ∧ x = 0 ∧ size + m ≤ 20000) by omega)
  clear hI
  go_enter Tryz.func150, Tryz.ntmps150
  go_wp2_with fail
  refine hC.mono ?_
  rintro e w1 ⟨rfl, hb⟩
  replace hbx := hbx.keep hb
  obtain ⟨c0, c1, c2, c3, c4, c5, c6, -⟩ := id hbx
  have hz := hB.trans (hb.mono hB.size)
  clear hb hC hB hbx
  go_wp2
  go_ret
  exact ⟨ret_bool (HR.out.trans (decide_eq_false HN.out)).symm, hz⟩
 ·have HN := Lib.hid (show ¬ ((0 ≤ a ∧ a ≤ size) ∧ (1 ≤ m ∧ m ≤ 200) ∧ x = 0 ∧ size + m ≤ 20000) by omega)
  clear hI
  go_enter Tryz.func150, Tryz.ntmps150
  go_wp2_with fail
  refine hC.mono ?_
  rintro e w1 ⟨rfl, hb⟩
  replace hbx := hbx.keep hb
  obtain ⟨c0, c1, c2, c3, c4, c5, c6, -⟩ := id hbx
  have hz := hB.trans (hb.mono hB.size)
  clear hb hC hB hbx
  go_wp2
  go_ret
  exact ⟨ret_bool (HR.out.trans (decide_eq_false HN.out)).symm, hz⟩
 ·have HN := Lib.hid (show ¬ ((0 ≤ a ∧ a ≤ size) ∧ (1 ≤ m ∧ m ≤ 200) ∧ x = 0 ∧ size + m ≤ 20000) by omega)
  rw [decide_eq_false p3] at hI
  clear p3
  go_enter Tryz.func150, Tryz.ntmps150
  go_wp2_with fail
  refine hC.mono ?_
  rintro e w1 ⟨rfl, hb⟩
  replace hbx := hbx.keep hb
  obtain ⟨c0, c1, c2, c3, c4, c5, c6, -⟩ := id hbx
  have hz := hB.trans (hb.mono hB.size)
  clear hb hC hB hbx
  go_wp2_with fail
  refine (hI _).mono ?_
  rintro e _ ⟨rfl, rfl⟩
  go_wp2
  go_ret
  exact ⟨ret_bool (HR.out.trans (decide_eq_false HN.out)).symm, hz⟩
 ·have HN := Lib.hid (show ¬ ((0 ≤ a ∧ a ≤ size) ∧ (1 ≤ m ∧ m ≤ 200) ∧ x = 0 ∧ size + m ≤ 20000) by omega)
  rw [decide_eq_true p3] at hI
  have p6 : ((x : Int) == 0) = false := beq_eq_false_iff_ne.2 (by omega)
  clear p4
  go_enter Tryz.func150, Tryz.ntmps150
  go_wp2_with fail
  refine hC.mono ?_
  rintro e w1 ⟨rfl, hb⟩
  replace hbx := hbx.keep hb
  obtain ⟨c0, c1, c2, c3, c4, c5, c6, -⟩ := id hbx
  have hz := hB.trans (hb.mono hB.size)
  clear hb hC hB hbx
  go_wp2_with fail
  refine (hI _).mono ?_
  rintro e _ ⟨rfl, rfl⟩
  go_wp2
  go_ret
  exact ⟨ret_bool (HR.out.trans (decide_eq_false HN.out)).symm, hz⟩
 ·have HN := Lib.hid (show ¬ ((0 ≤ a ∧ a ≤ size) ∧ (1 ≤ m ∧ m ≤ 200) ∧ (0 : Nat) = 0 ∧ size + m ≤ 20000) by omega)
  rw [decide_eq_true p3] at hI
  go_enter Tryz.func150, Tryz.ntmps150
  go_wp2_with fail
  refine hC.mono ?_
  rintro e w1 ⟨rfl, hb⟩
  replace hbx := hbx.keep hb
  obtain ⟨c0, c1, c2, c3, c4, c5, c6, -⟩ := id hbx
  have hz := hB.trans (hb.mono hB.size)
  clear hb hC hB hbx
  go_wp2_with fail
  refine (hI _).mono ?_
  rintro e _ ⟨rfl, rfl⟩
  go_wp2
  go_ret
  exact ⟨ret_bool ((decide_eq_false (by omega)).trans (HR.out.trans (decide_eq_false HN.out)).symm), hz⟩
 ·have HN := Lib.hid (show ((0 ≤ a ∧ a ≤ size) ∧ (1 ≤ m ∧ m ≤ 200) ∧ (0 : Nat) = 0 ∧ size + m ≤ 20000) from ⟨⟨p1, p2⟩, p3, rfl, p5⟩)
  rw [decide_eq_true p3] at hI
  go_enter Tryz.func150, Tryz.ntmps150
  go_wp2_with fail
  refine hC.mono ?_
  rintro e w1 ⟨rfl, hb⟩
  replace hbx := hbx.keep hb
  obtain ⟨c0, c1, c2, c3, c4, c5, c6, -⟩ := id hbx
  have hz := hB.trans (hb.mono hB.size)
  clear hb hC hB hbx
  go_wp2_with fail
  refine (hI _).mono ?_
  rintro e _ ⟨rfl, rfl⟩
  go_wp2
  go_ret
  exact ⟨ret_bool (HR.out.trans (decide_eq_true HN.out)).symm, hz⟩
end Go.Proofs.YthekkjfaaedamaaGreatDoor

namespace Go.Proofs.YthekkjfaaedamaaGreatDoor
open Go.RowKit

set_option maxRecDepth 100000 in
set_option maxHeartbeats 4000000 in
theorem delMay_any (s q n a size : Int) (t : ByteArray) (ao : Option Addr) (cap : Nat) (xs : List Sp) (w : World) (hS : SpAt w (.slice ao xs.length cap) xs) (hx : xs.length ≤ 2000000) (hwf : sWf xs) (hs0 : 0 ≤ size) (hs1 : size ≤ 20000) :
  Calls Tryz.prog 157 #[.agg #[], .agg #[.int .i64 s, .int .i64 q, .int .i64 n, .int .i64 2, .int .i64 a, .string t, .slice ao xs.length cap], .int .i64 size] w fun e w' =>
   e = .returned (.bool (decide (a = 0) && decide (t.data.toList = []) && sMay xs && xs.all fun s => decide (s.1 + s.2 ≤ size))) ∧ Below w.heap.size w w' := by
 have hB0 := (Below.refl w.heap.size w).alloc (Nat.le_refl _) (.cells #[] 162)
 have hbx := OBox.newAt s q n 2 a t (.slice ao xs.length cap) (w.alloc (.cells #[] 162)) 45 (N := w.heap.size + 1) (by simp)
 have hM := fun W H => spMay_any (.slice ao xs.length cap) xs W H hx hwf
 have hA := fun W H => spAhead_any (.slice ao xs.length cap) xs size W H hx hwf
 have hT := fun W H => spTotal_any (.slice ao xs.length cap) xs W H hx hwf
 obtain ⟨r, hr⟩ : ∃ r, (decide (a = 0) && decide (t.data.toList = []) && sMay xs && xs.all fun s => decide (s.1 + s.2 ≤ size)) = r := ⟨_, rfl⟩
 rw [hr]
 have h0 := hS.below hB0
 have HB0 := Lib.hid hB0
 clear hB0 hS
 by_cases p1 : a = 0
 case neg =>
  rw [decide_eq_false p1, Bool.false_and, Bool.false_and, Bool.false_and] at hr
  have HR := Lib.hid hr
  have p2 : (a == 0) = false := beq_eq_false_iff_ne.2 p1
  clear hr p1 hM hA hT h0
  go_enter Tryz.func157, Tryz.ntmps157
  go_wp2_with fail
  refine wp_region_held_drew (S := fun W => OBox (w.heap.size + 1) s q n 2 a t (.slice ao xs.length cap) (w.alloc (.cells #[] 162)) W) (by kernel_rfl) (hbx.keep (Below.refl _ _).drew) (fun hHeld => ?_)
  clear hbx
  refine tk (i := 0) (v := .pointer (some ⟨w.heap.size + 1, 4, none⟩)) rfl (Or.inl ⟨rfl, fun W hS => by go_simp⟩) ?_
  refine tk (i := 1) (v := .int .i64 a) rfl (Or.inl ⟨rfl, fun W hS => ?_⟩) ?_
  ·obtain ⟨c0, c1, c2, c3, c4, c5, c6, -⟩ := hS
   go_simp
  simp only [Act.put, List.getElem_toArray, List.getElem_cons_succ, List.getElem_cons_zero, List.setIfInBounds_toArray, List.set_cons_zero, List.set_cons_succ]
  refine tk (i := 2) (v := .bool false) rfl (Or.inl ⟨rfl, fun W hS => by go_simp⟩) ?_
  simp only [Act.put, List.getElem_toArray, List.getElem_cons_succ, List.getElem_cons_zero, List.setIfInBounds_toArray, List.set_cons_zero, List.set_cons_succ]
  refine tk (i := 3) (v := .bool false) rfl (Or.inl ⟨rfl, fun W hS => by go_simp⟩) ?_
  simp only [Act.put, List.getElem_toArray, List.getElem_cons_succ, List.getElem_cons_zero, List.setIfInBounds_toArray, List.set_cons_zero, List.set_cons_succ]
  refine tk (i := 4) (v := undef) rfl (Or.inr ⟨rfl, rfl⟩) ?_
  simp only [Act.put, List.getElem_toArray, List.getElem_cons_succ, List.getElem_cons_zero, List.setIfInBounds_toArray, List.set_cons_zero, List.set_cons_succ]
  refine tk (i := 5) (v := undef) rfl (Or.inr ⟨rfl, rfl⟩) ?_
  simp only [Act.put, List.getElem_toArray, List.getElem_cons_succ, List.getElem_cons_zero, List.setIfInBounds_toArray, List.set_cons_zero, List.set_cons_succ]
  refine tk (i := 6) (v := undef) rfl (Or.inr ⟨rfl, rfl⟩) ?_
  simp only [Act.put, List.getElem_toArray, List.getElem_cons_succ, List.getElem_cons_zero, List.setIfInBounds_toArray, List.set_cons_zero, List.set_cons_succ]
  refine tk (i := 7) (v := .bool false) rfl (Or.inl ⟨rfl, fun W hS => by go_simp⟩) ?_
  simp only [Act.put, List.getElem_toArray, List.getElem_cons_succ, List.getElem_cons_zero, List.setIfInBounds_toArray, List.set_cons_zero, List.set_cons_succ]
  refine tk (i := 8) (v := .bool false) rfl (Or.inl ⟨rfl, fun W hS => by go_simp⟩) ?_
  simp only [Act.put, List.getElem_toArray, List.getElem_cons_succ, List.getElem_cons_zero, List.setIfInBounds_toArray, List.set_cons_zero, List.set_cons_succ]
  refine tk (i := 9) (v := undef) rfl (Or.inr ⟨rfl, rfl⟩) ?_
  simp only [Act.put, List.getElem_toArray, List.getElem_cons_succ, List.getElem_cons_zero, List.setIfInBounds_toArray, List.set_cons_zero, List.set_cons_succ]
  refine tk (i := 10) (v := undef) rfl (Or.inr ⟨rfl, rfl⟩) ?_
  simp only [Act.put, List.getElem_toArray, List.getElem_cons_succ, List.getElem_cons_zero, List.setIfInBounds_toArray, List.set_cons_zero, List.set_cons_succ]
  refine tk (i := 11) (v := undef) rfl (Or.inr ⟨rfl, rfl⟩) ?_
  simp only [Act.put, List.getElem_toArray, List.getElem_cons_succ, List.getElem_cons_zero, List.setIfInBounds_toArray, List.set_cons_zero, List.set_cons_succ]
  refine tk (i := 12) (v := .bool false) rfl (Or.inl ⟨rfl, fun W hS => by go_simp⟩) ?_
  simp only [Act.put, List.getElem_toArray, List.getElem_cons_succ, List.getElem_cons_zero, List.setIfInBounds_toArray, List.set_cons_zero, List.set_cons_succ]
  refine tk (i := 13) (v := .bool false) rfl (Or.inl ⟨rfl, fun W hS => by go_simp⟩) ?_
  simp only [Act.put, List.getElem_toArray, List.getElem_cons_succ, List.getElem_cons_zero, List.setIfInBounds_toArray, List.set_cons_zero, List.set_cons_succ]
  refine tk (i := 14) (v := undef) rfl (Or.inr ⟨rfl, rfl⟩) ?_
  simp only [Act.put, List.getElem_toArray, List.getElem_cons_succ, List.getElem_cons_zero, List.setIfInBounds_toArray, List.set_cons_zero, List.set_cons_succ]
  refine tk (i := 15) (v := undef) rfl (Or.inr ⟨rfl, rfl⟩) ?_
  simp only [Act.put, List.getElem_toArray, List.getElem_cons_succ, List.getElem_cons_zero, List.setIfInBounds_toArray, List.set_cons_zero, List.set_cons_succ]
  refine tk (i := 16) (v := undef) rfl (Or.inr ⟨rfl, rfl⟩) ?_
  simp only [Act.put, List.getElem_toArray, List.getElem_cons_succ, List.getElem_cons_zero, List.setIfInBounds_toArray, List.set_cons_zero, List.set_cons_succ]
  refine tk (i := 17) (v := undef) rfl (Or.inr ⟨rfl, rfl⟩) ?_
  simp only [Act.put, List.getElem_toArray, List.getElem_cons_succ, List.getElem_cons_zero, List.setIfInBounds_toArray, List.set_cons_zero, List.set_cons_succ]
  refine tk (i := 18) (v := undef) rfl (Or.inr ⟨rfl, rfl⟩) ?_
  simp only [Act.put, List.getElem_toArray, List.getElem_cons_succ, List.getElem_cons_zero, List.setIfInBounds_toArray, List.set_cons_zero, List.set_cons_succ]
  refine tk (i := 19) (v := undef) rfl (Or.inr ⟨rfl, rfl⟩) ?_
  simp only [Act.put, List.getElem_toArray, List.getElem_cons_succ, List.getElem_cons_zero, List.setIfInBounds_toArray, List.set_cons_zero, List.set_cons_succ]
  refine tk (i := 20) (v := undef) rfl (Or.inr ⟨rfl, rfl⟩) ?_
  simp only [Act.put, List.getElem_toArray, List.getElem_cons_succ, List.getElem_cons_zero, List.setIfInBounds_toArray, List.set_cons_zero, List.set_cons_succ]
  refine tk (i := 21) (v := undef) rfl (Or.inr ⟨rfl, rfl⟩) ?_
  simp only [Act.put, List.getElem_toArray, List.getElem_cons_succ, List.getElem_cons_zero, List.setIfInBounds_toArray, List.set_cons_zero, List.set_cons_succ]
  refine tk (i := 22) (v := .bool false) rfl (Or.inl ⟨rfl, fun W hS => by go_simp⟩) ?_
  simp only [Act.put, List.getElem_toArray, List.getElem_cons_succ, List.getElem_cons_zero, List.setIfInBounds_toArray, List.set_cons_zero, List.set_cons_succ]
  refine tk (i := 23) (v := .bool false) rfl (Or.inl ⟨rfl, fun W hS => by go_simp⟩) ?_
  simp only [Act.put, List.getElem_toArray, List.getElem_cons_succ, List.getElem_cons_zero, List.setIfInBounds_toArray, List.set_cons_zero, List.set_cons_succ]
  refine wpAnyH_done (by kernel_rfl) ?_ _
  have hz := HB0.out.trans (hHeld.2.2.2.2.2.2.2.mono (by simp))
  go_wp2
  go_ret
  exact ⟨ret_bool HR.out, hz⟩
 subst p1
 rw [decide_eq_true rfl, Bool.true_and] at hr
 by_cases t0 : t.data.toList = []
 case neg =>
  rw [decide_eq_false t0, Bool.false_and, Bool.false_and] at hr
  have HR := Lib.hid hr
  have t0' : ¬ t.toList = [] := by rw [list_data]; exact t0
  clear hr hM hA hT h0 t0
  go_enter Tryz.func157, Tryz.ntmps157
  go_wp2_with fail
  refine wp_region_held_drew (S := fun W => OBox (w.heap.size + 1) s q n 2 0 t (.slice ao xs.length cap) (w.alloc (.cells #[] 162)) W) (by kernel_rfl) (hbx.keep (Below.refl _ _).drew) (fun hHeld => ?_)
  clear hbx
  refine tk (i := 0) (v := .pointer (some ⟨w.heap.size + 1, 4, none⟩)) rfl (Or.inl ⟨rfl, fun W hS => by go_simp⟩) ?_
  refine tk (i := 1) (v := .int .i64 0) rfl (Or.inl ⟨rfl, fun W hS => ?_⟩) ?_
  ·obtain ⟨c0, c1, c2, c3, c4, c5, c6, -⟩ := hS
   go_simp
  simp only [Act.put, List.getElem_toArray, List.getElem_cons_succ, List.getElem_cons_zero, List.setIfInBounds_toArray, List.set_cons_zero, List.set_cons_succ]
  refine tk (i := 2) (v := .bool true) rfl (Or.inl ⟨rfl, fun W hS => by go_simp⟩) ?_
  simp only [Act.put, List.getElem_toArray, List.getElem_cons_succ, List.getElem_cons_zero, List.setIfInBounds_toArray, List.set_cons_zero, List.set_cons_succ]
  refine tk (i := 3) (v := .bool true) rfl (Or.inl ⟨rfl, fun W hS => by go_simp⟩) ?_
  simp only [Act.put, List.getElem_toArray, List.getElem_cons_succ, List.getElem_cons_zero, List.setIfInBounds_toArray, List.set_cons_zero, List.set_cons_succ]
  refine tk (i := 4) (v := .pointer (some ⟨w.heap.size + 1, 5, none⟩)) rfl (Or.inl ⟨rfl, fun W hS => by go_simp⟩) ?_
  simp only [Act.put, List.getElem_toArray, List.getElem_cons_succ, List.getElem_cons_zero, List.setIfInBounds_toArray, List.set_cons_zero, List.set_cons_succ]
  refine tk (i := 5) (v := .string t) rfl (Or.inl ⟨rfl, fun W hS => ?_⟩) ?_
  ·obtain ⟨c0, c1, c2, c3, c4, c5, c6, -⟩ := hS
   go_simp
  simp only [Act.put, List.getElem_toArray, List.getElem_cons_succ, List.getElem_cons_zero, List.setIfInBounds_toArray, List.set_cons_zero, List.set_cons_succ]
  refine tk (i := 6) (v := .bool false) rfl (Or.inl ⟨rfl, fun W hS => by go_simp⟩) ?_
  simp only [Act.put, List.getElem_toArray, List.getElem_cons_succ, List.getElem_cons_zero, List.setIfInBounds_toArray, List.set_cons_zero, List.set_cons_succ]
  refine tk (i := 7) (v := .bool false) rfl (Or.inl ⟨rfl, fun W hS => by go_simp⟩) ?_
  simp only [Act.put, List.getElem_toArray, List.getElem_cons_succ, List.getElem_cons_zero, List.setIfInBounds_toArray, List.set_cons_zero, List.set_cons_succ]
  refine tk (i := 8) (v := .bool false) rfl (Or.inl ⟨rfl, fun W hS => by go_simp⟩) ?_
  simp only [Act.put, List.getElem_toArray, List.getElem_cons_succ, List.getElem_cons_zero, List.setIfInBounds_toArray, List.set_cons_zero, List.set_cons_succ]
  refine tk (i := 9) (v := undef) rfl (Or.inr ⟨rfl, rfl⟩) ?_
  simp only [Act.put, List.getElem_toArray, List.getElem_cons_succ, List.getElem_cons_zero, List.setIfInBounds_toArray, List.set_cons_zero, List.set_cons_succ]
  refine tk (i := 10) (v := undef) rfl (Or.inr ⟨rfl, rfl⟩) ?_
  simp only [Act.put, List.getElem_toArray, List.getElem_cons_succ, List.getElem_cons_zero, List.setIfInBounds_toArray, List.set_cons_zero, List.set_cons_succ]
  refine tk (i := 11) (v := undef) rfl (Or.inr ⟨rfl, rfl⟩) ?_
  simp only [Act.put, List.getElem_toArray, List.getElem_cons_succ, List.getElem_cons_zero, List.setIfInBounds_toArray, List.set_cons_zero, List.set_cons_succ]
  refine tk (i := 12) (v := .bool false) rfl (Or.inl ⟨rfl, fun W hS => by go_simp⟩) ?_
  simp only [Act.put, List.getElem_toArray, List.getElem_cons_succ, List.getElem_cons_zero, List.setIfInBounds_toArray, List.set_cons_zero, List.set_cons_succ]
  refine tk (i := 13) (v := .bool false) rfl (Or.inl ⟨rfl, fun W hS => by go_simp⟩) ?_
  simp only [Act.put, List.getElem_toArray, List.getElem_cons_succ, List.getElem_cons_zero, List.setIfInBounds_toArray, List.set_cons_zero, List.set_cons_succ]
  refine tk (i := 14) (v := undef) rfl (Or.inr ⟨rfl, rfl⟩) ?_
  simp only [Act.put, List.getElem_toArray, List.getElem_cons_succ, List.getElem_cons_zero, List.setIfInBounds_toArray, List.set_cons_zero, List.set_cons_succ]
  refine tk (i := 15) (v := undef) rfl (Or.inr ⟨rfl, rfl⟩) ?_
  simp only [Act.put, List.getElem_toArray, List.getElem_cons_succ, List.getElem_cons_zero, List.setIfInBounds_toArray, List.set_cons_zero, List.set_cons_succ]
  refine tk (i := 16) (v := undef) rfl (Or.inr ⟨rfl, rfl⟩) ?_
  simp only [Act.put, List.getElem_toArray, List.getElem_cons_succ, List.getElem_cons_zero, List.setIfInBounds_toArray, List.set_cons_zero, List.set_cons_succ]
  refine tk (i := 17) (v := undef) rfl (Or.inr ⟨rfl, rfl⟩) ?_
  simp only [Act.put, List.getElem_toArray, List.getElem_cons_succ, List.getElem_cons_zero, List.setIfInBounds_toArray, List.set_cons_zero, List.set_cons_succ]
  refine tk (i := 18) (v := undef) rfl (Or.inr ⟨rfl, rfl⟩) ?_
  simp only [Act.put, List.getElem_toArray, List.getElem_cons_succ, List.getElem_cons_zero, List.setIfInBounds_toArray, List.set_cons_zero, List.set_cons_succ]
  refine tk (i := 19) (v := undef) rfl (Or.inr ⟨rfl, rfl⟩) ?_
  simp only [Act.put, List.getElem_toArray, List.getElem_cons_succ, List.getElem_cons_zero, List.setIfInBounds_toArray, List.set_cons_zero, List.set_cons_succ]
  refine tk (i := 20) (v := undef) rfl (Or.inr ⟨rfl, rfl⟩) ?_
  simp only [Act.put, List.getElem_toArray, List.getElem_cons_succ, List.getElem_cons_zero, List.setIfInBounds_toArray, List.set_cons_zero, List.set_cons_succ]
  refine tk (i := 21) (v := undef) rfl (Or.inr ⟨rfl, rfl⟩) ?_
  simp only [Act.put, List.getElem_toArray, List.getElem_cons_succ, List.getElem_cons_zero, List.setIfInBounds_toArray, List.set_cons_zero, List.set_cons_succ]
  refine tk (i := 22) (v := .bool false) rfl (Or.inl ⟨rfl, fun W hS => by go_simp⟩) ?_
  simp only [Act.put, List.getElem_toArray, List.getElem_cons_succ, List.getElem_cons_zero, List.setIfInBounds_toArray, List.set_cons_zero, List.set_cons_succ]
  refine tk (i := 23) (v := .bool false) rfl (Or.inl ⟨rfl, fun W hS => by go_simp⟩) ?_
  simp only [Act.put, List.getElem_toArray, List.getElem_cons_succ, List.getElem_cons_zero, List.setIfInBounds_toArray, List.set_cons_zero, List.set_cons_succ]
  refine wpAnyH_done (by kernel_rfl) ?_ _
  have hz := HB0.out.trans (hHeld.2.2.2.2.2.2.2.mono (by simp))
  go_wp2
  go_ret
  exact ⟨ret_bool HR.out, hz⟩
 have t0' : t.toList = [] := by rw [list_data]; exact t0
 rw [decide_eq_true t0, Bool.true_and] at hr
 have hSS : ∀ W, OBox (w.heap.size + 1) s q n 2 0 t (.slice ao xs.length cap) (w.alloc (.cells #[] 162)) W → SpAt W (.slice ao xs.length cap) xs := fun W hW => h0.below (by have h1 := hW.2.2.2.2.2.2.2; rwa [World.size_alloc])
 have HS := Lib.hid hSS
 clear t0 hSS h0
 cases hm : sMay xs with
 | false =>
  rw [hm, Bool.false_and] at hr
  rw [hm] at hM
  have HR := Lib.hid hr
  have HM := Lib.hid hM
  clear hr hM hA hT hm
  go_enter Tryz.func157, Tryz.ntmps157
  go_wp2_with fail
  refine wp_region_held_drew (S := fun W => OBox (w.heap.size + 1) s q n 2 0 t (.slice ao xs.length cap) (w.alloc (.cells #[] 162)) W) (by kernel_rfl) (hbx.keep (Below.refl _ _).drew) (fun hHeld => ?_)
  clear hbx
  refine tk (i := 0) (v := .pointer (some ⟨w.heap.size + 1, 4, none⟩)) rfl (Or.inl ⟨rfl, fun W hS => by go_simp⟩) ?_
  refine tk (i := 1) (v := .int .i64 0) rfl (Or.inl ⟨rfl, fun W hS => ?_⟩) ?_
  ·obtain ⟨c0, c1, c2, c3, c4, c5, c6, -⟩ := hS
   go_simp
  simp only [Act.put, List.getElem_toArray, List.getElem_cons_succ, List.getElem_cons_zero, List.setIfInBounds_toArray, List.set_cons_zero, List.set_cons_succ]
  refine tk (i := 2) (v := .bool true) rfl (Or.inl ⟨rfl, fun W hS => by go_simp⟩) ?_
  simp only [Act.put, List.getElem_toArray, List.getElem_cons_succ, List.getElem_cons_zero, List.setIfInBounds_toArray, List.set_cons_zero, List.set_cons_succ]
  refine tk (i := 3) (v := .bool true) rfl (Or.inl ⟨rfl, fun W hS => by go_simp⟩) ?_
  simp only [Act.put, List.getElem_toArray, List.getElem_cons_succ, List.getElem_cons_zero, List.setIfInBounds_toArray, List.set_cons_zero, List.set_cons_succ]
  refine tk (i := 4) (v := .pointer (some ⟨w.heap.size + 1, 5, none⟩)) rfl (Or.inl ⟨rfl, fun W hS => by go_simp⟩) ?_
  simp only [Act.put, List.getElem_toArray, List.getElem_cons_succ, List.getElem_cons_zero, List.setIfInBounds_toArray, List.set_cons_zero, List.set_cons_succ]
  refine tk (i := 5) (v := .string t) rfl (Or.inl ⟨rfl, fun W hS => ?_⟩) ?_
  ·obtain ⟨c0, c1, c2, c3, c4, c5, c6, -⟩ := hS
   go_simp
  simp only [Act.put, List.getElem_toArray, List.getElem_cons_succ, List.getElem_cons_zero, List.setIfInBounds_toArray, List.set_cons_zero, List.set_cons_succ]
  refine tk (i := 6) (v := .bool true) rfl (Or.inl ⟨rfl, fun W hS => by go_simp⟩) ?_
  simp only [Act.put, List.getElem_toArray, List.getElem_cons_succ, List.getElem_cons_zero, List.setIfInBounds_toArray, List.set_cons_zero, List.set_cons_succ]
  refine tk (i := 7) (v := .bool true) rfl (Or.inl ⟨rfl, fun W hS => by go_simp⟩) ?_
  simp only [Act.put, List.getElem_toArray, List.getElem_cons_succ, List.getElem_cons_zero, List.setIfInBounds_toArray, List.set_cons_zero, List.set_cons_succ]
  refine tk (i := 8) (v := .bool true) rfl (Or.inl ⟨rfl, fun W hS => by go_simp⟩) ?_
  simp only [Act.put, List.getElem_toArray, List.getElem_cons_succ, List.getElem_cons_zero, List.setIfInBounds_toArray, List.set_cons_zero, List.set_cons_succ]
  refine tk (i := 9) (v := .pointer (some ⟨w.heap.size + 1, 6, none⟩)) rfl (Or.inl ⟨rfl, fun W hS => by go_simp⟩) ?_
  simp only [Act.put, List.getElem_toArray, List.getElem_cons_succ, List.getElem_cons_zero, List.setIfInBounds_toArray, List.set_cons_zero, List.set_cons_succ]
  refine tk (i := 10) (v := .slice ao xs.length cap) rfl (Or.inl ⟨rfl, fun W hS => ?_⟩) ?_
  ·obtain ⟨c0, c1, c2, c3, c4, c5, c6, -⟩ := hS
   go_simp
  simp only [Act.put, List.getElem_toArray, List.getElem_cons_succ, List.getElem_cons_zero, List.setIfInBounds_toArray, List.set_cons_zero, List.set_cons_succ]
  refine wpAnyH_ready (rs := [11]) (by kernel_rfl) (by simp) (AllReadyH.cons rfl (fun K hK => ?_) AllReadyH.nil)
  go_simp
  go_wp2_with (go_at_call 160; refine (HM.out _ (HS.out _ hHeld)).mono ?_; rintro e wq ⟨rfl, hb⟩)
  refine hK.out _ _ (hHeld.keep hb) (fun hX => ?_)
  clear hK K hHeld
  have hHeld := hX
  clear hX
  refine tk (i := 12) (v := .bool false) rfl (Or.inl ⟨rfl, fun W hS => by go_simp⟩) ?_
  simp only [Act.put, List.getElem_toArray, List.getElem_cons_succ, List.getElem_cons_zero, List.setIfInBounds_toArray, List.set_cons_zero, List.set_cons_succ]
  refine tk (i := 13) (v := .bool false) rfl (Or.inl ⟨rfl, fun W hS => by go_simp⟩) ?_
  simp only [Act.put, List.getElem_toArray, List.getElem_cons_succ, List.getElem_cons_zero, List.setIfInBounds_toArray, List.set_cons_zero, List.set_cons_succ]
  refine tk (i := 14) (v := undef) rfl (Or.inr ⟨rfl, rfl⟩) ?_
  simp only [Act.put, List.getElem_toArray, List.getElem_cons_succ, List.getElem_cons_zero, List.setIfInBounds_toArray, List.set_cons_zero, List.set_cons_succ]
  refine tk (i := 15) (v := undef) rfl (Or.inr ⟨rfl, rfl⟩) ?_
  simp only [Act.put, List.getElem_toArray, List.getElem_cons_succ, List.getElem_cons_zero, List.setIfInBounds_toArray, List.set_cons_zero, List.set_cons_succ]
  refine tk (i := 16) (v := undef) rfl (Or.inr ⟨rfl, rfl⟩) ?_
  simp only [Act.put, List.getElem_toArray, List.getElem_cons_succ, List.getElem_cons_zero, List.setIfInBounds_toArray, List.set_cons_zero, List.set_cons_succ]
  refine tk (i := 17) (v := undef) rfl (Or.inr ⟨rfl, rfl⟩) ?_
  simp only [Act.put, List.getElem_toArray, List.getElem_cons_succ, List.getElem_cons_zero, List.setIfInBounds_toArray, List.set_cons_zero, List.set_cons_succ]
  refine tk (i := 18) (v := undef) rfl (Or.inr ⟨rfl, rfl⟩) ?_
  simp only [Act.put, List.getElem_toArray, List.getElem_cons_succ, List.getElem_cons_zero, List.setIfInBounds_toArray, List.set_cons_zero, List.set_cons_succ]
  refine tk (i := 19) (v := undef) rfl (Or.inr ⟨rfl, rfl⟩) ?_
  simp only [Act.put, List.getElem_toArray, List.getElem_cons_succ, List.getElem_cons_zero, List.setIfInBounds_toArray, List.set_cons_zero, List.set_cons_succ]
  refine tk (i := 20) (v := undef) rfl (Or.inr ⟨rfl, rfl⟩) ?_
  simp only [Act.put, List.getElem_toArray, List.getElem_cons_succ, List.getElem_cons_zero, List.setIfInBounds_toArray, List.set_cons_zero, List.set_cons_succ]
  refine tk (i := 21) (v := undef) rfl (Or.inr ⟨rfl, rfl⟩) ?_
  simp only [Act.put, List.getElem_toArray, List.getElem_cons_succ, List.getElem_cons_zero, List.setIfInBounds_toArray, List.set_cons_zero, List.set_cons_succ]
  refine tk (i := 22) (v := .bool false) rfl (Or.inl ⟨rfl, fun W hS => by go_simp⟩) ?_
  simp only [Act.put, List.getElem_toArray, List.getElem_cons_succ, List.getElem_cons_zero, List.setIfInBounds_toArray, List.set_cons_zero, List.set_cons_succ]
  refine tk (i := 23) (v := .bool false) rfl (Or.inl ⟨rfl, fun W hS => by go_simp⟩) ?_
  simp only [Act.put, List.getElem_toArray, List.getElem_cons_succ, List.getElem_cons_zero, List.setIfInBounds_toArray, List.set_cons_zero, List.set_cons_succ]
  refine wpAnyH_done (by kernel_rfl) ?_ _
  have hz := HB0.out.trans (hHeld.2.2.2.2.2.2.2.mono (by simp))
  go_wp2
  go_ret
  exact ⟨ret_bool HR.out, hz⟩
 | true =>
  rw [hm, Bool.true_and] at hr
  have hc := cnt_ahead ((sMay_good xs).1 hm) size.toNat (by omega)
  rw [show (fun s : Sp => decide (s.1 + s.2 ≤ (size.toNat : Int))) = fun s => decide (s.1 + s.2 ≤ size) by rw [Int.toNat_of_nonneg hs0]] at hc
  rw [hr] at hc
  rw [hm] at hM
  simp only [hm, if_true, show min 20000 size.toNat = size.toNat by omega] at hA hT
  generalize cntTo (sMark xs) size.toNat = u at *
  generalize cntTo (sMark xs) 20000 = z at *
  have HR := Lib.hid hc
  have HM := Lib.hid hM
  have HA := Lib.hid hA
  have HT := Lib.hid hT
  clear hr hM hA hT hm hc
  by_cases g : u = z
  ·subst g
   go_enter Tryz.func157, Tryz.ntmps157
   go_wp2_with fail
   refine wp_region_held_drew (S := fun W => OBox (w.heap.size + 1) s q n 2 0 t (.slice ao xs.length cap) (w.alloc (.cells #[] 162)) W) (by kernel_rfl) (hbx.keep (Below.refl _ _).drew) (fun hHeld => ?_)
   clear hbx
   refine tk (i := 0) (v := .pointer (some ⟨w.heap.size + 1, 4, none⟩)) rfl (Or.inl ⟨rfl, fun W hS => by go_simp⟩) ?_
   refine tk (i := 1) (v := .int .i64 0) rfl (Or.inl ⟨rfl, fun W hS => ?_⟩) ?_
   ·obtain ⟨c0, c1, c2, c3, c4, c5, c6, -⟩ := hS
    go_simp
   simp only [Act.put, List.getElem_toArray, List.getElem_cons_succ, List.getElem_cons_zero, List.setIfInBounds_toArray, List.set_cons_zero, List.set_cons_succ]
   refine tk (i := 2) (v := .bool true) rfl (Or.inl ⟨rfl, fun W hS => by go_simp⟩) ?_
   simp only [Act.put, List.getElem_toArray, List.getElem_cons_succ, List.getElem_cons_zero, List.setIfInBounds_toArray, List.set_cons_zero, List.set_cons_succ]
   refine tk (i := 3) (v := .bool true) rfl (Or.inl ⟨rfl, fun W hS => by go_simp⟩) ?_
   simp only [Act.put, List.getElem_toArray, List.getElem_cons_succ, List.getElem_cons_zero, List.setIfInBounds_toArray, List.set_cons_zero, List.set_cons_succ]
   refine tk (i := 4) (v := .pointer (some ⟨w.heap.size + 1, 5, none⟩)) rfl (Or.inl ⟨rfl, fun W hS => by go_simp⟩) ?_
   simp only [Act.put, List.getElem_toArray, List.getElem_cons_succ, List.getElem_cons_zero, List.setIfInBounds_toArray, List.set_cons_zero, List.set_cons_succ]
   refine tk (i := 5) (v := .string t) rfl (Or.inl ⟨rfl, fun W hS => ?_⟩) ?_
   ·obtain ⟨c0, c1, c2, c3, c4, c5, c6, -⟩ := hS
    go_simp
   simp only [Act.put, List.getElem_toArray, List.getElem_cons_succ, List.getElem_cons_zero, List.setIfInBounds_toArray, List.set_cons_zero, List.set_cons_succ]
   refine tk (i := 6) (v := .bool true) rfl (Or.inl ⟨rfl, fun W hS => by go_simp⟩) ?_
   simp only [Act.put, List.getElem_toArray, List.getElem_cons_succ, List.getElem_cons_zero, List.setIfInBounds_toArray, List.set_cons_zero, List.set_cons_succ]
   refine tk (i := 7) (v := .bool true) rfl (Or.inl ⟨rfl, fun W hS => by go_simp⟩) ?_
   simp only [Act.put, List.getElem_toArray, List.getElem_cons_succ, List.getElem_cons_zero, List.setIfInBounds_toArray, List.set_cons_zero, List.set_cons_succ]
   refine tk (i := 8) (v := .bool true) rfl (Or.inl ⟨rfl, fun W hS => by go_simp⟩) ?_
   simp only [Act.put, List.getElem_toArray, List.getElem_cons_succ, List.getElem_cons_zero, List.setIfInBounds_toArray, List.set_cons_zero, List.set_cons_succ]
   refine tk (i := 9) (v := .pointer (some ⟨w.heap.size + 1, 6, none⟩)) rfl (Or.inl ⟨rfl, fun W hS => by go_simp⟩) ?_
   simp only [Act.put, List.getElem_toArray, List.getElem_cons_succ, List.getElem_cons_zero, List.setIfInBounds_toArray, List.set_cons_zero, List.set_cons_succ]
   refine tk (i := 10) (v := .slice ao xs.length cap) rfl (Or.inl ⟨rfl, fun W hS => ?_⟩) ?_
   ·obtain ⟨c0, c1, c2, c3, c4, c5, c6, -⟩ := hS
    go_simp
   simp only [Act.put, List.getElem_toArray, List.getElem_cons_succ, List.getElem_cons_zero, List.setIfInBounds_toArray, List.set_cons_zero, List.set_cons_succ]
   refine wpAnyH_ready (rs := [11]) (by kernel_rfl) (by simp) (AllReadyH.cons rfl (fun K hK => ?_) AllReadyH.nil)
   go_simp
   go_wp2_with (go_at_call 160; refine (HM.out _ (HS.out _ hHeld)).mono ?_; rintro e wq ⟨rfl, hb⟩)
   refine hK.out _ _ (hHeld.keep hb) (fun hX => ?_)
   clear hK K hHeld
   have hHeld := hX
   clear hX
   refine tk (i := 12) (v := .bool true) rfl (Or.inl ⟨rfl, fun W hS => by go_simp⟩) ?_
   simp only [Act.put, List.getElem_toArray, List.getElem_cons_succ, List.getElem_cons_zero, List.setIfInBounds_toArray, List.set_cons_zero, List.set_cons_succ]
   refine tk (i := 13) (v := .bool true) rfl (Or.inl ⟨rfl, fun W hS => by go_simp⟩) ?_
   simp only [Act.put, List.getElem_toArray, List.getElem_cons_succ, List.getElem_cons_zero, List.setIfInBounds_toArray, List.set_cons_zero, List.set_cons_succ]
   refine tk (i := 14) (v := .pointer (some ⟨w.heap.size + 1, 6, none⟩)) rfl (Or.inl ⟨rfl, fun W hS => by go_simp⟩) ?_
   simp only [Act.put, List.getElem_toArray, List.getElem_cons_succ, List.getElem_cons_zero, List.setIfInBounds_toArray, List.set_cons_zero, List.set_cons_succ]
   refine tk (i := 15) (v := .slice ao xs.length cap) rfl (Or.inl ⟨rfl, fun W hS => ?_⟩) ?_
   ·obtain ⟨c0, c1, c2, c3, c4, c5, c6, -⟩ := hS
    go_simp
   simp only [Act.put, List.getElem_toArray, List.getElem_cons_succ, List.getElem_cons_zero, List.setIfInBounds_toArray, List.set_cons_zero, List.set_cons_succ]
   refine tk (i := 16) (v := .int .i64 size) rfl (Or.inl ⟨rfl, fun W hS => by go_simp⟩) ?_
   simp only [Act.put, List.getElem_toArray, List.getElem_cons_succ, List.getElem_cons_zero, List.setIfInBounds_toArray, List.set_cons_zero, List.set_cons_succ]
   refine tk (i := 18) (v := .pointer (some ⟨w.heap.size + 1, 6, none⟩)) rfl (Or.inl ⟨rfl, fun W hS => by go_simp⟩) ?_
   simp only [Act.put, List.getElem_toArray, List.getElem_cons_succ, List.getElem_cons_zero, List.setIfInBounds_toArray, List.set_cons_zero, List.set_cons_succ]
   refine tk (i := 19) (v := .slice ao xs.length cap) rfl (Or.inl ⟨rfl, fun W hS => ?_⟩) ?_
   ·obtain ⟨c0, c1, c2, c3, c4, c5, c6, -⟩ := hS
    go_simp
   simp only [Act.put, List.getElem_toArray, List.getElem_cons_succ, List.getElem_cons_zero, List.setIfInBounds_toArray, List.set_cons_zero, List.set_cons_succ]
   refine wpAnyH_ready (rs := [17]) (by kernel_rfl) (by simp) (AllReadyH.cons rfl (fun K hK => ?_) AllReadyH.nil)
   go_simp
   go_wp2_with (go_at_call 161; refine (HA.out _ (HS.out _ hHeld)).mono ?_; rintro e wq ⟨rfl, hb⟩)
   refine hK.out _ _ (hHeld.keep hb) (fun hX => ?_)
   clear hK K hHeld
   have hHeld := hX
   clear hX
   refine wpAnyH_ready (rs := [20]) (by kernel_rfl) (by simp) (AllReadyH.cons rfl (fun K hK => ?_) AllReadyH.nil)
   go_simp
   go_wp2_with (go_at_call 162; refine (HT.out _ (HS.out _ hHeld)).mono ?_; rintro e wq ⟨rfl, hb⟩)
   refine hK.out _ _ (hHeld.keep hb) (fun hX => ?_)
   clear hK K hHeld
   have hHeld := hX
   clear hX
   refine tk (i := 21) (v := .bool true) rfl (Or.inl ⟨rfl, fun W hS => by go_simp⟩) ?_
   simp only [Act.put, List.getElem_toArray, List.getElem_cons_succ, List.getElem_cons_zero, List.setIfInBounds_toArray, List.set_cons_zero, List.set_cons_succ]
   refine tk (i := 22) (v := .bool true) rfl (Or.inl ⟨rfl, fun W hS => by go_simp⟩) ?_
   simp only [Act.put, List.getElem_toArray, List.getElem_cons_succ, List.getElem_cons_zero, List.setIfInBounds_toArray, List.set_cons_zero, List.set_cons_succ]
   refine tk (i := 23) (v := .bool true) rfl (Or.inl ⟨rfl, fun W hS => by go_simp⟩) ?_
   simp only [Act.put, List.getElem_toArray, List.getElem_cons_succ, List.getElem_cons_zero, List.setIfInBounds_toArray, List.set_cons_zero, List.set_cons_succ]
   refine wpAnyH_done (by kernel_rfl) ?_ _
   have hz := HB0.out.trans (hHeld.2.2.2.2.2.2.2.mono (by simp))
   go_wp2
   go_ret
   exact ⟨ret_bool ((decide_eq_true trivial).symm.trans HR.out), hz⟩
  ·have g1 : ((u : Int) == (z : Int)) = false := beq_eq_false_iff_ne.2 (by omega)
   have HG := Lib.hid g
   clear g
   go_enter Tryz.func157, Tryz.ntmps157
   go_wp2_with fail
   refine wp_region_held_drew (S := fun W => OBox (w.heap.size + 1) s q n 2 0 t (.slice ao xs.length cap) (w.alloc (.cells #[] 162)) W) (by kernel_rfl) (hbx.keep (Below.refl _ _).drew) (fun hHeld => ?_)
   clear hbx
   refine tk (i := 0) (v := .pointer (some ⟨w.heap.size + 1, 4, none⟩)) rfl (Or.inl ⟨rfl, fun W hS => by go_simp⟩) ?_
   refine tk (i := 1) (v := .int .i64 0) rfl (Or.inl ⟨rfl, fun W hS => ?_⟩) ?_
   ·obtain ⟨c0, c1, c2, c3, c4, c5, c6, -⟩ := hS
    go_simp
   simp only [Act.put, List.getElem_toArray, List.getElem_cons_succ, List.getElem_cons_zero, List.setIfInBounds_toArray, List.set_cons_zero, List.set_cons_succ]
   refine tk (i := 2) (v := .bool true) rfl (Or.inl ⟨rfl, fun W hS => by go_simp⟩) ?_
   simp only [Act.put, List.getElem_toArray, List.getElem_cons_succ, List.getElem_cons_zero, List.setIfInBounds_toArray, List.set_cons_zero, List.set_cons_succ]
   refine tk (i := 3) (v := .bool true) rfl (Or.inl ⟨rfl, fun W hS => by go_simp⟩) ?_
   simp only [Act.put, List.getElem_toArray, List.getElem_cons_succ, List.getElem_cons_zero, List.setIfInBounds_toArray, List.set_cons_zero, List.set_cons_succ]
   refine tk (i := 4) (v := .pointer (some ⟨w.heap.size + 1, 5, none⟩)) rfl (Or.inl ⟨rfl, fun W hS => by go_simp⟩) ?_
   simp only [Act.put, List.getElem_toArray, List.getElem_cons_succ, List.getElem_cons_zero, List.setIfInBounds_toArray, List.set_cons_zero, List.set_cons_succ]
   refine tk (i := 5) (v := .string t) rfl (Or.inl ⟨rfl, fun W hS => ?_⟩) ?_
   ·obtain ⟨c0, c1, c2, c3, c4, c5, c6, -⟩ := hS
    go_simp
   simp only [Act.put, List.getElem_toArray, List.getElem_cons_succ, List.getElem_cons_zero, List.setIfInBounds_toArray, List.set_cons_zero, List.set_cons_succ]
   refine tk (i := 6) (v := .bool true) rfl (Or.inl ⟨rfl, fun W hS => by go_simp⟩) ?_
   simp only [Act.put, List.getElem_toArray, List.getElem_cons_succ, List.getElem_cons_zero, List.setIfInBounds_toArray, List.set_cons_zero, List.set_cons_succ]
   refine tk (i := 7) (v := .bool true) rfl (Or.inl ⟨rfl, fun W hS => by go_simp⟩) ?_
   simp only [Act.put, List.getElem_toArray, List.getElem_cons_succ, List.getElem_cons_zero, List.setIfInBounds_toArray, List.set_cons_zero, List.set_cons_succ]
   refine tk (i := 8) (v := .bool true) rfl (Or.inl ⟨rfl, fun W hS => by go_simp⟩) ?_
   simp only [Act.put, List.getElem_toArray, List.getElem_cons_succ, List.getElem_cons_zero, List.setIfInBounds_toArray, List.set_cons_zero, List.set_cons_succ]
   refine tk (i := 9) (v := .pointer (some ⟨w.heap.size + 1, 6, none⟩)) rfl (Or.inl ⟨rfl, fun W hS => by go_simp⟩) ?_
   simp only [Act.put, List.getElem_toArray, List.getElem_cons_succ, List.getElem_cons_zero, List.setIfInBounds_toArray, List.set_cons_zero, List.set_cons_succ]
   refine tk (i := 10) (v := .slice ao xs.length cap) rfl (Or.inl ⟨rfl, fun W hS => ?_⟩) ?_
   ·obtain ⟨c0, c1, c2, c3, c4, c5, c6, -⟩ := hS
    go_simp
   simp only [Act.put, List.getElem_toArray, List.getElem_cons_succ, List.getElem_cons_zero, List.setIfInBounds_toArray, List.set_cons_zero, List.set_cons_succ]
   refine wpAnyH_ready (rs := [11]) (by kernel_rfl) (by simp) (AllReadyH.cons rfl (fun K hK => ?_) AllReadyH.nil)
   go_simp
   go_wp2_with (go_at_call 160; refine (HM.out _ (HS.out _ hHeld)).mono ?_; rintro e wq ⟨rfl, hb⟩)
   refine hK.out _ _ (hHeld.keep hb) (fun hX => ?_)
   clear hK K hHeld
   have hHeld := hX
   clear hX
   refine tk (i := 12) (v := .bool true) rfl (Or.inl ⟨rfl, fun W hS => by go_simp⟩) ?_
   simp only [Act.put, List.getElem_toArray, List.getElem_cons_succ, List.getElem_cons_zero, List.setIfInBounds_toArray, List.set_cons_zero, List.set_cons_succ]
   refine tk (i := 13) (v := .bool true) rfl (Or.inl ⟨rfl, fun W hS => by go_simp⟩) ?_
   simp only [Act.put, List.getElem_toArray, List.getElem_cons_succ, List.getElem_cons_zero, List.setIfInBounds_toArray, List.set_cons_zero, List.set_cons_succ]
   refine tk (i := 14) (v := .pointer (some ⟨w.heap.size + 1, 6, none⟩)) rfl (Or.inl ⟨rfl, fun W hS => by go_simp⟩) ?_
   simp only [Act.put, List.getElem_toArray, List.getElem_cons_succ, List.getElem_cons_zero, List.setIfInBounds_toArray, List.set_cons_zero, List.set_cons_succ]
   refine tk (i := 15) (v := .slice ao xs.length cap) rfl (Or.inl ⟨rfl, fun W hS => ?_⟩) ?_
   ·obtain ⟨c0, c1, c2, c3, c4, c5, c6, -⟩ := hS
    go_simp
   simp only [Act.put, List.getElem_toArray, List.getElem_cons_succ, List.getElem_cons_zero, List.setIfInBounds_toArray, List.set_cons_zero, List.set_cons_succ]
   refine tk (i := 16) (v := .int .i64 size) rfl (Or.inl ⟨rfl, fun W hS => by go_simp⟩) ?_
   simp only [Act.put, List.getElem_toArray, List.getElem_cons_succ, List.getElem_cons_zero, List.setIfInBounds_toArray, List.set_cons_zero, List.set_cons_succ]
   refine tk (i := 18) (v := .pointer (some ⟨w.heap.size + 1, 6, none⟩)) rfl (Or.inl ⟨rfl, fun W hS => by go_simp⟩) ?_
   simp only [Act.put, List.getElem_toArray, List.getElem_cons_succ, List.getElem_cons_zero, List.setIfInBounds_toArray, List.set_cons_zero, List.set_cons_succ]
   refine tk (i := 19) (v := .slice ao xs.length cap) rfl (Or.inl ⟨rfl, fun W hS => ?_⟩) ?_
   ·obtain ⟨c0, c1, c2, c3, c4, c5, c6, -⟩ := hS
    go_simp
   simp only [Act.put, List.getElem_toArray, List.getElem_cons_succ, List.getElem_cons_zero, List.setIfInBounds_toArray, List.set_cons_zero, List.set_cons_succ]
   refine wpAnyH_ready (rs := [17]) (by kernel_rfl) (by simp) (AllReadyH.cons rfl (fun K hK => ?_) AllReadyH.nil)
   go_simp
   go_wp2_with (go_at_call 161; refine (HA.out _ (HS.out _ hHeld)).mono ?_; rintro e wq ⟨rfl, hb⟩)
   refine hK.out _ _ (hHeld.keep hb) (fun hX => ?_)
   clear hK K hHeld
   have hHeld := hX
   clear hX
   refine wpAnyH_ready (rs := [20]) (by kernel_rfl) (by simp) (AllReadyH.cons rfl (fun K hK => ?_) AllReadyH.nil)
   go_simp
   go_wp2_with (go_at_call 162; refine (HT.out _ (HS.out _ hHeld)).mono ?_; rintro e wq ⟨rfl, hb⟩)
   refine hK.out _ _ (hHeld.keep hb) (fun hX => ?_)
   clear hK K hHeld
   have hHeld := hX
   clear hX
   refine tk (i := 21) (v := .bool false) rfl (Or.inl ⟨rfl, fun W hS => by go_simp⟩) ?_
   simp only [Act.put, List.getElem_toArray, List.getElem_cons_succ, List.getElem_cons_zero, List.setIfInBounds_toArray, List.set_cons_zero, List.set_cons_succ]
   refine tk (i := 22) (v := .bool false) rfl (Or.inl ⟨rfl, fun W hS => by go_simp⟩) ?_
   simp only [Act.put, List.getElem_toArray, List.getElem_cons_succ, List.getElem_cons_zero, List.setIfInBounds_toArray, List.set_cons_zero, List.set_cons_succ]
   refine tk (i := 23) (v := .bool false) rfl (Or.inl ⟨rfl, fun W hS => by go_simp⟩) ?_
   simp only [Act.put, List.getElem_toArray, List.getElem_cons_succ, List.getElem_cons_zero, List.setIfInBounds_toArray, List.set_cons_zero, List.set_cons_succ]
   refine wpAnyH_done (by kernel_rfl) ?_ _
   have hz := HB0.out.trans (hHeld.2.2.2.2.2.2.2.mono (by simp))
   go_wp2
   go_ret
   have hg := HG.out
   exact ⟨ret_bool ((decide_eq_false (by omega)).symm.trans HR.out), hz⟩
set_option maxRecDepth 100000 in
set_option maxHeartbeats 4000000 in
theorem noMay_any (s q n k a size : Int) (t : ByteArray) (ao : Option Addr) (x cap : Nat) (w : World) :
  Calls Tryz.prog 169 #[.agg #[], .agg #[.int .i64 s, .int .i64 q, .int .i64 n, .int .i64 k, .int .i64 a, .string t, .slice ao x cap], .int .i64 size] w fun e w' => e = .returned (.bool false) ∧ Below w.heap.size w w' := by
 have hB0 := (Below.refl w.heap.size w).alloc (Nat.le_refl _) (.cells #[] 163)
 have hB := hB0.alloc hB0.size (.cells #[.int .i64 s, .int .i64 q, .int .i64 n, .int .i64 k, .int .i64 a, .string t, .slice ao x cap] 45)
 go_enter Tryz.func169, Tryz.ntmps169
 go_wp2
 go_ret
 exact ⟨rfl, hB⟩
set_option maxRecDepth 100000 in
set_option maxHeartbeats 4000000 in
theorem delAdds_any (s q n a : Int) (t : ByteArray) (ao : Option Addr) (x cap : Nat) (w : World) :
  Calls Tryz.prog 154 #[.agg #[], .agg #[.int .i64 s, .int .i64 q, .int .i64 n, .int .i64 2, .int .i64 a, .string t, .slice ao x cap]] w fun e w' => e = .returned (.int .i64 0) ∧ Below w.heap.size w w' := by
 have hB0 := (Below.refl w.heap.size w).alloc (Nat.le_refl _) (.cells #[] 162)
 have hB := hB0.alloc hB0.size (.cells #[.int .i64 s, .int .i64 q, .int .i64 n, .int .i64 2, .int .i64 a, .string t, .slice ao x cap] 45)
 go_enter Tryz.func154, Tryz.ntmps154
 go_wp2
 go_ret
 exact ⟨rfl, hB⟩
set_option maxRecDepth 100000 in
set_option maxHeartbeats 4000000 in
theorem noAdds_any (s q n k a : Int) (t : ByteArray) (ao : Option Addr) (x cap : Nat) (w : World) :
  Calls Tryz.prog 166 #[.agg #[], .agg #[.int .i64 s, .int .i64 q, .int .i64 n, .int .i64 k, .int .i64 a, .string t, .slice ao x cap]] w fun e w' => e = .returned (.int .i64 0) ∧ Below w.heap.size w w' := by
 have hB0 := (Below.refl w.heap.size w).alloc (Nat.le_refl _) (.cells #[] 163)
 have hB := hB0.alloc hB0.size (.cells #[.int .i64 s, .int .i64 q, .int .i64 n, .int .i64 k, .int .i64 a, .string t, .slice ao x cap] 45)
 go_enter Tryz.func166, Tryz.ntmps166
 go_wp2
 go_ret
 exact ⟨rfl, hB⟩
theorem pAdds_any (s q n k a : Int) (t : ByteArray) (sp : Value) (xs : List Sp) (w : World) (hL : LenAt t w) (h : SpAt w sp xs) :
  Calls Tryz.prog 103 #[opV s q n k a t sp] w fun e w' => e = .returned (.int .i64 (oAdds ⟨s, q, n, k, a, t.data.toList, xs⟩)) ∧ Below w.heap.size w w' := by
 obtain ⟨ao, cap, rfl, _⟩ := h
 unfold oAdds opV
 by_cases h1 : k = 1
 ·subst h1
  rw [if_pos rfl]
  exact adds_ins s q n a _ t ao xs.length cap w fun W hW => insAdds_any s q n 1 a t _ W (hL.below hW)
 ·rw [if_neg h1]
  by_cases h2 : k = 2
  ·subst h2
   exact adds_del s q n a _ t ao xs.length cap w fun W _ => delAdds_any s q n a t ao xs.length cap W
  ·exact adds_no s q n k a _ t ao xs.length cap w h1 h2 fun W _ => noAdds_any s q n k a t ao xs.length cap W
theorem pMayOp_any (s q n k a size : Int) (t : ByteArray) (sp : Value) (xs : List Sp) (w : World) (hL : LenAt t w) (h : SpAt w sp xs) (hx : xs.length ≤ 2000000) (hwf : sWf xs) :
  Calls Tryz.prog 68 #[opV s q n k a t sp, .int .i64 size] w fun e w' => e = .returned (.bool (oMay ⟨s, q, n, k, a, t.data.toList, xs⟩ size)) ∧ Below w.heap.size w w' := by
 have hS := h
 obtain ⟨ao, cap, rfl, _⟩ := h
 unfold oMay opV
 by_cases g : 0 ≤ size ∧ size ≤ 20000
 case neg =>
  rw [decide_eq_false g, Bool.false_and, Bool.false_and, Bool.false_and]
  exact may_noplace s q n k a size t ao xs.length cap w g
 rw [decide_eq_true g, Bool.true_and]
 cases hh : (nMay s q && decide (0 ≤ n ∧ n ≤ 1099511627776)) with
 | false =>
  rw [Bool.false_and]
  exact may_nohead s q n k a size t ao xs.length cap w g hh
 | true =>
  rw [Bool.true_and]
  by_cases h1 : k = 1
  ·subst h1
   rw [if_pos rfl]
   have e : decide (xs = []) = decide (xs.length = 0) := decide_eq_decide.2 List.length_eq_zero_iff.symm
   dsimp only
   rw [e, mayT_len]
   exact may_ins s q n a size t ao xs.length cap _ w g hh fun W hW => insMay_any s q n a size t ao xs.length cap W (hL.below hW) g.1 g.2
  ·rw [if_neg h1]
   by_cases h2 : k = 2
   ·subst h2
    rw [decide_eq_true rfl, Bool.true_and]
    exact may_del s q n a size t ao xs.length cap _ w g hh fun W hW => delMay_any s q n a size t ao cap xs W (hS.below hW) hx hwf g.1 g.2
   ·dsimp only
    rw [decide_eq_false h2, Bool.false_and, Bool.false_and, Bool.false_and, Bool.false_and]
    exact may_no s q n k a size t ao xs.length cap _ w g hh h1 h2 fun W _ => noMay_any s q n k a size t ao xs.length cap W
end Go.Proofs.YthekkjfaaedamaaGreatDoor

namespace Go.Proofs.YthekkjfaaedamaaGreatDoor
open Go.RowKit

end Go.Proofs.YthekkjfaaedamaaGreatDoor

namespace Go.Proofs.YthekkjfaaedamaaGreatDoor
open Go.RowKit

theorem oAdds_le (s q n k a : Int) (t : ByteArray) (xs : List Sp) : 0 ≤ oAdds ⟨s, q, n, k, a, t.data.toList, xs⟩ ∧ oAdds ⟨s, q, n, k, a, t.data.toList, xs⟩ ≤ t.size := by
 refine ⟨oAdds_ge _, ?_⟩
 have := lenT_le t.data.toList
 have hs : t.data.toList.length = t.size := rfl
 unfold oAdds
 dsimp only
 split
 ·split <;> omega
 ·omega
theorem SpAt.row {W : World} {v : Value} {xs : List Sp} (h : SpAt W v xs) : RowR 2 W v xs.length (spCells xs) := by
 obtain ⟨ao, cap, rfl, hc⟩ := h
 refine ⟨spCells_length xs, ao, cap, rfl, fun h0 => ?_⟩
 obtain ⟨b, off, e, hc⟩ := hc (fun e => by rw [e] at h0; exact Nat.lt_irrefl 0 h0)
 refine ⟨b, off, e, fun j u hj => ?_⟩
 have hjl := (List.getElem?_eq_some_iff.1 hj).1
 rw [spCells_length] at hjl
 obtain ⟨g1, g2⟩ := spCells_at xs (j / 2) (by omega)
 obtain ⟨c1, c2⟩ := hc (j / 2) (by omega)
 rcases Nat.mod_two_eq_zero_or_one j with e2 | e2
 ·rw [show j / 2 * 2 = j by omega] at g1
  rw [g1] at hj
  cases hj
  rw [show off + j = off + j / 2 * 2 by omega]
  exact c1
 ·rw [show j / 2 * 2 + 1 = j by omega] at g2
  rw [g2] at hj
  cases hj
  rw [show off + j = off + j / 2 * 2 + 1 by omega]
  exact c2
theorem spCells_1c {xs : List Sp} : ∀ u ∈ spCells xs, u.oneCell' = true := by
 induction xs with
 | nil => intro u h; cases h
 | cons s r ih =>
  intro u h
  rcases List.mem_cons.1 h with rfl | h
  ·rfl
  ·rcases List.mem_cons.1 h with rfl | h
   ·rfl
   ·exact ih u h
end Go.Proofs.YthekkjfaaedamaaGreatDoor

namespace Go.Proofs.YthekkjfaaedamaaGreatDoor
open Go.RowKit

end Go.Proofs.YthekkjfaaedamaaGreatDoor

namespace Go.Proofs.YthekkjfaaedamaaGreatDoor
open Go.RowKit

end Go.Proofs.YthekkjfaaedamaaGreatDoor

namespace Go.Proofs.YthekkjfaaedamaaGreatDoor
open Go.RowKit

end Go.Proofs.YthekkjfaaedamaaGreatDoor

namespace Go.Proofs.YthekkjfaaedamaaGreatDoor
open Go.RowKit

end Go.Proofs.YthekkjfaaedamaaGreatDoor

namespace Go.Proofs.YthekkjfaaedamaaGreatDoor
open Go.RowKit

theorem boxes2 (w : World) (x y : Obj) : ((w.alloc x).alloc y).heap[w.heap.size]? = some x ∧ ((w.alloc x).alloc y).heap[w.heap.size + 1]? = some y ∧ Below w.heap.size w ((w.alloc x).alloc y) := by
 have h1 : (w.alloc x).heap[w.heap.size]? = some x := heap_alloc_new w x
 have h2 : ((w.alloc x).alloc y).heap[w.heap.size + 1]? = some y := by
  have h := heap_alloc_new (w.alloc x) y
  rwa [show (w.alloc x).heap.size = w.heap.size + 1 by simp] at h
 have a1 : Below (w.alloc x).heap.size (w.alloc x) ((w.alloc x).alloc y) := (Below.refl _ _).alloc (Nat.le_refl _) _
 have a0 : Below w.heap.size w (w.alloc x) := (Below.refl _ _).alloc (Nat.le_refl _) _
 exact ⟨row_keep a1 h1, h2, a0.trans (a1.mono (by simp))⟩
end Go.Proofs.YthekkjfaaedamaaGreatDoor

namespace Go.Proofs.YthekkjfaaedamaaGreatDoor
open Go.RowKit

end Go.Proofs.YthekkjfaaedamaaGreatDoor

namespace Go.Proofs.YthekkjfaaedamaaGreatDoor
open Go.RowKit

def LFar (N : Nat) (lv : Value) (l : List Sp) : Prop := (∀ z ∈ l, z.2 ≠ 0) ∨ (∃ b c, lv = .slice (some ⟨b, 0, none⟩) 1 c ∧ N ≤ b ∧ l.length = 1)
theorem LFar.mono {N M : Nat} {lv : Value} {l : List Sp} (h : LFar N lv l) (hm : M ≤ N) : LFar M lv l := h.imp id fun ⟨b, c, h1, h2, h3⟩ => ⟨b, c, h1, Nat.le_trans hm h2, h3⟩
end Go.Proofs.YthekkjfaaedamaaGreatDoor

namespace Go.Proofs.YthekkjfaaedamaaGreatDoor
open Go.RowKit

end Go.Proofs.YthekkjfaaedamaaGreatDoor

namespace Go.Proofs.YthekkjfaaedamaaGreatDoor
open Go.RowKit

end Go.Proofs.YthekkjfaaedamaaGreatDoor

namespace Go.Proofs.YthekkjfaaedamaaGreatDoor
open Go.RowKit

end Go.Proofs.YthekkjfaaedamaaGreatDoor

namespace Go.Proofs.YthekkjfaaedamaaGreatDoor
open Go.RowKit

def OwnHPost (s q n k a : Int) (t : ByteArray) (xs : List Sp) (w : World) (e : Ending) (w' : World) : Prop := ∃ ao cap, e = .returned (opV s q n k a t (.slice ao xs.length cap)) ∧ w'.ownsRow w.heap.size 105 2 (.slice ao xs.length cap) xs.length (spCells xs) ∧ Below w.heap.size w w'
set_option maxRecDepth 100000 in
set_option maxHeartbeats 8000000 in
theorem ownH_any (s q n k a : Int) (t : ByteArray) (sp : Value) (xs : List Sp) (w : World) (h1 : SpAt w sp xs) (ht : t.size ≤ 1000000) (hx : xs.length ≤ 1000000) :
  Calls Tryz.prog 76 #[opV s q n k a t sp] w (OwnHPost s q n k a t xs w) := by
 obtain ⟨i0, hi, hz0, hz1, hz2⟩ := info_parts infoSpan
 obtain ⟨sao, scp, rfl, -⟩ := id h1
 have HC := Lib.hid (fun W => clone_any t W (by omega))
 have HX := Lib.hid h1.row
 have HO := Lib.hid (spCells_1c (xs := xs))
 clear h1
 obtain ⟨ho, hr, hb⟩ := boxes2 w (.cells #[.int .i64 s, .int .i64 q, .int .i64 n, .int .i64 k, .int .i64 a, .string t, .slice sao xs.length scp] 45) (.cells #[.int .i64 0, .int .i64 0, .int .i64 0, .int .i64 0, .int .i64 0, .string ⟨#[]⟩, .slice none 0 0] 45)
 have RO := Lib.hid ho
 have RR := Lib.hid hr
 have HB := Lib.hid hb
 clear ho hr hb
 unfold opV
 go_enter Tryz.func76, Tryz.ntmps76
 obtain ⟨⟨roc0, roc1, roc2, roc3, roc4, roc5, roc6⟩, rof0, rof1, rof2, rof3, rof4, rof5, rof6⟩ := row7 RO.out
 go_wp2_with fail
 refine (HC.out _).mono ?_
 rintro e w1 ⟨rfl, hb⟩
 clear roc0 roc1 roc2 roc3 roc4 roc5 roc6 rof0 rof1 rof2 rof3 rof4 rof5 rof6
 have RO' := Lib.hid (row_keep hb RO.out)
 have RR' := Lib.hid (row_keep hb RR.out)
 have HB' := Lib.hid (HB.out.trans (hb.mono HB.out.size))
 clear RO RR HB
 have RO := RO'
 have RR := RR'
 have HB := HB'
 clear RO' RR' HB'
 clear hb
 obtain ⟨⟨roc0, roc1, roc2, roc3, roc4, roc5, roc6⟩, rof0, rof1, rof2, rof3, rof4, rof5, rof6⟩ := row7 RO.out
 obtain ⟨⟨rrc0, rrc1, rrc2, rrc3, rrc4, rrc5, rrc6⟩, rrf0, rrf1, rrf2, rrf3, rrf4, rrf5, rrf6⟩ := row7 RR.out
 have RO' := Lib.hid (row_set RO.out 5 (.string t) (by rfl : (#[.int .i64 s, .int .i64 q, .int .i64 n, .int .i64 k, .int .i64 a, .string t, .slice sao xs.length scp] : Array Value).setIfInBounds 5 (.string t) = #[.int .i64 s, .int .i64 q, .int .i64 n, .int .i64 k, .int .i64 a, .string t, .slice sao xs.length scp]))
 have RR' := Lib.hid (row_far (p := ⟨w.heap.size, 5, none⟩) (v := .string t) (by show w.heap.size + 1 ≠ w.heap.size; omega) RR.out)
 have HB' := Lib.hid (Below.setCell (p := ⟨w.heap.size, 5, none⟩) HB.out (by show w.heap.size ≤ w.heap.size; omega) (.string t))
 clear RO RR HB
 have RO := RO'
 have RR := RR'
 have HB := HB'
 clear RO' RR' HB'
 have hrow := HX.out.below HB.out
 have z1 : 0 + xs.length ≤ maxLen := by unfold maxLen; omega
 have z2 : (0 + xs.length) * 16 ≤ 140737488355328 := by omega
 have z3 : w.heap.size + 1 + 1 ≤ (w1.setCell ⟨w.heap.size, 5, none⟩ (.string t)).heap.size := by have := (Array.getElem?_eq_some_iff.1 RR.out).1; omega
 go_upto_region 3 with (at_builtin; go_must (refine wpList_app_any rfl _ _ 43 rfl (w.heap.size + 1 + 1) 105 i0 (.agg #[.int .i64 0, .int .i64 0]) 2 16 Tryz.underlying43 hi hz0 hz1 hz2 rfl (by decide) _ 0 [] rfl (World.ownsRow_nil _ _ _ _) _ xs.length (spCells xs) rfl hrow HO.out z1 z2 z3 ?_; intro v1 wa ho1 hg1; have hba := (Below.refl (w1.setCell ⟨w.heap.size, 5, none⟩ (.string t)).heap.size _).grown hg1 (Nat.le_refl _) (fun g hg => by cases hg); rw [List.nil_append, Nat.zero_add] at ho1; have hsv := SpAt.of_own ho1; obtain ⟨vo, vc, rfl, -⟩ := id hsv; have HV := Lib.hid ho1; clear roc0 roc1 roc2 roc3 roc4 roc5 roc6 rof0 rof1 rof2 rof3 rof4 rof5 rof6 rrc0 rrc1 rrc2 rrc3 rrc4 rrc5 rrc6 rrf0 rrf1 rrf2 rrf3 rrf4 rrf5 rrf6; have RO' := Lib.hid (row_keep hba RO.out); have RR' := Lib.hid (row_keep hba RR.out); have HB' := Lib.hid (HB.out.trans (hba.mono HB.out.size)); clear RO RR HB; have RO := RO'; have RR := RR'; have HB := HB'; clear RO' RR' HB'; clear hba ho1 hg1 hrow hsv z1 z2 z3; obtain ⟨⟨roc0, roc1, roc2, roc3, roc4, roc5, roc6⟩, rof0, rof1, rof2, rof3, rof4, rof5, rof6⟩ := row7 RO.out; obtain ⟨⟨rrc0, rrc1, rrc2, rrc3, rrc4, rrc5, rrc6⟩, rrf0, rrf1, rrf2, rrf3, rrf4, rrf5, rrf6⟩ := row7 RR.out))
 clear roc0 roc1 roc2 roc3 roc4 roc5 roc6 rof0 rof1 rof2 rof3 rof4 rof5 rof6 rrc0 rrc1 rrc2 rrc3 rrc4 rrc5 rrc6 rrf0 rrf1 rrf2 rrf3 rrf4 rrf5 rrf6
 have RO' := Lib.hid (row_set RO.out 6 (.slice vo xs.length vc) (by rfl : (#[.int .i64 s, .int .i64 q, .int .i64 n, .int .i64 k, .int .i64 a, .string t, .slice sao xs.length scp] : Array Value).setIfInBounds 6 (.slice vo xs.length vc) = #[.int .i64 s, .int .i64 q, .int .i64 n, .int .i64 k, .int .i64 a, .string t, .slice vo xs.length vc]))
 have RR' := Lib.hid (row_far (p := ⟨w.heap.size, 6, none⟩) (v := .slice vo xs.length vc) (by show w.heap.size + 1 ≠ w.heap.size; omega) RR.out)
 have HB' := Lib.hid (Below.setCell (p := ⟨w.heap.size, 6, none⟩) HB.out (by show w.heap.size ≤ w.heap.size; omega) (.slice vo xs.length vc))
 clear RO RR HB
 have RO := RO'
 have RR := RR'
 have HB := HB'
 clear RO' RR' HB'
 have HV2 := Lib.hid (own_set HV.out (w.heap.size) 6 (.slice vo xs.length vc) (by omega))
 obtain ⟨⟨roc0, roc1, roc2, roc3, roc4, roc5, roc6⟩, rof0, rof1, rof2, rof3, rof4, rof5, rof6⟩ := row7 RO.out
 obtain ⟨⟨rrc0, rrc1, rrc2, rrc3, rrc4, rrc5, rrc6⟩, rrf0, rrf1, rrf2, rrf3, rrf4, rrf5, rrf6⟩ := row7 RR.out
 have HSX := Lib.hid (own_lower (own_put7 HV2.out (R := w.heap.size + 1) (by omega) (.int .i64 s) (.int .i64 q) (.int .i64 n) (.int .i64 k) (.int .i64 a) (.string t) (.slice vo xs.length vc)) (by omega : w.heap.size ≤ w.heap.size + 1 + 1))
 go_wp2
 clear roc0 roc1 roc2 roc3 roc4 roc5 roc6 rof0 rof1 rof2 rof3 rof4 rof5 rof6 rrc0 rrc1 rrc2 rrc3 rrc4 rrc5 rrc6 rrf0 rrf1 rrf2 rrf3 rrf4 rrf5 rrf6
 have RR' := Lib.hid (put7_same RR.out (.int .i64 s) (.int .i64 q) (.int .i64 n) (.int .i64 k) (.int .i64 a) (.string t) (.slice vo xs.length vc))
 have HB' := Lib.hid (put7_below HB.out (by omega : w.heap.size ≤ w.heap.size + 1) (.int .i64 s) (.int .i64 q) (.int .i64 n) (.int .i64 k) (.int .i64 a) (.string t) (.slice vo xs.length vc))
 clear RR HB
 have RR := RR'
 have HB := HB'
 clear RR' HB'
 refine bodyPost_ret (op_result1 (fn := Tryz.f76) (p := 2) rfl _ _ (w.heap.size + 1) _ rfl RR.out rfl) rfl ?_
 exact ⟨vo, vc, rfl, HSX.out, HB.out⟩
end Go.Proofs.YthekkjfaaedamaaGreatDoor
