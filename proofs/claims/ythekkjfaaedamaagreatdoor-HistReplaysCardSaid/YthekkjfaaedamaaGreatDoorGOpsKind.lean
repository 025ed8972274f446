/- Texts of this proof, joined. -/
import Derived.Test.YthekkjfaaedamaaGreatDoorRefOpsAny
import Derived.Test.YthekkjfaaedamaaGreatDoorGReads64
import Derived.Test.YthekkjfaaedamaaGreatDoorGIter
import Derived.Deep.RegionHeld
import Derived.Test.YthekkjfaaedamaaGreatDoorGSpansPlain
import Derived.Test.YthekkjfaaedamaaGreatDoorOpsPart
namespace Go.Proofs.YthekkjfaaedamaaGreatDoor
open Go.RowKit

theorem kind_ins (w : World) : Calls Tryz.prog 82 #[.int .i64 1] w fun e w' => e = .returned (.iface 161 (.agg #[])) ∧ w' = w := by
 go_enter Tryz.func82, Tryz.ntmps82
 go_wp2
 go_ret
 exact ⟨rfl, rfl⟩
theorem kind_del (w : World) : Calls Tryz.prog 82 #[.int .i64 2] w fun e w' => e = .returned (.iface 162 (.agg #[])) ∧ w' = w := by
 go_enter Tryz.func82, Tryz.ntmps82
 go_wp2
 go_ret
 exact ⟨rfl, rfl⟩
theorem kind_no (k : Int) (h1 : ¬ k = 1) (h2 : ¬ k = 2) (w : World) : Calls Tryz.prog 82 #[.int .i64 k] w fun e w' => e = .returned (.iface 163 (.agg #[])) ∧ w' = w := by
 go_enter Tryz.func82, Tryz.ntmps82
 go_wp2
 go_ret
 exact ⟨rfl, rfl⟩
theorem lenL_lenT (l : List UInt8) : lenL l = lenT l := by
 unfold lenL lenT
 cases runesL l <;> rfl
theorem isPlace_any (p : Int) (w : World) : Calls Tryz.prog 80 #[.int .i64 p] w fun e w' => e = .returned (.bool (decide (0 ≤ p ∧ p ≤ 20000))) ∧ w' = w := by
 obtain ⟨x, hx⟩ : ∃ x, decide (0 ≤ p ∧ p ≤ 20000) = x := ⟨_, rfl⟩
 rw [hx]
 have HX := Lib.hid hx
 clear hx
 by_cases p1 : 0 ≤ p
 by_cases p2 : p ≤ 20000
 all_goals
  go_enter Tryz.func80, Tryz.ntmps80
  go_wp2
  go_ret
 ·exact ⟨ret_bool ((decide_eq_true ⟨p1, p2⟩).symm.trans HX.out), rfl⟩
 ·exact ⟨ret_bool ((decide_eq_false (by omega)).symm.trans HX.out), rfl⟩
 ·exact ⟨ret_bool ((decide_eq_false (by omega)).symm.trans HX.out), rfl⟩
theorem mayIns_any (n : Int) (w : World) : Calls Tryz.prog 153 #[.int .i64 n] w fun e w' => e = .returned (.bool (decide (1 ≤ n ∧ n ≤ 200))) ∧ w' = w := by
 obtain ⟨x, hx⟩ : ∃ x, decide (1 ≤ n ∧ n ≤ 200) = x := ⟨_, rfl⟩
 rw [hx]
 have HX := Lib.hid hx
 clear hx
 by_cases p1 : 1 ≤ n
 by_cases p2 : n ≤ 200
 all_goals
  go_enter Tryz.func153, Tryz.ntmps153
  go_wp2
  go_ret
 ·exact ⟨ret_bool ((decide_eq_true ⟨p1, p2⟩).symm.trans HX.out), rfl⟩
 ·exact ⟨ret_bool ((decide_eq_false (by omega)).symm.trans HX.out), rfl⟩
 ·exact ⟨ret_bool ((decide_eq_false (by omega)).symm.trans HX.out), rfl⟩
set_option maxRecDepth 100000 in
set_option maxHeartbeats 2000000 in
theorem mayHead_any (s q n : Int) (w : World) : Calls Tryz.prog 81 #[nmV s q, .int .i64 n] w fun e w' => e = .returned (.bool (nMay s q && decide (0 ≤ n ∧ n ≤ 1099511627776))) ∧ Below w.heap.size w w' := by
 obtain ⟨x, hx⟩ : ∃ x, (nMay s q && decide (0 ≤ n ∧ n ≤ 1099511627776)) = x := ⟨_, rfl⟩
 rw [hx]
 have hM := fun W => pMayName_any s q W
 have hB := (Below.refl w.heap.size w).alloc (Nat.le_refl _) (.cells #[.int .i64 s, .int .i64 q] 42)
 obtain ⟨b, hb⟩ : ∃ b, nMay s q = b := ⟨_, rfl⟩
 rw [hb] at hM hx
 have HX := Lib.hid hx
 clear hb hx
 unfold nmV at hM ⊢
 cases b
 ·go_enter Tryz.func81, Tryz.ntmps81
  go_wp2_with fail
  refine (hM _).mono ?_
  rintro e w1 ⟨rfl, hb⟩
  have hz := hB.trans (hb.mono hB.size)
  go_wp2
  go_ret
  exact ⟨ret_bool HX.out, hz⟩
 ·have HY := Lib.hid (show decide (0 ≤ n ∧ n ≤ 1099511627776) = x from (Bool.true_and _).symm.trans HX.out)
  clear HX
  by_cases p1 : 0 ≤ n
  by_cases p2 : n ≤ 1099511627776
  all_goals
   go_enter Tryz.func81, Tryz.ntmps81
   go_wp2_with fail
   refine (hM _).mono ?_
   rintro e w1 ⟨rfl, hb⟩
   have hz := hB.trans (hb.mono hB.size)
   go_wp2
   go_ret
  ·exact ⟨ret_bool ((decide_eq_true ⟨p1, p2⟩).symm.trans HY.out), hz⟩
  ·exact ⟨ret_bool ((decide_eq_false (by omega)).trans ((decide_eq_false (by omega)).symm.trans HY.out)), hz⟩
  ·exact ⟨ret_bool ((decide_eq_false (by omega)).symm.trans HY.out), hz⟩

theorem meth_ins_adds (W : World) : (method 331 161 (.agg #[]) "foolscap/ops.adds").run Tryz.prog W = .ok (147, .agg #[]) W := by kernel_rfl
theorem meth_del_adds (W : World) : (method 331 162 (.agg #[]) "foolscap/ops.adds").run Tryz.prog W = .ok (154, .agg #[]) W := by kernel_rfl
theorem meth_no_adds (W : World) : (method 331 163 (.agg #[]) "foolscap/ops.adds").run Tryz.prog W = .ok (166, .agg #[]) W := by kernel_rfl

set_option maxRecDepth 100000 in
set_option maxHeartbeats 2000000 in
theorem insAdds_any (s q n k a : Int) (t : ByteArray) (sp : Value) (w : World) (hL : LenAt t w) :
  Calls Tryz.prog 147 #[.agg #[], opV s q n k a t sp] w fun e w' => e = .returned (.int .i64 (if lenT t.data.toList < 0 then 0 else lenT t.data.toList)) ∧ Below w.heap.size w w' := by
 have hB0 := (Below.refl w.heap.size w).alloc (Nat.le_refl _) (.cells #[] 161)
 have hB := hB0.alloc hB0.size (.cells #[.int .i64 s, .int .i64 q, .int .i64 n, .int .i64 k, .int .i64 a, .string t, sp] 45)
 have hC := hL _ hB
 have hlo := lenT_ge t.data.toList
 have hhi := lenT_le t.data.toList
 rw [lenL_lenT] at hC
 clear hL
 generalize lenT t.data.toList = m at *
 by_cases hm : m < 0
 ·rw [if_pos hm]
  obtain rfl : m = -1 := by omega
  unfold opV
  go_enter Tryz.func147, Tryz.ntmps147
  go_wp2_with fail
  refine hC.mono ?_
  rintro e w1 ⟨rfl, hb⟩
  have hz := hB.trans (hb.mono hB.size)
  go_wp2
  go_ret
  exact ⟨rfl, hz⟩
 ·rw [if_neg hm]
  unfold opV
  go_enter Tryz.func147, Tryz.ntmps147
  go_wp2_with fail
  refine hC.mono ?_
  rintro e w1 ⟨rfl, hb⟩
  have hz := hB.trans (hb.mono hB.size)
  go_wp2
  go_ret
  exact ⟨ret_i64 (show max m 0 = m by omega), hz⟩
end Go.Proofs.YthekkjfaaedamaaGreatDoor

namespace Go.Proofs.YthekkjfaaedamaaGreatDoor
open Go.RowKit

theorem meth_ins_may (W : World) : (method 331 161 (.agg #[]) "foolscap/ops.may").run Tryz.prog W = .ok (150, .agg #[]) W := by kernel_rfl
theorem meth_ins_mayE (W : World) : (method 331 161 (.agg #[]) "foolscap/ops.mayEdit").run Tryz.prog W = .ok (151, .agg #[]) W := by kernel_rfl
theorem meth_del_may (W : World) : (method 331 162 (.agg #[]) "foolscap/ops.may").run Tryz.prog W = .ok (157, .agg #[]) W := by kernel_rfl
theorem meth_del_mayE (W : World) : (method 331 162 (.agg #[]) "foolscap/ops.mayEdit").run Tryz.prog W = .ok (158, .agg #[]) W := by kernel_rfl
theorem meth_no_may (W : World) : (method 331 163 (.agg #[]) "foolscap/ops.may").run Tryz.prog W = .ok (169, .agg #[]) W := by kernel_rfl
theorem meth_no_mayE (W : World) : (method 331 163 (.agg #[]) "foolscap/ops.mayEdit").run Tryz.prog W = .ok (170, .agg #[]) W := by kernel_rfl
set_option maxRecDepth 100000 in
set_option maxHeartbeats 4000000 in
theorem adds_ins (s q n a r : Int) (t : ByteArray) (ao : Option Addr) (x cap : Nat) (w : World)
  (hC : ∀ W, Below w.heap.size w W → Calls Tryz.prog 147 #[.agg #[], .agg #[.int .i64 s, .int .i64 q, .int .i64 n, .int .i64 1, .int .i64 a, .string t, .slice ao x cap]] W fun e w' => e = .returned (.int .i64 r) ∧ Below W.heap.size W w') :
  Calls Tryz.prog 103 #[.agg #[.int .i64 s, .int .i64 q, .int .i64 n, .int .i64 1, .int .i64 a, .string t, .slice ao x cap]] w fun e w' => e = .returned (.int .i64 r) ∧ Below w.heap.size w w' := by
 have hk : ∀ W, Calls Tryz.prog 82 #[.int .i64 1] W fun e w' => e = .returned (.iface 161 (.agg #[])) ∧ Below W.heap.size W w' := fun W => (kind_ins W).mono fun _ _ ⟨h1, h2⟩ => ⟨h1, by rw [h2]; exact Below.refl _ _⟩
 have hm := meth_ins_adds
 have hB := OBox.new s q n 1 a t (.slice ao x cap) w 45
 go_enter Tryz.func103, Tryz.ntmps103
 go_wp2_with fail
 refine wp_region_held_drew (S := fun W => OBox w.heap.size s q n 1 a t (.slice ao x cap) w W) (by kernel_rfl) (hB.keep (Below.refl _ _).drew) (fun hHeld => ?_)
 clear hB
 refine tk (i := 0) (v := .pointer (some ⟨w.heap.size, 3, none⟩)) rfl (Or.inl ⟨rfl, fun W hS => by go_simp⟩) ?_
 refine tk (i := 1) (v := .int .i64 1) rfl (Or.inl ⟨rfl, fun W hS => ?_⟩) ?_
 ·obtain ⟨c0, c1, c2, c3, c4, c5, c6, -⟩ := hS
  go_simp
 simp only [Act.put, List.getElem_toArray, List.getElem_cons_succ, List.getElem_cons_zero, List.setIfInBounds_toArray, List.set_cons_zero, List.set_cons_succ]
 refine tk (i := 3) (v := .agg #[.int .i64 s, .int .i64 q, .int .i64 n, .int .i64 1, .int .i64 a, .string t, .slice ao x cap]) rfl (Or.inl ⟨rfl, fun W hS => ?_⟩) ?_
 ·obtain ⟨c0, c1, c2, c3, c4, c5, c6, -⟩ := hS
  go_simp
 simp only [Act.put, List.getElem_toArray, List.getElem_cons_succ, List.getElem_cons_zero, List.setIfInBounds_toArray, List.set_cons_zero, List.set_cons_succ]
 refine wpAnyH_ready (rs := [2]) (by kernel_rfl) (by simp) (AllReadyH.cons rfl (fun K hK => ?_) AllReadyH.nil)
 go_simp
 go_wp2_with (go_at_call 82; refine (hk _).mono ?_; rintro e wq ⟨rfl, hb⟩)
 refine hK.out _ _ (hHeld.keep hb) (fun hX => ?_)
 clear hK K hHeld
 have hHeld := hX
 clear hX
 refine wpAnyH_ready (rs := [4]) (by kernel_rfl) (by simp) (AllReadyH.cons rfl (fun K hK => ?_) AllReadyH.nil)
 go_simp
 go_wp2_with (go_at_call 147; refine (hC _ hHeld.2.2.2.2.2.2.2).mono ?_; rintro e wq ⟨rfl, hb⟩)
 refine hK.out _ _ (hHeld.keep hb) (fun hX => ?_)
 clear hK K hHeld
 have hHeld := hX
 clear hX
 refine tk (i := 5) (v := .int .i64 r) rfl (Or.inl ⟨rfl, fun W hS => by go_simp⟩) ?_
 simp only [Act.put, List.getElem_toArray, List.getElem_cons_succ, List.getElem_cons_zero, List.setIfInBounds_toArray, List.set_cons_zero, List.set_cons_succ]
 refine wpAnyH_done (by kernel_rfl) ?_ _
 have hz := hHeld.2.2.2.2.2.2.2
 go_wp2
 go_ret
 exact ⟨rfl, hz⟩
set_option maxRecDepth 100000 in
set_option maxHeartbeats 4000000 in
theorem adds_del (s q n a r : Int) (t : ByteArray) (ao : Option Addr) (x cap : Nat) (w : World)
  (hC : ∀ W, Below w.heap.size w W → Calls Tryz.prog 154 #[.agg #[], .agg #[.int .i64 s, .int .i64 q, .int .i64 n, .int .i64 2, .int .i64 a, .string t, .slice ao x cap]] W fun e w' => e = .returned (.int .i64 r) ∧ Below W.heap.size W w') :
  Calls Tryz.prog 103 #[.agg #[.int .i64 s, .int .i64 q, .int .i64 n, .int .i64 2, .int .i64 a, .string t, .slice ao x cap]] w fun e w' => e = .returned (.int .i64 r) ∧ Below w.heap.size w w' := by
 have hk : ∀ W, Calls Tryz.prog 82 #[.int .i64 2] W fun e w' => e = .returned (.iface 162 (.agg #[])) ∧ Below W.heap.size W w' := fun W => (kind_del W).mono fun _ _ ⟨h1, h2⟩ => ⟨h1, by rw [h2]; exact Below.refl _ _⟩
 have hm := meth_del_adds
 have hB := OBox.new s q n 2 a t (.slice ao x cap) w 45
 go_enter Tryz.func103, Tryz.ntmps103
 go_wp2_with fail
 refine wp_region_held_drew (S := fun W => OBox w.heap.size s q n 2 a t (.slice ao x cap) w W) (by kernel_rfl) (hB.keep (Below.refl _ _).drew) (fun hHeld => ?_)
 clear hB
 refine tk (i := 0) (v := .pointer (some ⟨w.heap.size, 3, none⟩)) rfl (Or.inl ⟨rfl, fun W hS => by go_simp⟩) ?_
 refine tk (i := 1) (v := .int .i64 2) rfl (Or.inl ⟨rfl, fun W hS => ?_⟩) ?_
 ·obtain ⟨c0, c1, c2, c3, c4, c5, c6, -⟩ := hS
  go_simp
 simp only [Act.put, List.getElem_toArray, List.getElem_cons_succ, List.getElem_cons_zero, List.setIfInBounds_toArray, List.set_cons_zero, List.set_cons_succ]
 refine tk (i := 3) (v := .agg #[.int .i64 s, .int .i64 q, .int .i64 n, .int .i64 2, .int .i64 a, .string t, .slice ao x cap]) rfl (Or.inl ⟨rfl, fun W hS => ?_⟩) ?_
 ·obtain ⟨c0, c1, c2, c3, c4, c5, c6, -⟩ := hS
  go_simp
 simp only [Act.put, List.getElem_toArray, List.getElem_cons_succ, List.getElem_cons_zero, List.setIfInBounds_toArray, List.set_cons_zero, List.set_cons_succ]
 refine wpAnyH_ready (rs := [2]) (by kernel_rfl) (by simp) (AllReadyH.cons rfl (fun K hK => ?_) AllReadyH.nil)
 go_simp
 go_wp2_with (go_at_call 82; refine (hk _).mono ?_; rintro e wq ⟨rfl, hb⟩)
 refine hK.out _ _ (hHeld.keep hb) (fun hX => ?_)
 clear hK K hHeld
 have hHeld := hX
 clear hX
 refine wpAnyH_ready (rs := [4]) (by kernel_rfl) (by simp) (AllReadyH.cons rfl (fun K hK => ?_) AllReadyH.nil)
 go_simp
 go_wp2_with (go_at_call 154; refine (hC _ hHeld.2.2.2.2.2.2.2).mono ?_; rintro e wq ⟨rfl, hb⟩)
 refine hK.out _ _ (hHeld.keep hb) (fun hX => ?_)
 clear hK K hHeld
 have hHeld := hX
 clear hX
 refine tk (i := 5) (v := .int .i64 r) rfl (Or.inl ⟨rfl, fun W hS => by go_simp⟩) ?_
 simp only [Act.put, List.getElem_toArray, List.getElem_cons_succ, List.getElem_cons_zero, List.setIfInBounds_toArray, List.set_cons_zero, List.set_cons_succ]
 refine wpAnyH_done (by kernel_rfl) ?_ _
 have hz := hHeld.2.2.2.2.2.2.2
 go_wp2
 go_ret
 exact ⟨rfl, hz⟩
set_option maxRecDepth 100000 in
set_option maxHeartbeats 4000000 in
theorem adds_no (s q n k a r : Int) (t : ByteArray) (ao : Option Addr) (x cap : Nat) (w : World) (h1 : ¬ k = 1) (h2 : ¬ k = 2)
  (hC : ∀ W, Below w.heap.size w W → Calls Tryz.prog 166 #[.agg #[], .agg #[.int .i64 s, .int .i64 q, .int .i64 n, .int .i64 k, .int .i64 a, .string t, .slice ao x cap]] W fun e w' => e = .returned (.int .i64 r) ∧ Below W.heap.size W w') :
  Calls Tryz.prog 103 #[.agg #[.int .i64 s, .int .i64 q, .int .i64 n, .int .i64 k, .int .i64 a, .string t, .slice ao x cap]] w fun e w' => e = .returned (.int .i64 r) ∧ Below w.heap.size w w' := by
 have hk : ∀ W, Calls Tryz.prog 82 #[.int .i64 k] W fun e w' => e = .returned (.iface 163 (.agg #[])) ∧ Below W.heap.size W w' := fun W => (kind_no k h1 h2 W).mono fun _ _ ⟨h1, h2⟩ => ⟨h1, by rw [h2]; exact Below.refl _ _⟩
 have hm := meth_no_adds
 have hB := OBox.new s q n k a t (.slice ao x cap) w 45
 go_enter Tryz.func103, Tryz.ntmps103
 go_wp2_with fail
 refine wp_region_held_drew (S := fun W => OBox w.heap.size s q n k a t (.slice ao x cap) w W) (by kernel_rfl) (hB.keep (Below.refl _ _).drew) (fun hHeld => ?_)
 clear hB
 refine tk (i := 0) (v := .pointer (some ⟨w.heap.size, 3, none⟩)) rfl (Or.inl ⟨rfl, fun W hS => by go_simp⟩) ?_
 refine tk (i := 1) (v := .int .i64 k) rfl (Or.inl ⟨rfl, fun W hS => ?_⟩) ?_
 ·obtain ⟨c0, c1, c2, c3, c4, c5, c6, -⟩ := hS
  go_simp
 simp only [Act.put, List.getElem_toArray, List.getElem_cons_succ, List.getElem_cons_zero, List.setIfInBounds_toArray, List.set_cons_zero, List.set_cons_succ]
 refine tk (i := 3) (v := .agg #[.int .i64 s, .int .i64 q, .int .i64 n, .int .i64 k, .int .i64 a, .string t, .slice ao x cap]) rfl (Or.inl ⟨rfl, fun W hS => ?_⟩) ?_
 ·obtain ⟨c0, c1, c2, c3, c4, c5, c6, -⟩ := hS
  go_simp
 simp only [Act.put, List.getElem_toArray, List.getElem_cons_succ, List.getElem_cons_zero, List.setIfInBounds_toArray, List.set_cons_zero, List.set_cons_succ]
 refine wpAnyH_ready (rs := [2]) (by kernel_rfl) (by simp) (AllReadyH.cons rfl (fun K hK => ?_) AllReadyH.nil)
 go_simp
 go_wp2_with (go_at_call 82; refine (hk _).mono ?_; rintro e wq ⟨rfl, hb⟩)
 refine hK.out _ _ (hHeld.keep hb) (fun hX => ?_)
 clear hK K hHeld
 have hHeld := hX
 clear hX
 refine wpAnyH_ready (rs := [4]) (by kernel_rfl) (by simp) (AllReadyH.cons rfl (fun K hK => ?_) AllReadyH.nil)
 go_simp
 go_wp2_with (go_at_call 166; refine (hC _ hHeld.2.2.2.2.2.2.2).mono ?_; rintro e wq ⟨rfl, hb⟩)
 refine hK.out _ _ (hHeld.keep hb) (fun hX => ?_)
 clear hK K hHeld
 have hHeld := hX
 clear hX
 refine tk (i := 5) (v := .int .i64 r) rfl (Or.inl ⟨rfl, fun W hS => by go_simp⟩) ?_
 simp only [Act.put, List.getElem_toArray, List.getElem_cons_succ, List.getElem_cons_zero, List.setIfInBounds_toArray, List.set_cons_zero, List.set_cons_succ]
 refine wpAnyH_done (by kernel_rfl) ?_ _
 have hz := hHeld.2.2.2.2.2.2.2
 go_wp2
 go_ret
 exact ⟨rfl, hz⟩
set_option maxRecDepth 100000 in
set_option maxHeartbeats 4000000 in
theorem may_noplace (s q n k a size : Int) (t : ByteArray) (ao : Option Addr) (x cap : Nat) (w : World) (hs : ¬ (0 ≤ size ∧ size ≤ 20000)) :
  Calls Tryz.prog 68 #[.agg #[.int .i64 s, .int .i64 q, .int .i64 n, .int .i64 k, .int .i64 a, .string t, .slice ao x cap], .int .i64 size] w fun e w' => e = .returned (.bool false) ∧ Below w.heap.size w w' := by
 have hp : ∀ W, Calls Tryz.prog 80 #[.int .i64 size] W fun e w' => e = .returned (.bool false) ∧ Below W.heap.size W w' := fun W => (isPlace_any size W).mono fun _ _ ⟨h1, h2⟩ => ⟨by rw [h1]; rw [decide_eq_false hs], by rw [h2]; exact Below.refl _ _⟩
 have hB := OBox.new s q n k a t (.slice ao x cap) w 45
 clear hs
 go_enter Tryz.func68, Tryz.ntmps68
 go_wp2_with fail
 refine wp_region_held_drew (S := fun W => OBox w.heap.size s q n k a t (.slice ao x cap) w W) (by kernel_rfl) (hB.keep (Below.refl _ _).drew) (fun hHeld => ?_)
 clear hB
 refine tk (i := 0) (v := .int .i64 size) rfl (Or.inl ⟨rfl, fun W hS => by go_simp⟩) ?_
 refine wpAnyH_ready (rs := [1]) (by kernel_rfl) (by simp) (AllReadyH.cons rfl (fun K hK => ?_) AllReadyH.nil)
 go_simp
 go_wp2_with (go_at_call 80; refine (hp _).mono ?_; rintro e wq ⟨rfl, hb⟩)
 refine hK.out _ _ (hHeld.keep hb) (fun hX => ?_)
 clear hK K hHeld
 have hHeld := hX
 clear hX
 refine tk (i := 2) (v := .bool false) rfl (Or.inl ⟨rfl, fun W hS => by go_simp⟩) ?_
 simp only [Act.put, List.getElem_toArray, List.getElem_cons_succ, List.getElem_cons_zero, List.setIfInBounds_toArray, List.set_cons_zero, List.set_cons_succ]
 refine tk (i := 3) (v := undef) rfl (Or.inr ⟨rfl, rfl⟩) ?_
 simp only [Act.put, List.getElem_toArray, List.getElem_cons_succ, List.getElem_cons_zero, List.setIfInBounds_toArray, List.set_cons_zero, List.set_cons_succ]
 refine tk (i := 4) (v := undef) rfl (Or.inr ⟨rfl, rfl⟩) ?_
 simp only [Act.put, List.getElem_toArray, List.getElem_cons_succ, List.getElem_cons_zero, List.setIfInBounds_toArray, List.set_cons_zero, List.set_cons_succ]
 refine tk (i := 5) (v := undef) rfl (Or.inr ⟨rfl, rfl⟩) ?_
 simp only [Act.put, List.getElem_toArray, List.getElem_cons_succ, List.getElem_cons_zero, List.setIfInBounds_toArray, List.set_cons_zero, List.set_cons_succ]
 refine tk (i := 6) (v := undef) rfl (Or.inr ⟨rfl, rfl⟩) ?_
 simp only [Act.put, List.getElem_toArray, List.getElem_cons_succ, List.getElem_cons_zero, List.setIfInBounds_toArray, List.set_cons_zero, List.set_cons_succ]
 refine tk (i := 7) (v := undef) rfl (Or.inr ⟨rfl, rfl⟩) ?_
 simp only [Act.put, List.getElem_toArray, List.getElem_cons_succ, List.getElem_cons_zero, List.setIfInBounds_toArray, List.set_cons_zero, List.set_cons_succ]
 refine tk (i := 8) (v := .bool false) rfl (Or.inl ⟨rfl, fun W hS => by go_simp⟩) ?_
 simp only [Act.put, List.getElem_toArray, List.getElem_cons_succ, List.getElem_cons_zero, List.setIfInBounds_toArray, List.set_cons_zero, List.set_cons_succ]
 refine tk (i := 9) (v := .bool false) rfl (Or.inl ⟨rfl, fun W hS => by go_simp⟩) ?_
 simp only [Act.put, List.getElem_toArray, List.getElem_cons_succ, List.getElem_cons_zero, List.setIfInBounds_toArray, List.set_cons_zero, List.set_cons_succ]
 refine tk (i := 10) (v := undef) rfl (Or.inr ⟨rfl, rfl⟩) ?_
 simp only [Act.put, List.getElem_toArray, List.getElem_cons_succ, List.getElem_cons_zero, List.setIfInBounds_toArray, List.set_cons_zero, List.set_cons_succ]
 refine tk (i := 11) (v := undef) rfl (Or.inr ⟨rfl, rfl⟩) ?_
 simp only [Act.put, List.getElem_toArray, List.getElem_cons_succ, List.getElem_cons_zero, List.setIfInBounds_toArray, List.set_cons_zero, List.set_cons_succ]
 refine tk (i := 12) (v := undef) rfl (Or.inr ⟨rfl, rfl⟩) ?_
 simp only [Act.put, List.getElem_toArray, List.getElem_cons_succ, List.getElem_cons_zero, List.setIfInBounds_toArray, List.set_cons_zero, List.set_cons_succ]
 refine tk (i := 13) (v := undef) rfl (Or.inr ⟨rfl, rfl⟩) ?_
 simp only [Act.put, List.getElem_toArray, List.getElem_cons_succ, List.getElem_cons_zero, List.setIfInBounds_toArray, List.set_cons_zero, List.set_cons_succ]
 refine tk (i := 14) (v := undef) rfl (Or.inr ⟨rfl, rfl⟩) ?_
 simp only [Act.put, List.getElem_toArray, List.getElem_cons_succ, List.getElem_cons_zero, List.setIfInBounds_toArray, List.set_cons_zero, List.set_cons_succ]
 refine tk (i := 15) (v := undef) rfl (Or.inr ⟨rfl, rfl⟩) ?_
 simp only [Act.put, List.getElem_toArray, List.getElem_cons_succ, List.getElem_cons_zero, List.setIfInBounds_toArray, List.set_cons_zero, List.set_cons_succ]
 refine tk (i := 16) (v := .bool false) rfl (Or.inl ⟨rfl, fun W hS => by go_simp⟩) ?_
 simp only [Act.put, List.getElem_toArray, List.getElem_cons_succ, List.getElem_cons_zero, List.setIfInBounds_toArray, List.set_cons_zero, List.set_cons_succ]
 refine tk (i := 17) (v := .bool false) rfl (Or.inl ⟨rfl, fun W hS => by go_simp⟩) ?_
 simp only [Act.put, List.getElem_toArray, List.getElem_cons_succ, List.getElem_cons_zero, List.setIfInBounds_toArray, List.set_cons_zero, List.set_cons_succ]
 refine wpAnyH_done (by kernel_rfl) ?_ _
 have hz := hHeld.2.2.2.2.2.2.2
 go_wp2
 go_ret
 exact ⟨rfl, hz⟩
set_option maxRecDepth 100000 in
set_option maxHeartbeats 4000000 in
theorem may_nohead (s q n k a size : Int) (t : ByteArray) (ao : Option Addr) (x cap : Nat) (w : World) (hs : 0 ≤ size ∧ size ≤ 20000) (hhd : (nMay s q && decide (0 ≤ n ∧ n ≤ 1099511627776)) = false) :
  Calls Tryz.prog 68 #[.agg #[.int .i64 s, .int .i64 q, .int .i64 n, .int .i64 k, .int .i64 a, .string t, .slice ao x cap], .int .i64 size] w fun e w' => e = .returned (.bool false) ∧ Below w.heap.size w w' := by
 have hp : ∀ W, Calls Tryz.prog 80 #[.int .i64 size] W fun e w' => e = .returned (.bool true) ∧ Below W.heap.size W w' := fun W => (isPlace_any size W).mono fun _ _ ⟨h1, h2⟩ => ⟨by rw [h1]; rw [decide_eq_true hs], by rw [h2]; exact Below.refl _ _⟩
 have hh : ∀ W, Calls Tryz.prog 81 #[.agg #[.int .i64 s, .int .i64 q], .int .i64 n] W fun e w' => e = .returned (.bool false) ∧ Below W.heap.size W w' := fun W => (mayHead_any s q n W).mono fun _ _ ⟨h1, h2⟩ => ⟨by rw [h1, hhd], h2⟩
 have hB := OBox.new s q n k a t (.slice ao x cap) w 45
 clear hs hhd
 go_enter Tryz.func68, Tryz.ntmps68
 go_wp2_with fail
 refine wp_region_held_drew (S := fun W => OBox w.heap.size s q n k a t (.slice ao x cap) w W) (by kernel_rfl) (hB.keep (Below.refl _ _).drew) (fun hHeld => ?_)
 clear hB
 refine tk (i := 0) (v := .int .i64 size) rfl (Or.inl ⟨rfl, fun W hS => by go_simp⟩) ?_
 refine wpAnyH_ready (rs := [1]) (by kernel_rfl) (by simp) (AllReadyH.cons rfl (fun K hK => ?_) AllReadyH.nil)
 go_simp
 go_wp2_with (go_at_call 80; refine (hp _).mono ?_; rintro e wq ⟨rfl, hb⟩)
 refine hK.out _ _ (hHeld.keep hb) (fun hX => ?_)
 clear hK K hHeld
 have hHeld := hX
 clear hX
 refine tk (i := 2) (v := .bool true) rfl (Or.inl ⟨rfl, fun W hS => by go_simp⟩) ?_
 simp only [Act.put, List.getElem_toArray, List.getElem_cons_succ, List.getElem_cons_zero, List.setIfInBounds_toArray, List.set_cons_zero, List.set_cons_succ]
 refine tk (i := 3) (v := .pointer (some ⟨w.heap.size, 0, none⟩)) rfl (Or.inl ⟨rfl, fun W hS => by go_simp⟩) ?_
 simp only [Act.put, List.getElem_toArray, List.getElem_cons_succ, List.getElem_cons_zero, List.setIfInBounds_toArray, List.set_cons_zero, List.set_cons_succ]
 refine tk (i := 4) (v := .agg #[.int .i64 s, .int .i64 q]) rfl (Or.inl ⟨rfl, fun W hS => ?_⟩) ?_
 ·obtain ⟨c0, c1, c2, c3, c4, c5, c6, -⟩ := hS
  go_simp
 simp only [Act.put, List.getElem_toArray, List.getElem_cons_succ, List.getElem_cons_zero, List.setIfInBounds_toArray, List.set_cons_zero, List.set_cons_succ]
 refine tk (i := 5) (v := .pointer (some ⟨w.heap.size, 2, none⟩)) rfl (Or.inl ⟨rfl, fun W hS => by go_simp⟩) ?_
 simp only [Act.put, List.getElem_toArray, List.getElem_cons_succ, List.getElem_cons_zero, List.setIfInBounds_toArray, List.set_cons_zero, List.set_cons_succ]
 refine tk (i := 6) (v := .int .i64 n) rfl (Or.inl ⟨rfl, fun W hS => ?_⟩) ?_
 ·obtain ⟨c0, c1, c2, c3, c4, c5, c6, -⟩ := hS
  go_simp
 simp only [Act.put, List.getElem_toArray, List.getElem_cons_succ, List.getElem_cons_zero, List.setIfInBounds_toArray, List.set_cons_zero, List.set_cons_succ]
 refine wpAnyH_ready (rs := [7]) (by kernel_rfl) (by simp) (AllReadyH.cons rfl (fun K hK => ?_) AllReadyH.nil)
 go_simp
 go_wp2_with (go_at_call 81; refine (hh _).mono ?_; rintro e wq ⟨rfl, hb⟩)
 refine hK.out _ _ (hHeld.keep hb) (fun hX => ?_)
 clear hK K hHeld
 have hHeld := hX
 clear hX
 refine tk (i := 8) (v := .bool false) rfl (Or.inl ⟨rfl, fun W hS => by go_simp⟩) ?_
 simp only [Act.put, List.getElem_toArray, List.getElem_cons_succ, List.getElem_cons_zero, List.setIfInBounds_toArray, List.set_cons_zero, List.set_cons_succ]
 refine tk (i := 9) (v := .bool false) rfl (Or.inl ⟨rfl, fun W hS => by go_simp⟩) ?_
 simp only [Act.put, List.getElem_toArray, List.getElem_cons_succ, List.getElem_cons_zero, List.setIfInBounds_toArray, List.set_cons_zero, List.set_cons_succ]
 refine tk (i := 10) (v := undef) rfl (Or.inr ⟨rfl, rfl⟩) ?_
 simp only [Act.put, List.getElem_toArray, List.getElem_cons_succ, List.getElem_cons_zero, List.setIfInBounds_toArray, List.set_cons_zero, List.set_cons_succ]
 refine tk (i := 11) (v := undef) rfl (Or.inr ⟨rfl, rfl⟩) ?_
 simp only [Act.put, List.getElem_toArray, List.getElem_cons_succ, List.getElem_cons_zero, List.setIfInBounds_toArray, List.set_cons_zero, List.set_cons_succ]
 refine tk (i := 12) (v := undef) rfl (Or.inr ⟨rfl, rfl⟩) ?_
 simp only [Act.put, List.getElem_toArray, List.getElem_cons_succ, List.getElem_cons_zero, List.setIfInBounds_toArray, List.set_cons_zero, List.set_cons_succ]
 refine tk (i := 13) (v := undef) rfl (Or.inr ⟨rfl, rfl⟩) ?_
 simp only [Act.put, List.getElem_toArray, List.getElem_cons_succ, List.getElem_cons_zero, List.setIfInBounds_toArray, List.set_cons_zero, List.set_cons_succ]
 refine tk (i := 14) (v := undef) rfl (Or.inr ⟨rfl, rfl⟩) ?_
 simp only [Act.put, List.getElem_toArray, List.getElem_cons_succ, List.getElem_cons_zero, List.setIfInBounds_toArray, List.set_cons_zero, List.set_cons_succ]
 refine tk (i := 15) (v := undef) rfl (Or.inr ⟨rfl, rfl⟩) ?_
 simp only [Act.put, List.getElem_toArray, List.getElem_cons_succ, List.getElem_cons_zero, List.setIfInBounds_toArray, List.set_cons_zero, List.set_cons_succ]
 refine tk (i := 16) (v := .bool false) rfl (Or.inl ⟨rfl, fun W hS => by go_simp⟩) ?_
 simp only [Act.put, List.getElem_toArray, List.getElem_cons_succ, List.getElem_cons_zero, List.setIfInBounds_toArray, List.set_cons_zero, List.set_cons_succ]
 refine tk (i := 17) (v := .bool false) rfl (Or.inl ⟨rfl, fun W hS => by go_simp⟩) ?_
 simp only [Act.put, List.getElem_toArray, List.getElem_cons_succ, List.getElem_cons_zero, List.setIfInBounds_toArray, List.set_cons_zero, List.set_cons_succ]
 refine wpAnyH_done (by kernel_rfl) ?_ _
 have hz := hHeld.2.2.2.2.2.2.2
 go_wp2
 go_ret
 exact ⟨rfl, hz⟩
set_option maxRecDepth 100000 in
set_option maxHeartbeats 4000000 in
theorem may_ins (s q n a size : Int) (t : ByteArray) (ao : Option Addr) (x cap : Nat) (r : Bool) (w : World) (hs : 0 ≤ size ∧ size ≤ 20000) (hhd : (nMay s q && decide (0 ≤ n ∧ n ≤ 1099511627776)) = true)
  (hC : ∀ W, Below w.heap.size w W → Calls Tryz.prog 150 #[.agg #[], .agg #[.int .i64 s, .int .i64 q, .int .i64 n, .int .i64 1, .int .i64 a, .string t, .slice ao x cap], .int .i64 size] W fun e w' => e = .returned (.bool r) ∧ Below W.heap.size W w') :
  Calls Tryz.prog 68 #[.agg #[.int .i64 s, .int .i64 q, .int .i64 n, .int .i64 1, .int .i64 a, .string t, .slice ao x cap], .int .i64 size] w fun e w' => e = .returned (.bool r) ∧ Below w.heap.size w w' := by
 have hp : ∀ W, Calls Tryz.prog 80 #[.int .i64 size] W fun e w' => e = .returned (.bool true) ∧ Below W.heap.size W w' := fun W => (isPlace_any size W).mono fun _ _ ⟨h1, h2⟩ => ⟨by rw [h1]; rw [decide_eq_true hs], by rw [h2]; exact Below.refl _ _⟩
 have hh : ∀ W, Calls Tryz.prog 81 #[.agg #[.int .i64 s, .int .i64 q], .int .i64 n] W fun e w' => e = .returned (.bool true) ∧ Below W.heap.size W w' := fun W => (mayHead_any s q n W).mono fun _ _ ⟨h1, h2⟩ => ⟨by rw [h1, hhd], h2⟩
 have hk : ∀ W, Calls Tryz.prog 82 #[.int .i64 1] W fun e w' => e = .returned (.iface 161 (.agg #[])) ∧ Below W.heap.size W w' := fun W => (kind_ins W).mono fun _ _ ⟨h1, h2⟩ => ⟨h1, by rw [h2]; exact Below.refl _ _⟩
 have hm := meth_ins_may
 have hB := OBox.new s q n 1 a t (.slice ao x cap) w 45
 clear hs hhd
 go_enter Tryz.func68, Tryz.ntmps68
 go_wp2_with fail
 refine wp_region_held_drew (S := fun W => OBox w.heap.size s q n 1 a t (.slice ao x cap) w W) (by kernel_rfl) (hB.keep (Below.refl _ _).drew) (fun hHeld => ?_)
 clear hB
 refine tk (i := 0) (v := .int .i64 size) rfl (Or.inl ⟨rfl, fun W hS => by go_simp⟩) ?_
 refine wpAnyH_ready (rs := [1]) (by kernel_rfl) (by simp) (AllReadyH.cons rfl (fun K hK => ?_) AllReadyH.nil)
 go_simp
 go_wp2_with (go_at_call 80; refine (hp _).mono ?_; rintro e wq ⟨rfl, hb⟩)
 refine hK.out _ _ (hHeld.keep hb) (fun hX => ?_)
 clear hK K hHeld
 have hHeld := hX
 clear hX
 refine tk (i := 2) (v := .bool true) rfl (Or.inl ⟨rfl, fun W hS => by go_simp⟩) ?_
 simp only [Act.put, List.getElem_toArray, List.getElem_cons_succ, List.getElem_cons_zero, List.setIfInBounds_toArray, List.set_cons_zero, List.set_cons_succ]
 refine tk (i := 3) (v := .pointer (some ⟨w.heap.size, 0, none⟩)) rfl (Or.inl ⟨rfl, fun W hS => by go_simp⟩) ?_
 simp only [Act.put, List.getElem_toArray, List.getElem_cons_succ, List.getElem_cons_zero, List.setIfInBounds_toArray, List.set_cons_zero, List.set_cons_succ]
 refine tk (i := 4) (v := .agg #[.int .i64 s, .int .i64 q]) rfl (Or.inl ⟨rfl, fun W hS => ?_⟩) ?_
 ·obtain ⟨c0, c1, c2, c3, c4, c5, c6, -⟩ := hS
  go_simp
 simp only [Act.put, List.getElem_toArray, List.getElem_cons_succ, List.getElem_cons_zero, List.setIfInBounds_toArray, List.set_cons_zero, List.set_cons_succ]
 refine tk (i := 5) (v := .pointer (some ⟨w.heap.size, 2, none⟩)) rfl (Or.inl ⟨rfl, fun W hS => by go_simp⟩) ?_
 simp only [Act.put, List.getElem_toArray, List.getElem_cons_succ, List.getElem_cons_zero, List.setIfInBounds_toArray, List.set_cons_zero, List.set_cons_succ]
 refine tk (i := 6) (v := .int .i64 n) rfl (Or.inl ⟨rfl, fun W hS => ?_⟩) ?_
 ·obtain ⟨c0, c1, c2, c3, c4, c5, c6, -⟩ := hS
  go_simp
 simp only [Act.put, List.getElem_toArray, List.getElem_cons_succ, List.getElem_cons_zero, List.setIfInBounds_toArray, List.set_cons_zero, List.set_cons_succ]
 refine wpAnyH_ready (rs := [7]) (by kernel_rfl) (by simp) (AllReadyH.cons rfl (fun K hK => ?_) AllReadyH.nil)
 go_simp
 go_wp2_with (go_at_call 81; refine (hh _).mono ?_; rintro e wq ⟨rfl, hb⟩)
 refine hK.out _ _ (hHeld.keep hb) (fun hX => ?_)
 clear hK K hHeld
 have hHeld := hX
 clear hX
 refine tk (i := 8) (v := .bool true) rfl (Or.inl ⟨rfl, fun W hS => by go_simp⟩) ?_
 simp only [Act.put, List.getElem_toArray, List.getElem_cons_succ, List.getElem_cons_zero, List.setIfInBounds_toArray, List.set_cons_zero, List.set_cons_succ]
 refine tk (i := 9) (v := .bool true) rfl (Or.inl ⟨rfl, fun W hS => by go_simp⟩) ?_
 simp only [Act.put, List.getElem_toArray, List.getElem_cons_succ, List.getElem_cons_zero, List.setIfInBounds_toArray, List.set_cons_zero, List.set_cons_succ]
 refine tk (i := 10) (v := .pointer (some ⟨w.heap.size, 3, none⟩)) rfl (Or.inl ⟨rfl, fun W hS => by go_simp⟩) ?_
 simp only [Act.put, List.getElem_toArray, List.getElem_cons_succ, List.getElem_cons_zero, List.setIfInBounds_toArray, List.set_cons_zero, List.set_cons_succ]
 refine tk (i := 11) (v := .int .i64 1) rfl (Or.inl ⟨rfl, fun W hS => ?_⟩) ?_
 ·obtain ⟨c0, c1, c2, c3, c4, c5, c6, -⟩ := hS
  go_simp
 simp only [Act.put, List.getElem_toArray, List.getElem_cons_succ, List.getElem_cons_zero, List.setIfInBounds_toArray, List.set_cons_zero, List.set_cons_succ]
 refine tk (i := 13) (v := .agg #[.int .i64 s, .int .i64 q, .int .i64 n, .int .i64 1, .int .i64 a, .string t, .slice ao x cap]) rfl (Or.inl ⟨rfl, fun W hS => ?_⟩) ?_
 ·obtain ⟨c0, c1, c2, c3, c4, c5, c6, -⟩ := hS
  go_simp
 simp only [Act.put, List.getElem_toArray, List.getElem_cons_succ, List.getElem_cons_zero, List.setIfInBounds_toArray, List.set_cons_zero, List.set_cons_succ]
 refine tk (i := 14) (v := .int .i64 size) rfl (Or.inl ⟨rfl, fun W hS => by go_simp⟩) ?_
 simp only [Act.put, List.getElem_toArray, List.getElem_cons_succ, List.getElem_cons_zero, List.setIfInBounds_toArray, List.set_cons_zero, List.set_cons_succ]
 refine wpAnyH_ready (rs := [12]) (by kernel_rfl) (by simp) (AllReadyH.cons rfl (fun K hK => ?_) AllReadyH.nil)
 go_simp
 go_wp2_with (go_at_call 82; refine (hk _).mono ?_; rintro e wq ⟨rfl, hb⟩)
 refine hK.out _ _ (hHeld.keep hb) (fun hX => ?_)
 clear hK K hHeld
 have hHeld := hX
 clear hX
 refine wpAnyH_ready (rs := [15]) (by kernel_rfl) (by simp) (AllReadyH.cons rfl (fun K hK => ?_) AllReadyH.nil)
 go_simp
 go_wp2_with (go_at_call 150; refine (hC _ hHeld.2.2.2.2.2.2.2).mono ?_; rintro e wq ⟨rfl, hb⟩)
 refine hK.out _ _ (hHeld.keep hb) (fun hX => ?_)
 clear hK K hHeld
 have hHeld := hX
 clear hX
 refine tk (i := 16) (v := .bool r) rfl (Or.inl ⟨rfl, fun W hS => by go_simp⟩) ?_
 simp only [Act.put, List.getElem_toArray, List.getElem_cons_succ, List.getElem_cons_zero, List.setIfInBounds_toArray, List.set_cons_zero, List.set_cons_succ]
 refine tk (i := 17) (v := .bool r) rfl (Or.inl ⟨rfl, fun W hS => by go_simp⟩) ?_
 simp only [Act.put, List.getElem_toArray, List.getElem_cons_succ, List.getElem_cons_zero, List.setIfInBounds_toArray, List.set_cons_zero, List.set_cons_succ]
 refine wpAnyH_done (by kernel_rfl) ?_ _
 have hz := hHeld.2.2.2.2.2.2.2
 go_wp2
 go_ret
 exact ⟨rfl, hz⟩
set_option maxRecDepth 100000 in
set_option maxHeartbeats 4000000 in
theorem may_del (s q n a size : Int) (t : ByteArray) (ao : Option Addr) (x cap : Nat) (r : Bool) (w : World) (hs : 0 ≤ size ∧ size ≤ 20000) (hhd : (nMay s q && decide (0 ≤ n ∧ n ≤ 1099511627776)) = true)
  (hC : ∀ W, Below w.heap.size w W → Calls Tryz.prog 157 #[.agg #[], .agg #[.int .i64 s, .int .i64 q, .int .i64 n, .int .i64 2, .int .i64 a, .string t, .slice ao x cap], .int .i64 size] W fun e w' => e = .returned (.bool r) ∧ Below W.heap.size W w') :
  Calls Tryz.prog 68 #[.agg #[.int .i64 s, .int .i64 q, .int .i64 n, .int .i64 2, .int .i64 a, .string t, .slice ao x cap], .int .i64 size] w fun e w' => e = .returned (.bool r) ∧ Below w.heap.size w w' := by
 have hp : ∀ W, Calls Tryz.prog 80 #[.int .i64 size] W fun e w' => e = .returned (.bool true) ∧ Below W.heap.size W w' := fun W => (isPlace_any size W).mono fun _ _ ⟨h1, h2⟩ => ⟨by rw [h1]; rw [decide_eq_true hs], by rw [h2]; exact Below.refl _ _⟩
 have hh : ∀ W, Calls Tryz.prog 81 #[.agg #[.int .i64 s, .int .i64 q], .int .i64 n] W fun e w' => e = .returned (.bool true) ∧ Below W.heap.size W w' := fun W => (mayHead_any s q n W).mono fun _ _ ⟨h1, h2⟩ => ⟨by rw [h1, hhd], h2⟩
 have hk : ∀ W, Calls Tryz.prog 82 #[.int .i64 2] W fun e w' => e = .returned (.iface 162 (.agg #[])) ∧ Below W.heap.size W w' := fun W => (kind_del W).mono fun _ _ ⟨h1, h2⟩ => ⟨h1, by rw [h2]; exact Below.refl _ _⟩
 have hm := meth_del_may
 have hB := OBox.new s q n 2 a t (.slice ao x cap) w 45
 clear hs hhd
 go_enter Tryz.func68, Tryz.ntmps68
 go_wp2_with fail
 refine wp_region_held_drew (S := fun W => OBox w.heap.size s q n 2 a t (.slice ao x cap) w W) (by kernel_rfl) (hB.keep (Below.refl _ _).drew) (fun hHeld => ?_)
 clear hB
 refine tk (i := 0) (v := .int .i64 size) rfl (Or.inl ⟨rfl, fun W hS => by go_simp⟩) ?_
 refine wpAnyH_ready (rs := [1]) (by kernel_rfl) (by simp) (AllReadyH.cons rfl (fun K hK => ?_) AllReadyH.nil)
 go_simp
 go_wp2_with (go_at_call 80; refine (hp _).mono ?_; rintro e wq ⟨rfl, hb⟩)
 refine hK.out _ _ (hHeld.keep hb) (fun hX => ?_)
 clear hK K hHeld
 have hHeld := hX
 clear hX
 refine tk (i := 2) (v := .bool true) rfl (Or.inl ⟨rfl, fun W hS => by go_simp⟩) ?_
 simp only [Act.put, List.getElem_toArray, List.getElem_cons_succ, List.getElem_cons_zero, List.setIfInBounds_toArray, List.set_cons_zero, List.set_cons_succ]
 refine tk (i := 3) (v := .pointer (some ⟨w.heap.size, 0, none⟩)) rfl (Or.inl ⟨rfl, fun W hS => by go_simp⟩) ?_
 simp only [Act.put, List.getElem_toArray, List.getElem_cons_succ, List.getElem_cons_zero, List.setIfInBounds_toArray, List.set_cons_zero, List.set_cons_succ]
 refine tk (i := 4) (v := .agg #[.int .i64 s, .int .i64 q]) rfl (Or.inl ⟨rfl, fun W hS => ?_⟩) ?_
 ·obtain ⟨c0, c1, c2, c3, c4, c5, c6, -⟩ := hS
  go_simp
 simp only [Act.put, List.getElem_toArray, List.getElem_cons_succ, List.getElem_cons_zero, List.setIfInBounds_toArray, List.set_cons_zero, List.set_cons_succ]
 refine tk (i := 5) (v := .pointer (some ⟨w.heap.size, 2, none⟩)) rfl (Or.inl ⟨rfl, fun W hS => by go_simp⟩) ?_
 simp only [Act.put, List.getElem_toArray, List.getElem_cons_succ, List.getElem_cons_zero, List.setIfInBounds_toArray, List.set_cons_zero, List.set_cons_succ]
 refine tk (i := 6) (v := .int .i64 n) rfl (Or.inl ⟨rfl, fun W hS => ?_⟩) ?_
 ·obtain ⟨c0, c1, c2, c3, c4, c5, c6, -⟩ := hS
  go_simp
 simp only [Act.put, List.getElem_toArray, List.getElem_cons_succ, List.getElem_cons_zero, List.setIfInBounds_toArray, List.set_cons_zero, List.set_cons_succ]
 refine wpAnyH_ready (rs := [7]) (by kernel_rfl) (by simp) (AllReadyH.cons rfl (fun K hK => ?_) AllReadyH.nil)
 go_simp
 go_wp2_with (go_at_call 81; refine (hh _).mono ?_; rintro e wq ⟨rfl, hb⟩)
 refine hK.out _ _ (hHeld.keep hb) (fun hX => ?_)
 clear hK K hHeld
 have hHeld := hX
 clear hX
 refine tk (i := 8) (v := .bool true) rfl (Or.inl ⟨rfl, fun W hS => by go_simp⟩) ?_
 simp only [Act.put, List.getElem_toArray, List.getElem_cons_succ, List.getElem_cons_zero, List.setIfInBounds_toArray, List.set_cons_zero, List.set_cons_succ]
 refine tk (i := 9) (v := .bool true) rfl (Or.inl ⟨rfl, fun W hS => by go_simp⟩) ?_
 simp only [Act.put, List.getElem_toArray, List.getElem_cons_succ, List.getElem_cons_zero, List.setIfInBounds_toArray, List.set_cons_zero, List.set_cons_succ]
 refine tk (i := 10) (v := .pointer (some ⟨w.heap.size, 3, none⟩)) rfl (Or.inl ⟨rfl, fun W hS => by go_simp⟩) ?_
 simp only [Act.put, List.getElem_toArray, List.getElem_cons_succ, List.getElem_cons_zero, List.setIfInBounds_toArray, List.set_cons_zero, List.set_cons_succ]
 refine tk (i := 11) (v := .int .i64 2) rfl (Or.inl ⟨rfl, fun W hS => ?_⟩) ?_
 ·obtain ⟨c0, c1, c2, c3, c4, c5, c6, -⟩ := hS
  go_simp
 simp only [Act.put, List.getElem_toArray, List.getElem_cons_succ, List.getElem_cons_zero, List.setIfInBounds_toArray, List.set_cons_zero, List.set_cons_succ]
 refine tk (i := 13) (v := .agg #[.int .i64 s, .int .i64 q, .int .i64 n, .int .i64 2, .int .i64 a, .string t, .slice ao x cap]) rfl (Or.inl ⟨rfl, fun W hS => ?_⟩) ?_
 ·obtain ⟨c0, c1, c2, c3, c4, c5, c6, -⟩ := hS
  go_simp
 simp only [Act.put, List.getElem_toArray, List.getElem_cons_succ, List.getElem_cons_zero, List.setIfInBounds_toArray, List.set_cons_zero, List.set_cons_succ]
 refine tk (i := 14) (v := .int .i64 size) rfl (Or.inl ⟨rfl, fun W hS => by go_simp⟩) ?_
 simp only [Act.put, List.getElem_toArray, List.getElem_cons_succ, List.getElem_cons_zero, List.setIfInBounds_toArray, List.set_cons_zero, List.set_cons_succ]
 refine wpAnyH_ready (rs := [12]) (by kernel_rfl) (by simp) (AllReadyH.cons rfl (fun K hK => ?_) AllReadyH.nil)
 go_simp
 go_wp2_with (go_at_call 82; refine (hk _).mono ?_; rintro e wq ⟨rfl, hb⟩)
 refine hK.out _ _ (hHeld.keep hb) (fun hX => ?_)
 clear hK K hHeld
 have hHeld := hX
 clear hX
 refine wpAnyH_ready (rs := [15]) (by kernel_rfl) (by simp) (AllReadyH.cons rfl (fun K hK => ?_) AllReadyH.nil)
 go_simp
 go_wp2_with (go_at_call 157; refine (hC _ hHeld.2.2.2.2.2.2.2).mono ?_; rintro e wq ⟨rfl, hb⟩)
 refine hK.out _ _ (hHeld.keep hb) (fun hX => ?_)
 clear hK K hHeld
 have hHeld := hX
 clear hX
 refine tk (i := 16) (v := .bool r) rfl (Or.inl ⟨rfl, fun W hS => by go_simp⟩) ?_
 simp only [Act.put, List.getElem_toArray, List.getElem_cons_succ, List.getElem_cons_zero, List.setIfInBounds_toArray, List.set_cons_zero, List.set_cons_succ]
 refine tk (i := 17) (v := .bool r) rfl (Or.inl ⟨rfl, fun W hS => by go_simp⟩) ?_
 simp only [Act.put, List.getElem_toArray, List.getElem_cons_succ, List.getElem_cons_zero, List.setIfInBounds_toArray, List.set_cons_zero, List.set_cons_succ]
 refine wpAnyH_done (by kernel_rfl) ?_ _
 have hz := hHeld.2.2.2.2.2.2.2
 go_wp2
 go_ret
 exact ⟨rfl, hz⟩
set_option maxRecDepth 100000 in
set_option maxHeartbeats 4000000 in
theorem may_no (s q n k a size : Int) (t : ByteArray) (ao : Option Addr) (x cap : Nat) (r : Bool) (w : World) (hs : 0 ≤ size ∧ size ≤ 20000) (hhd : (nMay s q && decide (0 ≤ n ∧ n ≤ 1099511627776)) = true) (h1 : ¬ k = 1) (h2 : ¬ k = 2)
  (hC : ∀ W, Below w.heap.size w W → Calls Tryz.prog 169 #[.agg #[], .agg #[.int .i64 s, .int .i64 q, .int .i64 n, .int .i64 k, .int .i64 a, .string t, .slice ao x cap], .int .i64 size] W fun e w' => e = .returned (.bool r) ∧ Below W.heap.size W w') :
  Calls Tryz.prog 68 #[.agg #[.int .i64 s, .int .i64 q, .int .i64 n, .int .i64 k, .int .i64 a, .string t, .slice ao x cap], .int .i64 size] w fun e w' => e = .returned (.bool r) ∧ Below w.heap.size w w' := by
 have hp : ∀ W, Calls Tryz.prog 80 #[.int .i64 size] W fun e w' => e = .returned (.bool true) ∧ Below W.heap.size W w' := fun W => (isPlace_any size W).mono fun _ _ ⟨h1, h2⟩ => ⟨by rw [h1]; rw [decide_eq_true hs], by rw [h2]; exact Below.refl _ _⟩
 have hh : ∀ W, Calls Tryz.prog 81 #[.agg #[.int .i64 s, .int .i64 q], .int .i64 n] W fun e w' => e = .returned (.bool true) ∧ Below W.heap.size W w' := fun W => (mayHead_any s q n W).mono fun _ _ ⟨h1, h2⟩ => ⟨by rw [h1, hhd], h2⟩
 have hk : ∀ W, Calls Tryz.prog 82 #[.int .i64 k] W fun e w' => e = .returned (.iface 163 (.agg #[])) ∧ Below W.heap.size W w' := fun W => (kind_no k h1 h2 W).mono fun _ _ ⟨h1, h2⟩ => ⟨h1, by rw [h2]; exact Below.refl _ _⟩
 have hm := meth_no_may
 have hB := OBox.new s q n k a t (.slice ao x cap) w 45
 clear hs hhd
 go_enter Tryz.func68, Tryz.ntmps68
 go_wp2_with fail
 refine wp_region_held_drew (S := fun W => OBox w.heap.size s q n k a t (.slice ao x cap) w W) (by kernel_rfl) (hB.keep (Below.refl _ _).drew) (fun hHeld => ?_)
 clear hB
 refine tk (i := 0) (v := .int .i64 size) rfl (Or.inl ⟨rfl, fun W hS => by go_simp⟩) ?_
 refine wpAnyH_ready (rs := [1]) (by kernel_rfl) (by simp) (AllReadyH.cons rfl (fun K hK => ?_) AllReadyH.nil)
 go_simp
 go_wp2_with (go_at_call 80; refine (hp _).mono ?_; rintro e wq ⟨rfl, hb⟩)
 refine hK.out _ _ (hHeld.keep hb) (fun hX => ?_)
 clear hK K hHeld
 have hHeld := hX
 clear hX
 refine tk (i := 2) (v := .bool true) rfl (Or.inl ⟨rfl, fun W hS => by go_simp⟩) ?_
 simp only [Act.put, List.getElem_toArray, List.getElem_cons_succ, List.getElem_cons_zero, List.setIfInBounds_toArray, List.set_cons_zero, List.set_cons_succ]
 refine tk (i := 3) (v := .pointer (some ⟨w.heap.size, 0, none⟩)) rfl (Or.inl ⟨rfl, fun W hS => by go_simp⟩) ?_
 simp only [Act.put, List.getElem_toArray, List.getElem_cons_succ, List.getElem_cons_zero, List.setIfInBounds_toArray, List.set_cons_zero, List.set_cons_succ]
 refine tk (i := 4) (v := .agg #[.int .i64 s, .int .i64 q]) rfl (Or.inl ⟨rfl, fun W hS => ?_⟩) ?_
 ·obtain ⟨c0, c1, c2, c3, c4, c5, c6, -⟩ := hS
  go_simp
 simp only [Act.put, List.getElem_toArray, List.getElem_cons_succ, List.getElem_cons_zero, List.setIfInBounds_toArray, List.set_cons_zero, List.set_cons_succ]
 refine tk (i := 5) (v := .pointer (some ⟨w.heap.size, 2, none⟩)) rfl (Or.inl ⟨rfl, fun W hS => by go_simp⟩) ?_
 simp only [Act.put, List.getElem_toArray, List.getElem_cons_succ, List.getElem_cons_zero, List.setIfInBounds_toArray, List.set_cons_zero, List.set_cons_succ]
 refine tk (i := 6) (v := .int .i64 n) rfl (Or.inl ⟨rfl, fun W hS => ?_⟩) ?_
 ·obtain ⟨c0, c1, c2, c3, c4, c5, c6, -⟩ := hS
  go_simp
 simp only [Act.put, List.getElem_toArray, List.getElem_cons_succ, List.getElem_cons_zero, List.setIfInBounds_toArray, List.set_cons_zero, List.set_cons_succ]
 refine wpAnyH_ready (rs := [7]) (by kernel_rfl) (by simp) (AllReadyH.cons rfl (fun K hK => ?_) AllReadyH.nil)
 go_simp
 go_wp2_with (go_at_call 81; refine (hh _).mono ?_; rintro e wq ⟨rfl, hb⟩)
 refine hK.out _ _ (hHeld.keep hb) (fun hX => ?_)
 clear hK K hHeld
 have hHeld := hX
 clear hX
 refine tk (i := 8) (v := .bool true) rfl (Or.inl ⟨rfl, fun W hS => by go_simp⟩) ?_
 simp only [Act.put, List.getElem_toArray, List.getElem_cons_succ, List.getElem_cons_zero, List.setIfInBounds_toArray, List.set_cons_zero, List.set_cons_succ]
 refine tk (i := 9) (v := .bool true) rfl (Or.inl ⟨rfl, fun W hS => by go_simp⟩) ?_
 simp only [Act.put, List.getElem_toArray, List.getElem_cons_succ, List.getElem_cons_zero, List.setIfInBounds_toArray, List.set_cons_zero, List.set_cons_succ]
 refine tk (i := 10) (v := .pointer (some ⟨w.heap.size, 3, none⟩)) rfl (Or.inl ⟨rfl, fun W hS => by go_simp⟩) ?_
 simp only [Act.put, List.getElem_toArray, List.getElem_cons_succ, List.getElem_cons_zero, List.setIfInBounds_toArray, List.set_cons_zero, List.set_cons_succ]
 refine tk (i := 11) (v := .int .i64 k) rfl (Or.inl ⟨rfl, fun W hS => ?_⟩) ?_
 ·obtain ⟨c0, c1, c2, c3, c4, c5, c6, -⟩ := hS
  go_simp
 simp only [Act.put, List.getElem_toArray, List.getElem_cons_succ, List.getElem_cons_zero, List.setIfInBounds_toArray, List.set_cons_zero, List.set_cons_succ]
 refine tk (i := 13) (v := .agg #[.int .i64 s, .int .i64 q, .int .i64 n, .int .i64 k, .int .i64 a, .string t, .slice ao x cap]) rfl (Or.inl ⟨rfl, fun W hS => ?_⟩) ?_
 ·obtain ⟨c0, c1, c2, c3, c4, c5, c6, -⟩ := hS
  go_simp
 simp only [Act.put, List.getElem_toArray, List.getElem_cons_succ, List.getElem_cons_zero, List.setIfInBounds_toArray, List.set_cons_zero, List.set_cons_succ]
 refine tk (i := 14) (v := .int .i64 size) rfl (Or.inl ⟨rfl, fun W hS => by go_simp⟩) ?_
 simp only [Act.put, List.getElem_toArray, List.getElem_cons_succ, List.getElem_cons_zero, List.setIfInBounds_toArray, List.set_cons_zero, List.set_cons_succ]
 refine wpAnyH_ready (rs := [12]) (by kernel_rfl) (by simp) (AllReadyH.cons rfl (fun K hK => ?_) AllReadyH.nil)
 go_simp
 go_wp2_with (go_at_call 82; refine (hk _).mono ?_; rintro e wq ⟨rfl, hb⟩)
 refine hK.out _ _ (hHeld.keep hb) (fun hX => ?_)
 clear hK K hHeld
 have hHeld := hX
 clear hX
 refine wpAnyH_ready (rs := [15]) (by kernel_rfl) (by simp) (AllReadyH.cons rfl (fun K hK => ?_) AllReadyH.nil)
 go_simp
 go_wp2_with (go_at_call 169; refine (hC _ hHeld.2.2.2.2.2.2.2).mono ?_; rintro e wq ⟨rfl, hb⟩)
 refine hK.out _ _ (hHeld.keep hb) (fun hX => ?_)
 clear hK K hHeld
 have hHeld := hX
 clear hX
 refine tk (i := 16) (v := .bool r) rfl (Or.inl ⟨rfl, fun W hS => by go_simp⟩) ?_
 simp only [Act.put, List.getElem_toArray, List.getElem_cons_succ, List.getElem_cons_zero, List.setIfInBounds_toArray, List.set_cons_zero, List.set_cons_succ]
 refine tk (i := 17) (v := .bool r) rfl (Or.inl ⟨rfl, fun W hS => by go_simp⟩) ?_
 simp only [Act.put, List.getElem_toArray, List.getElem_cons_succ, List.getElem_cons_zero, List.setIfInBounds_toArray, List.set_cons_zero, List.set_cons_succ]
 refine wpAnyH_done (by kernel_rfl) ?_ _
 have hz := hHeld.2.2.2.2.2.2.2
 go_wp2
 go_ret
 exact ⟨rfl, hz⟩
end Go.Proofs.YthekkjfaaedamaaGreatDoor

namespace Go.Proofs.YthekkjfaaedamaaGreatDoor
open Go.RowKit

theorem PtAt.drew {W : World} {v : Value} {ps : List Value} (h : PtAt W v ps) : PtAt W.drew v ps := h
end Go.Proofs.YthekkjfaaedamaaGreatDoor
