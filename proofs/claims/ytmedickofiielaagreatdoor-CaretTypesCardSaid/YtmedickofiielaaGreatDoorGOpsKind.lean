/- Texts of this proof, joined. -/
import Derived.Test.YtmedickofiielaaGreatDoorRefOpsAny
import Derived.Test.YtmedickofiielaaGreatDoorGReads64
import Derived.Test.YtmedickofiielaaGreatDoorGIter
import Derived.Deep.RegionHeld
import Derived.Test.YtmedickofiielaaGreatDoorGSpansPlain
namespace Go.Proofs.YtmedickofiielaaGreatDoor
open Go.RowKit

theorem kind_ins (w : World) : Calls Tryz.prog 74 #[.int .i64 1] w fun e w' => e = .returned (.iface 165 (.agg #[])) ∧ w' = w := by
 go_enter Tryz.func74, Tryz.ntmps74
 go_wp2
 go_ret
 exact ⟨rfl, rfl⟩
theorem kind_del (w : World) : Calls Tryz.prog 74 #[.int .i64 2] w fun e w' => e = .returned (.iface 166 (.agg #[])) ∧ w' = w := by
 go_enter Tryz.func74, Tryz.ntmps74
 go_wp2
 go_ret
 exact ⟨rfl, rfl⟩
theorem kind_no (k : Int) (h1 : ¬ k = 1) (h2 : ¬ k = 2) (w : World) : Calls Tryz.prog 74 #[.int .i64 k] w fun e w' => e = .returned (.iface 167 (.agg #[])) ∧ w' = w := by
 go_enter Tryz.func74, Tryz.ntmps74
 go_wp2
 go_ret
 exact ⟨rfl, rfl⟩
theorem lenL_lenT (l : List UInt8) : lenL l = lenT l := by
 unfold lenL lenT
 cases runesL l <;> rfl
theorem isPlace_any (p : Int) (w : World) : Calls Tryz.prog 72 #[.int .i64 p] w fun e w' => e = .returned (.bool (decide (0 ≤ p ∧ p ≤ 20000))) ∧ w' = w := by
 obtain ⟨x, hx⟩ : ∃ x, decide (0 ≤ p ∧ p ≤ 20000) = x := ⟨_, rfl⟩
 rw [hx]
 have HX := Lib.hid hx
 clear hx
 by_cases p1 : 0 ≤ p
 by_cases p2 : p ≤ 20000
 all_goals
  go_enter Tryz.func72, Tryz.ntmps72
  go_wp2
  go_ret
 ·exact ⟨ret_bool ((decide_eq_true ⟨p1, p2⟩).symm.trans HX.out), rfl⟩
 ·exact ⟨ret_bool ((decide_eq_false (by omega)).symm.trans HX.out), rfl⟩
 ·exact ⟨ret_bool ((decide_eq_false (by omega)).symm.trans HX.out), rfl⟩
theorem mayIns_any (n : Int) (w : World) : Calls Tryz.prog 142 #[.int .i64 n] w fun e w' => e = .returned (.bool (decide (1 ≤ n ∧ n ≤ 200))) ∧ w' = w := by
 obtain ⟨x, hx⟩ : ∃ x, decide (1 ≤ n ∧ n ≤ 200) = x := ⟨_, rfl⟩
 rw [hx]
 have HX := Lib.hid hx
 clear hx
 by_cases p1 : 1 ≤ n
 by_cases p2 : n ≤ 200
 all_goals
  go_enter Tryz.func142, Tryz.ntmps142
  go_wp2
  go_ret
 ·exact ⟨ret_bool ((decide_eq_true ⟨p1, p2⟩).symm.trans HX.out), rfl⟩
 ·exact ⟨ret_bool ((decide_eq_false (by omega)).symm.trans HX.out), rfl⟩
 ·exact ⟨ret_bool ((decide_eq_false (by omega)).symm.trans HX.out), rfl⟩
set_option maxRecDepth 100000 in
set_option maxHeartbeats 2000000 in
theorem mayHead_any (s q n : Int) (w : World) : Calls Tryz.prog 73 #[nmV s q, .int .i64 n] w fun e w' => e = .returned (.bool (nMay s q && decide (0 ≤ n ∧ n ≤ 1099511627776))) ∧ Below w.heap.size w w' := by
 obtain ⟨x, hx⟩ : ∃ x, (nMay s q && decide (0 ≤ n ∧ n ≤ 1099511627776)) = x := ⟨_, rfl⟩
 rw [hx]
 have hM := fun W => pMayName_any s q W
 have hB := (Below.refl w.heap.size w).alloc (Nat.le_refl _) (.cells #[.int .i64 s, .int .i64 q] 46)
 obtain ⟨b, hb⟩ : ∃ b, nMay s q = b := ⟨_, rfl⟩
 rw [hb] at hM hx
 have HX := Lib.hid hx
 clear hb hx
 unfold nmV at hM ⊢
 cases b
 ·go_enter Tryz.func73, Tryz.ntmps73
  go_wp2_with fail
  refine (hM _).mono ?_
  rintro e w1 ⟨rfl, hb⟩
  have hz := hB.trans (hb.mono hB.size)
  go_wp2
  go_ret
  exact ⟨ret_bool HX.out, hz⟩
 ·have HY := Lib.hid (show decide (0 ≤ n ∧ n ≤ 1099511627776) = x from (Bool.true_and _).symm.trans HX.out)
  clear HX
  by_cases p1 : 0 ≤ n
  by_cases p2 : n ≤ 1099511627776
  all_goals
   go_enter Tryz.func73, Tryz.ntmps73
   go_wp2_with fail
   refine (hM _).mono ?_
   rintro e w1 ⟨rfl, hb⟩
   have hz := hB.trans (hb.mono hB.size)
   go_wp2
   go_ret
  ·exact ⟨ret_bool ((decide_eq_true ⟨p1, p2⟩).symm.trans HY.out), hz⟩
  ·exact ⟨ret_bool ((decide_eq_false (by omega)).trans ((decide_eq_false (by omega)).symm.trans HY.out)), hz⟩
  ·exact ⟨ret_bool ((decide_eq_false (by omega)).symm.trans HY.out), hz⟩

theorem meth_ins_adds (W : World) : (method 334 165 (.agg #[]) "foolscap/ops.adds").run Tryz.prog W = .ok (136, .agg #[]) W := by kernel_rfl
theorem meth_del_adds (W : World) : (method 334 166 (.agg #[]) "foolscap/ops.adds").run Tryz.prog W = .ok (143, .agg #[]) W := by kernel_rfl
theorem meth_no_adds (W : World) : (method 334 167 (.agg #[]) "foolscap/ops.adds").run Tryz.prog W = .ok (149, .agg #[]) W := by kernel_rfl

set_option maxRecDepth 100000 in
set_option maxHeartbeats 2000000 in
theorem insAdds_any (s q n k a : Int) (t : ByteArray) (sp : Value) (w : World) (hL : LenAt t w) :
  Calls Tryz.prog 136 #[.agg #[], opV s q n k a t sp] w fun e w' => e = .returned (.int .i64 (if lenT t.data.toList < 0 then 0 else lenT t.data.toList)) ∧ Below w.heap.size w w' := by
 have hB0 := (Below.refl w.heap.size w).alloc (Nat.le_refl _) (.cells #[] 165)
 have hB := hB0.alloc hB0.size (.cells #[.int .i64 s, .int .i64 q, .int .i64 n, .int .i64 k, .int .i64 a, .string t, sp] 50)
 have hC := hL _ hB
 have hlo := lenT_ge t.data.toList
 have hhi := lenT_le t.data.toList
 rw [lenL_lenT] at hC
 clear hL
 generalize lenT t.data.toList = m at *
 by_cases hm : m < 0
 ·rw [if_pos hm]
  obtain rfl : m = -1 := by omega
  unfold opV
  go_enter Tryz.func136, Tryz.ntmps136
  go_wp2_with fail
  refine hC.mono ?_
  rintro e w1 ⟨rfl, hb⟩
  have hz := hB.trans (hb.mono hB.size)
  go_wp2
  go_ret
  exact ⟨rfl, hz⟩
 ·rw [if_neg hm]
  unfold opV
  go_enter Tryz.func136, Tryz.ntmps136
  go_wp2_with fail
  refine hC.mono ?_
  rintro e w1 ⟨rfl, hb⟩
  have hz := hB.trans (hb.mono hB.size)
  go_wp2
  go_ret
  exact ⟨ret_i64 (show max m 0 = m by omega), hz⟩
end Go.Proofs.YtmedickofiielaaGreatDoor

namespace Go.Proofs.YtmedickofiielaaGreatDoor
open Go.RowKit

theorem meth_ins_may (W : World) : (method 334 165 (.agg #[]) "foolscap/ops.may").run Tryz.prog W = .ok (139, .agg #[]) W := by kernel_rfl
theorem meth_del_may (W : World) : (method 334 166 (.agg #[]) "foolscap/ops.may").run Tryz.prog W = .ok (146, .agg #[]) W := by kernel_rfl
theorem meth_no_may (W : World) : (method 334 167 (.agg #[]) "foolscap/ops.may").run Tryz.prog W = .ok (152, .agg #[]) W := by kernel_rfl
set_option maxRecDepth 100000 in
set_option maxHeartbeats 4000000 in
theorem adds_ins (s q n a r : Int) (t : ByteArray) (ao : Option Addr) (x cap : Nat) (w : World)
  (hC : ∀ W, Below w.heap.size w W → Calls Tryz.prog 136 #[.agg #[], .agg #[.int .i64 s, .int .i64 q, .int .i64 n, .int .i64 1, .int .i64 a, .string t, .slice ao x cap]] W fun e w' => e = .returned (.int .i64 r) ∧ Below W.heap.size W w') :
  Calls Tryz.prog 113 #[.agg #[.int .i64 s, .int .i64 q, .int .i64 n, .int .i64 1, .int .i64 a, .string t, .slice ao x cap]] w fun e w' => e = .returned (.int .i64 r) ∧ Below w.heap.size w w' := by
 have hk : ∀ W, Calls Tryz.prog 74 #[.int .i64 1] W fun e w' => e = .returned (.iface 165 (.agg #[])) ∧ Below W.heap.size W w' := fun W => (kind_ins W).mono fun _ _ ⟨h1, h2⟩ => ⟨h1, by rw [h2]; exact Below.refl _ _⟩
 have hm := meth_ins_adds
 have hB := OBox.new s q n 1 a t (.slice ao x cap) w 50
 go_enter Tryz.func113, Tryz.ntmps113
 go_wp2_with fail
 refine wp_region_held_drew (S := fun W => OBox w.heap.size s q n 1 a t (.slice ao x cap) w W) (by kernel_rfl) (hB.keep (Below.refl _ _).drew) (fun hHeld => ?_)
 clear hB
 refine tk (i := 0) (v := .pointer (some ⟨w.heap.size, 3, none⟩)) rfl (Or.inl ⟨rfl, fun W hS => by go_simp⟩) ?_
 refine tk (i := 1) (v := .int .i64 1) rfl (Or.inl ⟨rfl, fun W hS => ?_⟩) ?_
 ·obtain ⟨c0, c1, c2, c3, c4, c5, c6, -⟩ := hS
  go_simp
 simp only [td]
 refine tk (i := 3) (v := .agg #[.int .i64 s, .int .i64 q, .int .i64 n, .int .i64 1, .int .i64 a, .string t, .slice ao x cap]) rfl (Or.inl ⟨rfl, fun W hS => ?_⟩) ?_
 ·obtain ⟨c0, c1, c2, c3, c4, c5, c6, -⟩ := hS
  go_simp
 simp only [td]
 refine rd 2 rfl fun K hK => ?_
 go_simp
 go_wp2_with (go_at_call 74; refine (hk _).mono ?_; rintro e wq ⟨rfl, hb⟩)
 refine hK.out _ _ (hHeld.keep hb) (fun hX => ?_)
 clear hK K hHeld
 have hHeld := hX
 clear hX
 refine rd 4 rfl fun K hK => ?_
 go_simp
 go_wp2_with (go_at_call 136; refine (hC _ hHeld.2.2.2.2.2.2.2).mono ?_; rintro e wq ⟨rfl, hb⟩)
 refine hK.out _ _ (hHeld.keep hb) (fun hX => ?_)
 clear hK K hHeld
 have hHeld := hX
 clear hX
 refine tk (i := 5) (v := .int .i64 r) rfl (Or.inl ⟨rfl, fun W hS => by go_simp⟩) ?_
 simp only [td]
 refine wpAnyH_done (by kernel_rfl) ?_ _
 have hz := hHeld.2.2.2.2.2.2.2
 go_wp2
 go_ret
 exact ⟨rfl, hz⟩
set_option maxRecDepth 100000 in
set_option maxHeartbeats 4000000 in
theorem adds_del (s q n a r : Int) (t : ByteArray) (ao : Option Addr) (x cap : Nat) (w : World)
  (hC : ∀ W, Below w.heap.size w W → Calls Tryz.prog 143 #[.agg #[], .agg #[.int .i64 s, .int .i64 q, .int .i64 n, .int .i64 2, .int .i64 a, .string t, .slice ao x cap]] W fun e w' => e = .returned (.int .i64 r) ∧ Below W.heap.size W w') :
  Calls Tryz.prog 113 #[.agg #[.int .i64 s, .int .i64 q, .int .i64 n, .int .i64 2, .int .i64 a, .string t, .slice ao x cap]] w fun e w' => e = .returned (.int .i64 r) ∧ Below w.heap.size w w' := by
 have hk : ∀ W, Calls Tryz.prog 74 #[.int .i64 2] W fun e w' => e = .returned (.iface 166 (.agg #[])) ∧ Below W.heap.size W w' := fun W => (kind_del W).mono fun _ _ ⟨h1, h2⟩ => ⟨h1, by rw [h2]; exact Below.refl _ _⟩
 have hm := meth_del_adds
 have hB := OBox.new s q n 2 a t (.slice ao x cap) w 50
 go_enter Tryz.func113, Tryz.ntmps113
 go_wp2_with fail
 refine wp_region_held_drew (S := fun W => OBox w.heap.size s q n 2 a t (.slice ao x cap) w W) (by kernel_rfl) (hB.keep (Below.refl _ _).drew) (fun hHeld => ?_)
 clear hB
 refine tk (i := 0) (v := .pointer (some ⟨w.heap.size, 3, none⟩)) rfl (Or.inl ⟨rfl, fun W hS => by go_simp⟩) ?_
 refine tk (i := 1) (v := .int .i64 2) rfl (Or.inl ⟨rfl, fun W hS => ?_⟩) ?_
 ·obtain ⟨c0, c1, c2, c3, c4, c5, c6, -⟩ := hS
  go_simp
 simp only [td]
 refine tk (i := 3) (v := .agg #[.int .i64 s, .int .i64 q, .int .i64 n, .int .i64 2, .int .i64 a, .string t, .slice ao x cap]) rfl (Or.inl ⟨rfl, fun W hS => ?_⟩) ?_
 ·obtain ⟨c0, c1, c2, c3, c4, c5, c6, -⟩ := hS
  go_simp
 simp only [td]
 refine rd 2 rfl fun K hK => ?_
 go_simp
 go_wp2_with (go_at_call 74; refine (hk _).mono ?_; rintro e wq ⟨rfl, hb⟩)
 refine hK.out _ _ (hHeld.keep hb) (fun hX => ?_)
 clear hK K hHeld
 have hHeld := hX
 clear hX
 refine rd 4 rfl fun K hK => ?_
 go_simp
 go_wp2_with (go_at_call 143; refine (hC _ hHeld.2.2.2.2.2.2.2).mono ?_; rintro e wq ⟨rfl, hb⟩)
 refine hK.out _ _ (hHeld.keep hb) (fun hX => ?_)
 clear hK K hHeld
 have hHeld := hX
 clear hX
 refine tk (i := 5) (v := .int .i64 r) rfl (Or.inl ⟨rfl, fun W hS => by go_simp⟩) ?_
 simp only [td]
 refine wpAnyH_done (by kernel_rfl) ?_ _
 have hz := hHeld.2.2.2.2.2.2.2
 go_wp2
 go_ret
 exact ⟨rfl, hz⟩
set_option maxRecDepth 100000 in
set_option maxHeartbeats 4000000 in
theorem adds_no (s q n k a r : Int) (t : ByteArray) (ao : Option Addr) (x cap : Nat) (w : World) (h1 : ¬ k = 1) (h2 : ¬ k = 2)
  (hC : ∀ W, Below w.heap.size w W → Calls Tryz.prog 149 #[.agg #[], .agg #[.int .i64 s, .int .i64 q, .int .i64 n, .int .i64 k, .int .i64 a, .string t, .slice ao x cap]] W fun e w' => e = .returned (.int .i64 r) ∧ Below W.heap.size W w') :
  Calls Tryz.prog 113 #[.agg #[.int .i64 s, .int .i64 q, .int .i64 n, .int .i64 k, .int .i64 a, .string t, .slice ao x cap]] w fun e w' => e = .returned (.int .i64 r) ∧ Below w.heap.size w w' := by
 have hk : ∀ W, Calls Tryz.prog 74 #[.int .i64 k] W fun e w' => e = .returned (.iface 167 (.agg #[])) ∧ Below W.heap.size W w' := fun W => (kind_no k h1 h2 W).mono fun _ _ ⟨h1, h2⟩ => ⟨h1, by rw [h2]; exact Below.refl _ _⟩
 have hm := meth_no_adds
 have hB := OBox.new s q n k a t (.slice ao x cap) w 50
 go_enter Tryz.func113, Tryz.ntmps113
 go_wp2_with fail
 refine wp_region_held_drew (S := fun W => OBox w.heap.size s q n k a t (.slice ao x cap) w W) (by kernel_rfl) (hB.keep (Below.refl _ _).drew) (fun hHeld => ?_)
 clear hB
 refine tk (i := 0) (v := .pointer (some ⟨w.heap.size, 3, none⟩)) rfl (Or.inl ⟨rfl, fun W hS => by go_simp⟩) ?_
 refine tk (i := 1) (v := .int .i64 k) rfl (Or.inl ⟨rfl, fun W hS => ?_⟩) ?_
 ·obtain ⟨c0, c1, c2, c3, c4, c5, c6, -⟩ := hS
  go_simp
 simp only [td]
 refine tk (i := 3) (v := .agg #[.int .i64 s, .int .i64 q, .int .i64 n, .int .i64 k, .int .i64 a, .string t, .slice ao x cap]) rfl (Or.inl ⟨rfl, fun W hS => ?_⟩) ?_
 ·obtain ⟨c0, c1, c2, c3, c4, c5, c6, -⟩ := hS
  go_simp
 simp only [td]
 refine rd 2 rfl fun K hK => ?_
 go_simp
 go_wp2_with (go_at_call 74; refine (hk _).mono ?_; rintro e wq ⟨rfl, hb⟩)
 refine hK.out _ _ (hHeld.keep hb) (fun hX => ?_)
 clear hK K hHeld
 have hHeld := hX
 clear hX
 refine rd 4 rfl fun K hK => ?_
 go_simp
 go_wp2_with (go_at_call 149; refine (hC _ hHeld.2.2.2.2.2.2.2).mono ?_; rintro e wq ⟨rfl, hb⟩)
 refine hK.out _ _ (hHeld.keep hb) (fun hX => ?_)
 clear hK K hHeld
 have hHeld := hX
 clear hX
 refine tk (i := 5) (v := .int .i64 r) rfl (Or.inl ⟨rfl, fun W hS => by go_simp⟩) ?_
 simp only [td]
 refine wpAnyH_done (by kernel_rfl) ?_ _
 have hz := hHeld.2.2.2.2.2.2.2
 go_wp2
 go_ret
 exact ⟨rfl, hz⟩
set_option maxRecDepth 100000 in
set_option maxHeartbeats 4000000 in
theorem may_noplace (s q n k a size : Int) (t : ByteArray) (ao : Option Addr) (x cap : Nat) (w : World) (hs : ¬ (0 ≤ size ∧ size ≤ 20000)) :
  Calls Tryz.prog 45 #[.agg #[.int .i64 s, .int .i64 q, .int .i64 n, .int .i64 k, .int .i64 a, .string t, .slice ao x cap], .int .i64 size] w fun e w' => e = .returned (.bool false) ∧ Below w.heap.size w w' := by
 have hp : ∀ W, Calls Tryz.prog 72 #[.int .i64 size] W fun e w' => e = .returned (.bool false) ∧ Below W.heap.size W w' := fun W => (isPlace_any size W).mono fun _ _ ⟨h1, h2⟩ => ⟨by rw [h1]; rw [decide_eq_false hs], by rw [h2]; exact Below.refl _ _⟩
 have hB := OBox.new s q n k a t (.slice ao x cap) w 50
 clear hs
 go_enter Tryz.func45, Tryz.ntmps45
 go_wp2_with fail
 refine wp_region_held_drew (S := fun W => OBox w.heap.size s q n k a t (.slice ao x cap) w W) (by kernel_rfl) (hB.keep (Below.refl _ _).drew) (fun hHeld => ?_)
 clear hB
 refine tk (i := 0) (v := .int .i64 size) rfl (Or.inl ⟨rfl, fun W hS => by go_simp⟩) ?_
 refine rd 1 rfl fun K hK => ?_
 go_simp
 go_wp2_with (go_at_call 72; refine (hp _).mono ?_; rintro e wq ⟨rfl, hb⟩)
 refine hK.out _ _ (hHeld.keep hb) (fun hX => ?_)
 clear hK K hHeld
 have hHeld := hX
 clear hX
 refine tk (i := 2) (v := .bool false) rfl (Or.inl ⟨rfl, fun W hS => by go_simp⟩) ?_
 simp only [td]
 refine tk (i := 3) (v := undef) rfl (Or.inr ⟨rfl, rfl⟩) ?_
 simp only [td]
 refine tk (i := 4) (v := undef) rfl (Or.inr ⟨rfl, rfl⟩) ?_
 simp only [td]
 refine tk (i := 5) (v := undef) rfl (Or.inr ⟨rfl, rfl⟩) ?_
 simp only [td]
 refine tk (i := 6) (v := undef) rfl (Or.inr ⟨rfl, rfl⟩) ?_
 simp only [td]
 refine tk (i := 7) (v := undef) rfl (Or.inr ⟨rfl, rfl⟩) ?_
 simp only [td]
 refine tk (i := 8) (v := .bool false) rfl (Or.inl ⟨rfl, fun W hS => by go_simp⟩) ?_
 simp only [td]
 refine tk (i := 9) (v := .bool false) rfl (Or.inl ⟨rfl, fun W hS => by go_simp⟩) ?_
 simp only [td]
 refine tk (i := 10) (v := undef) rfl (Or.inr ⟨rfl, rfl⟩) ?_
 simp only [td]
 refine tk (i := 11) (v := undef) rfl (Or.inr ⟨rfl, rfl⟩) ?_
 simp only [td]
 refine tk (i := 12) (v := undef) rfl (Or.inr ⟨rfl, rfl⟩) ?_
 simp only [td]
 refine tk (i := 13) (v := undef) rfl (Or.inr ⟨rfl, rfl⟩) ?_
 simp only [td]
 refine tk (i := 14) (v := undef) rfl (Or.inr ⟨rfl, rfl⟩) ?_
 simp only [td]
 refine tk (i := 15) (v := undef) rfl (Or.inr ⟨rfl, rfl⟩) ?_
 simp only [td]
 refine tk (i := 16) (v := .bool false) rfl (Or.inl ⟨rfl, fun W hS => by go_simp⟩) ?_
 simp only [td]
 refine tk (i := 17) (v := .bool false) rfl (Or.inl ⟨rfl, fun W hS => by go_simp⟩) ?_
 simp only [td]
 refine wpAnyH_done (by kernel_rfl) ?_ _
 have hz := hHeld.2.2.2.2.2.2.2
 go_wp2
 go_ret
 exact ⟨rfl, hz⟩
set_option maxRecDepth 100000 in
set_option maxHeartbeats 4000000 in
theorem may_nohead (s q n k a size : Int) (t : ByteArray) (ao : Option Addr) (x cap : Nat) (w : World) (hs : 0 ≤ size ∧ size ≤ 20000) (hhd : (nMay s q && decide (0 ≤ n ∧ n ≤ 1099511627776)) = false) :
  Calls Tryz.prog 45 #[.agg #[.int .i64 s, .int .i64 q, .int .i64 n, .int .i64 k, .int .i64 a, .string t, .slice ao x cap], .int .i64 size] w fun e w' => e = .returned (.bool false) ∧ Below w.heap.size w w' := by
 have hp : ∀ W, Calls Tryz.prog 72 #[.int .i64 size] W fun e w' => e = .returned (.bool true) ∧ Below W.heap.size W w' := fun W => (isPlace_any size W).mono fun _ _ ⟨h1, h2⟩ => ⟨by rw [h1]; rw [decide_eq_true hs], by rw [h2]; exact Below.refl _ _⟩
 have hh : ∀ W, Calls Tryz.prog 73 #[.agg #[.int .i64 s, .int .i64 q], .int .i64 n] W fun e w' => e = .returned (.bool false) ∧ Below W.heap.size W w' := fun W => (mayHead_any s q n W).mono fun _ _ ⟨h1, h2⟩ => ⟨by rw [h1, hhd], h2⟩
 have hB := OBox.new s q n k a t (.slice ao x cap) w 50
 clear hs hhd
 go_enter Tryz.func45, Tryz.ntmps45
 go_wp2_with fail
 refine wp_region_held_drew (S := fun W => OBox w.heap.size s q n k a t (.slice ao x cap) w W) (by kernel_rfl) (hB.keep (Below.refl _ _).drew) (fun hHeld => ?_)
 clear hB
 refine tk (i := 0) (v := .int .i64 size) rfl (Or.inl ⟨rfl, fun W hS => by go_simp⟩) ?_
 refine rd 1 rfl fun K hK => ?_
 go_simp
 go_wp2_with (go_at_call 72; refine (hp _).mono ?_; rintro e wq ⟨rfl, hb⟩)
 refine hK.out _ _ (hHeld.keep hb) (fun hX => ?_)
 clear hK K hHeld
 have hHeld := hX
 clear hX
 refine tk (i := 2) (v := .bool true) rfl (Or.inl ⟨rfl, fun W hS => by go_simp⟩) ?_
 simp only [td]
 refine tk (i := 3) (v := .pointer (some ⟨w.heap.size, 0, none⟩)) rfl (Or.inl ⟨rfl, fun W hS => by go_simp⟩) ?_
 simp only [td]
 refine tk (i := 4) (v := .agg #[.int .i64 s, .int .i64 q]) rfl (Or.inl ⟨rfl, fun W hS => ?_⟩) ?_
 ·obtain ⟨c0, c1, c2, c3, c4, c5, c6, -⟩ := hS
  go_simp
 simp only [td]
 refine tk (i := 5) (v := .pointer (some ⟨w.heap.size, 2, none⟩)) rfl (Or.inl ⟨rfl, fun W hS => by go_simp⟩) ?_
 simp only [td]
 refine tk (i := 6) (v := .int .i64 n) rfl (Or.inl ⟨rfl, fun W hS => ?_⟩) ?_
 ·obtain ⟨c0, c1, c2, c3, c4, c5, c6, -⟩ := hS
  go_simp
 simp only [td]
 refine rd 7 rfl fun K hK => ?_
 go_simp
 go_wp2_with (go_at_call 73; refine (hh _).mono ?_; rintro e wq ⟨rfl, hb⟩)
 refine hK.out _ _ (hHeld.keep hb) (fun hX => ?_)
 clear hK K hHeld
 have hHeld := hX
 clear hX
 refine tk (i := 8) (v := .bool false) rfl (Or.inl ⟨rfl, fun W hS => by go_simp⟩) ?_
 simp only [td]
 refine tk (i := 9) (v := .bool false) rfl (Or.inl ⟨rfl, fun W hS => by go_simp⟩) ?_
 simp only [td]
 refine tk (i := 10) (v := undef) rfl (Or.inr ⟨rfl, rfl⟩) ?_
 simp only [td]
 refine tk (i := 11) (v := undef) rfl (Or.inr ⟨rfl, rfl⟩) ?_
 simp only [td]
 refine tk (i := 12) (v := undef) rfl (Or.inr ⟨rfl, rfl⟩) ?_
 simp only [td]
 refine tk (i := 13) (v := undef) rfl (Or.inr ⟨rfl, rfl⟩) ?_
 simp only [td]
 refine tk (i := 14) (v := undef) rfl (Or.inr ⟨rfl, rfl⟩) ?_
 simp only [td]
 refine tk (i := 15) (v := undef) rfl (Or.inr ⟨rfl, rfl⟩) ?_
 simp only [td]
 refine tk (i := 16) (v := .bool false) rfl (Or.inl ⟨rfl, fun W hS => by go_simp⟩) ?_
 simp only [td]
 refine tk (i := 17) (v := .bool false) rfl (Or.inl ⟨rfl, fun W hS => by go_simp⟩) ?_
 simp only [td]
 refine wpAnyH_done (by kernel_rfl) ?_ _
 have hz := hHeld.2.2.2.2.2.2.2
 go_wp2
 go_ret
 exact ⟨rfl, hz⟩
set_option maxRecDepth 100000 in
set_option maxHeartbeats 4000000 in
theorem may_ins (s q n a size : Int) (t : ByteArray) (ao : Option Addr) (x cap : Nat) (r : Bool) (w : World) (hs : 0 ≤ size ∧ size ≤ 20000) (hhd : (nMay s q && decide (0 ≤ n ∧ n ≤ 1099511627776)) = true)
  (hC : ∀ W, Below w.heap.size w W → Calls Tryz.prog 139 #[.agg #[], .agg #[.int .i64 s, .int .i64 q, .int .i64 n, .int .i64 1, .int .i64 a, .string t, .slice ao x cap], .int .i64 size] W fun e w' => e = .returned (.bool r) ∧ Below W.heap.size W w') :
  Calls Tryz.prog 45 #[.agg #[.int .i64 s, .int .i64 q, .int .i64 n, .int .i64 1, .int .i64 a, .string t, .slice ao x cap], .int .i64 size] w fun e w' => e = .returned (.bool r) ∧ Below w.heap.size w w' := by
 have hp : ∀ W, Calls Tryz.prog 72 #[.int .i64 size] W fun e w' => e = .returned (.bool true) ∧ Below W.heap.size W w' := fun W => (isPlace_any size W).mono fun _ _ ⟨h1, h2⟩ => ⟨by rw [h1]; rw [decide_eq_true hs], by rw [h2]; exact Below.refl _ _⟩
 have hh : ∀ W, Calls Tryz.prog 73 #[.agg #[.int .i64 s, .int .i64 q], .int .i64 n] W fun e w' => e = .returned (.bool true) ∧ Below W.heap.size W w' := fun W => (mayHead_any s q n W).mono fun _ _ ⟨h1, h2⟩ => ⟨by rw [h1, hhd], h2⟩
 have hk : ∀ W, Calls Tryz.prog 74 #[.int .i64 1] W fun e w' => e = .returned (.iface 165 (.agg #[])) ∧ Below W.heap.size W w' := fun W => (kind_ins W).mono fun _ _ ⟨h1, h2⟩ => ⟨h1, by rw [h2]; exact Below.refl _ _⟩
 have hm := meth_ins_may
 have hB := OBox.new s q n 1 a t (.slice ao x cap) w 50
 clear hs hhd
 go_enter Tryz.func45, Tryz.ntmps45
 go_wp2_with fail
 refine wp_region_held_drew (S := fun W => OBox w.heap.size s q n 1 a t (.slice ao x cap) w W) (by kernel_rfl) (hB.keep (Below.refl _ _).drew) (fun hHeld => ?_)
 clear hB
 refine tk (i := 0) (v := .int .i64 size) rfl (Or.inl ⟨rfl, fun W hS => by go_simp⟩) ?_
 refine rd 1 rfl fun K hK => ?_
 go_simp
 go_wp2_with (go_at_call 72; refine (hp _).mono ?_; rintro e wq ⟨rfl, hb⟩)
 refine hK.out _ _ (hHeld.keep hb) (fun hX => ?_)
 clear hK K hHeld
 have hHeld := hX
 clear hX
 refine tk (i := 2) (v := .bool true) rfl (Or.inl ⟨rfl, fun W hS => by go_simp⟩) ?_
 simp only [td]
 refine tk (i := 3) (v := .pointer (some ⟨w.heap.size, 0, none⟩)) rfl (Or.inl ⟨rfl, fun W hS => by go_simp⟩) ?_
 simp only [td]
 refine tk (i := 4) (v := .agg #[.int .i64 s, .int .i64 q]) rfl (Or.inl ⟨rfl, fun W hS => ?_⟩) ?_
 ·obtain ⟨c0, c1, c2, c3, c4, c5, c6, -⟩ := hS
  go_simp
 simp only [td]
 refine tk (i := 5) (v := .pointer (some ⟨w.heap.size, 2, none⟩)) rfl (Or.inl ⟨rfl, fun W hS => by go_simp⟩) ?_
 simp only [td]
 refine tk (i := 6) (v := .int .i64 n) rfl (Or.inl ⟨rfl, fun W hS => ?_⟩) ?_
 ·obtain ⟨c0, c1, c2, c3, c4, c5, c6, -⟩ := hS
  go_simp
 simp only [td]
 refine rd 7 rfl fun K hK => ?_
 go_simp
 go_wp2_with (go_at_call 73; refine (hh _).mono ?_; rintro e wq ⟨rfl, hb⟩)
 refine hK.out _ _ (hHeld.keep hb) (fun hX => ?_)
 clear hK K hHeld
 have hHeld := hX
 clear hX
 refine tk (i := 8) (v := .bool true) rfl (Or.inl ⟨rfl, fun W hS => by go_simp⟩) ?_
 simp only [td]
 refine tk (i := 9) (v := .bool true) rfl (Or.inl ⟨rfl, fun W hS => by go_simp⟩) ?_
 simp only [td]
 refine tk (i := 10) (v := .pointer (some ⟨w.heap.size, 3, none⟩)) rfl (Or.inl ⟨rfl, fun W hS => by go_simp⟩) ?_
 simp only [td]
 refine tk (i := 11) (v := .int .i64 1) rfl (Or.inl ⟨rfl, fun W hS => ?_⟩) ?_
 ·obtain ⟨c0, c1, c2, c3, c4, c5, c6, -⟩ := hS
  go_simp
 simp only [td]
 refine tk (i := 13) (v := .agg #[.int .i64 s, .int .i64 q, .int .i64 n, .int .i64 1, .int .i64 a, .string t, .slice ao x cap]) rfl (Or.inl ⟨rfl, fun W hS => ?_⟩) ?_
 ·obtain ⟨c0, c1, c2, c3, c4, c5, c6, -⟩ := hS
  go_simp
 simp only [td]
 refine tk (i := 14) (v := .int .i64 size) rfl (Or.inl ⟨rfl, fun W hS => by go_simp⟩) ?_
 simp only [td]
 refine rd 12 rfl fun K hK => ?_
 go_simp
 go_wp2_with (go_at_call 74; refine (hk _).mono ?_; rintro e wq ⟨rfl, hb⟩)
 refine hK.out _ _ (hHeld.keep hb) (fun hX => ?_)
 clear hK K hHeld
 have hHeld := hX
 clear hX
 refine rd 15 rfl fun K hK => ?_
 go_simp
 go_wp2_with (go_at_call 139; refine (hC _ hHeld.2.2.2.2.2.2.2).mono ?_; rintro e wq ⟨rfl, hb⟩)
 refine hK.out _ _ (hHeld.keep hb) (fun hX => ?_)
 clear hK K hHeld
 have hHeld := hX
 clear hX
 refine tk (i := 16) (v := .bool r) rfl (Or.inl ⟨rfl, fun W hS => by go_simp⟩) ?_
 simp only [td]
 refine tk (i := 17) (v := .bool r) rfl (Or.inl ⟨rfl, fun W hS => by go_simp⟩) ?_
 simp only [td]
 refine wpAnyH_done (by kernel_rfl) ?_ _
 have hz := hHeld.2.2.2.2.2.2.2
 go_wp2
 go_ret
 exact ⟨rfl, hz⟩
set_option maxRecDepth 100000 in
set_option maxHeartbeats 4000000 in
theorem may_del (s q n a size : Int) (t : ByteArray) (ao : Option Addr) (x cap : Nat) (r : Bool) (w : World) (hs : 0 ≤ size ∧ size ≤ 20000) (hhd : (nMay s q && decide (0 ≤ n ∧ n ≤ 1099511627776)) = true)
  (hC : ∀ W, Below w.heap.size w W → Calls Tryz.prog 146 #[.agg #[], .agg #[.int .i64 s, .int .i64 q, .int .i64 n, .int .i64 2, .int .i64 a, .string t, .slice ao x cap], .int .i64 size] W fun e w' => e = .returned (.bool r) ∧ Below W.heap.size W w') :
  Calls Tryz.prog 45 #[.agg #[.int .i64 s, .int .i64 q, .int .i64 n, .int .i64 2, .int .i64 a, .string t, .slice ao x cap], .int .i64 size] w fun e w' => e = .returned (.bool r) ∧ Below w.heap.size w w' := by
 have hp : ∀ W, Calls Tryz.prog 72 #[.int .i64 size] W fun e w' => e = .returned (.bool true) ∧ Below W.heap.size W w' := fun W => (isPlace_any size W).mono fun _ _ ⟨h1, h2⟩ => ⟨by rw [h1]; rw [decide_eq_true hs], by rw [h2]; exact Below.refl _ _⟩
 have hh : ∀ W, Calls Tryz.prog 73 #[.agg #[.int .i64 s, .int .i64 q], .int .i64 n] W fun e w' => e = .returned (.bool true) ∧ Below W.heap.size W w' := fun W => (mayHead_any s q n W).mono fun _ _ ⟨h1, h2⟩ => ⟨by rw [h1, hhd], h2⟩
 have hk : ∀ W, Calls Tryz.prog 74 #[.int .i64 2] W fun e w' => e = .returned (.iface 166 (.agg #[])) ∧ Below W.heap.size W w' := fun W => (kind_del W).mono fun _ _ ⟨h1, h2⟩ => ⟨h1, by rw [h2]; exact Below.refl _ _⟩
 have hm := meth_del_may
 have hB := OBox.new s q n 2 a t (.slice ao x cap) w 50
 clear hs hhd
 go_enter Tryz.func45, Tryz.ntmps45
 go_wp2_with fail
 refine wp_region_held_drew (S := fun W => OBox w.heap.size s q n 2 a t (.slice ao x cap) w W) (by kernel_rfl) (hB.keep (Below.refl _ _).drew) (fun hHeld => ?_)
 clear hB
 refine tk (i := 0) (v := .int .i64 size) rfl (Or.inl ⟨rfl, fun W hS => by go_simp⟩) ?_
 refine rd 1 rfl fun K hK => ?_
 go_simp
 go_wp2_with (go_at_call 72; refine (hp _).mono ?_; rintro e wq ⟨rfl, hb⟩)
 refine hK.out _ _ (hHeld.keep hb) (fun hX => ?_)
 clear hK K hHeld
 have hHeld := hX
 clear hX
 refine tk (i := 2) (v := .bool true) rfl (Or.inl ⟨rfl, fun W hS => by go_simp⟩) ?_
 simp only [td]
 refine tk (i := 3) (v := .pointer (some ⟨w.heap.size, 0, none⟩)) rfl (Or.inl ⟨rfl, fun W hS => by go_simp⟩) ?_
 simp only [td]
 refine tk (i := 4) (v := .agg #[.int .i64 s, .int .i64 q]) rfl (Or.inl ⟨rfl, fun W hS => ?_⟩) ?_
 ·obtain ⟨c0, c1, c2, c3, c4, c5, c6, -⟩ := hS
  go_simp
 simp only [td]
 refine tk (i := 5) (v := .pointer (some ⟨w.heap.size, 2, none⟩)) rfl (Or.inl ⟨rfl, fun W hS => by go_simp⟩) ?_
 simp only [td]
 refine tk (i := 6) (v := .int .i64 n) rfl (Or.inl ⟨rfl, fun W hS => ?_⟩) ?_
 ·obtain ⟨c0, c1, c2, c3, c4, c5, c6, -⟩ := hS
  go_simp
 simp only [td]
 refine rd 7 rfl fun K hK => ?_
 go_simp
 go_wp2_with (go_at_call 73; refine (hh _).mono ?_; rintro e wq ⟨rfl, hb⟩)
 refine hK.out _ _ (hHeld.keep hb) (fun hX => ?_)
 clear hK K hHeld
 have hHeld := hX
 clear hX
 refine tk (i := 8) (v := .bool true) rfl (Or.inl ⟨rfl, fun W hS => by go_simp⟩) ?_
 simp only [td]
 refine tk (i := 9) (v := .bool true) rfl (Or.inl ⟨rfl, fun W hS => by go_simp⟩) ?_
 simp only [td]
 refine tk (i := 10) (v := .pointer (some ⟨w.heap.size, 3, none⟩)) rfl (Or.inl ⟨rfl, fun W hS => by go_simp⟩) ?_
 simp only [td]
 refine tk (i := 11) (v := .int .i64 2) rfl (Or.inl ⟨rfl, fun W hS => ?_⟩) ?_
 ·obtain ⟨c0, c1, c2, c3, c4, c5, c6, -⟩ := hS
  go_simp
 simp only [td]
 refine tk (i := 13) (v := .agg #[.int .i64 s, .int .i64 q, .int .i64 n, .int .i64 2, .int .i64 a, .string t, .slice ao x cap]) rfl (Or.inl ⟨rfl, fun W hS => ?_⟩) ?_
 ·obtain ⟨c0, c1, c2, c3, c4, c5, c6, -⟩ := hS
  go_simp
 simp only [td]
 refine tk (i := 14) (v := .int .i64 size) rfl (Or.inl ⟨rfl, fun W hS => by go_simp⟩) ?_
 simp only [td]
 refine rd 12 rfl fun K hK => ?_
 go_simp
 go_wp2_with (go_at_call 74; refine (hk _).mono ?_; rintro e wq ⟨rfl, hb⟩)
 refine hK.out _ _ (hHeld.keep hb) (fun hX => ?_)
 clear hK K hHeld
 have hHeld := hX
 clear hX
 refine rd 15 rfl fun K hK => ?_
 go_simp
 go_wp2_with (go_at_call 146; refine (hC _ hHeld.2.2.2.2.2.2.2).mono ?_; rintro e wq ⟨rfl, hb⟩)
 refine hK.out _ _ (hHeld.keep hb) (fun hX => ?_)
 clear hK K hHeld
 have hHeld := hX
 clear hX
 refine tk (i := 16) (v := .bool r) rfl (Or.inl ⟨rfl, fun W hS => by go_simp⟩) ?_
 simp only [td]
 refine tk (i := 17) (v := .bool r) rfl (Or.inl ⟨rfl, fun W hS => by go_simp⟩) ?_
 simp only [td]
 refine wpAnyH_done (by kernel_rfl) ?_ _
 have hz := hHeld.2.2.2.2.2.2.2
 go_wp2
 go_ret
 exact ⟨rfl, hz⟩
set_option maxRecDepth 100000 in
set_option maxHeartbeats 4000000 in
theorem may_no (s q n k a size : Int) (t : ByteArray) (ao : Option Addr) (x cap : Nat) (r : Bool) (w : World) (hs : 0 ≤ size ∧ size ≤ 20000) (hhd : (nMay s q && decide (0 ≤ n ∧ n ≤ 1099511627776)) = true) (h1 : ¬ k = 1) (h2 : ¬ k = 2)
  (hC : ∀ W, Below w.heap.size w W → Calls Tryz.prog 152 #[.agg #[], .agg #[.int .i64 s, .int .i64 q, .int .i64 n, .int .i64 k, .int .i64 a, .string t, .slice ao x cap], .int .i64 size] W fun e w' => e = .returned (.bool r) ∧ Below W.heap.size W w') :
  Calls Tryz.prog 45 #[.agg #[.int .i64 s, .int .i64 q, .int .i64 n, .int .i64 k, .int .i64 a, .string t, .slice ao x cap], .int .i64 size] w fun e w' => e = .returned (.bool r) ∧ Below w.heap.size w w' := by
 have hp : ∀ W, Calls Tryz.prog 72 #[.int .i64 size] W fun e w' => e = .returned (.bool true) ∧ Below W.heap.size W w' := fun W => (isPlace_any size W).mono fun _ _ ⟨h1, h2⟩ => ⟨by rw [h1]; rw [decide_eq_true hs], by rw [h2]; exact Below.refl _ _⟩
 have hh : ∀ W, Calls Tryz.prog 73 #[.agg #[.int .i64 s, .int .i64 q], .int .i64 n] W fun e w' => e = .returned (.bool true) ∧ Below W.heap.size W w' := fun W => (mayHead_any s q n W).mono fun _ _ ⟨h1, h2⟩ => ⟨by rw [h1, hhd], h2⟩
 have hk : ∀ W, Calls Tryz.prog 74 #[.int .i64 k] W fun e w' => e = .returned (.iface 167 (.agg #[])) ∧ Below W.heap.size W w' := fun W => (kind_no k h1 h2 W).mono fun _ _ ⟨h1, h2⟩ => ⟨h1, by rw [h2]; exact Below.refl _ _⟩
 have hm := meth_no_may
 have hB := OBox.new s q n k a t (.slice ao x cap) w 50
 clear hs hhd
 go_enter Tryz.func45, Tryz.ntmps45
 go_wp2_with fail
 refine wp_region_held_drew (S := fun W => OBox w.heap.size s q n k a t (.slice ao x cap) w W) (by kernel_rfl) (hB.keep (Below.refl _ _).drew) (fun hHeld => ?_)
 clear hB
 refine tk (i := 0) (v := .int .i64 size) rfl (Or.inl ⟨rfl, fun W hS => by go_simp⟩) ?_
 refine rd 1 rfl fun K hK => ?_
 go_simp
 go_wp2_with (go_at_call 72; refine (hp _).mono ?_; rintro e wq ⟨rfl, hb⟩)
 refine hK.out _ _ (hHeld.keep hb) (fun hX => ?_)
 clear hK K hHeld
 have hHeld := hX
 clear hX
 refine tk (i := 2) (v := .bool true) rfl (Or.inl ⟨rfl, fun W hS => by go_simp⟩) ?_
 simp only [td]
 refine tk (i := 3) (v := .pointer (some ⟨w.heap.size, 0, none⟩)) rfl (Or.inl ⟨rfl, fun W hS => by go_simp⟩) ?_
 simp only [td]
 refine tk (i := 4) (v := .agg #[.int .i64 s, .int .i64 q]) rfl (Or.inl ⟨rfl, fun W hS => ?_⟩) ?_
 ·obtain ⟨c0, c1, c2, c3, c4, c5, c6, -⟩ := hS
  go_simp
 simp only [td]
 refine tk (i := 5) (v := .pointer (some ⟨w.heap.size, 2, none⟩)) rfl (Or.inl ⟨rfl, fun W hS => by go_simp⟩) ?_
 simp only [td]
 refine tk (i := 6) (v := .int .i64 n) rfl (Or.inl ⟨rfl, fun W hS => ?_⟩) ?_
 ·obtain ⟨c0, c1, c2, c3, c4, c5, c6, -⟩ := hS
  go_simp
 simp only [td]
 refine rd 7 rfl fun K hK => ?_
 go_simp
 go_wp2_with (go_at_call 73; refine (hh _).mono ?_; rintro e wq ⟨rfl, hb⟩)
 refine hK.out _ _ (hHeld.keep hb) (fun hX => ?_)
 clear hK K hHeld
 have hHeld := hX
 clear hX
 refine tk (i := 8) (v := .bool true) rfl (Or.inl ⟨rfl, fun W hS => by go_simp⟩) ?_
 simp only [td]
 refine tk (i := 9) (v := .bool true) rfl (Or.inl ⟨rfl, fun W hS => by go_simp⟩) ?_
 simp only [td]
 refine tk (i := 10) (v := .pointer (some ⟨w.heap.size, 3, none⟩)) rfl (Or.inl ⟨rfl, fun W hS => by go_simp⟩) ?_
 simp only [td]
 refine tk (i := 11) (v := .int .i64 k) rfl (Or.inl ⟨rfl, fun W hS => ?_⟩) ?_
 ·obtain ⟨c0, c1, c2, c3, c4, c5, c6, -⟩ := hS
  go_simp
 simp only [td]
 refine tk (i := 13) (v := .agg #[.int .i64 s, .int .i64 q, .int .i64 n, .int .i64 k, .int .i64 a, .string t, .slice ao x cap]) rfl (Or.inl ⟨rfl, fun W hS => ?_⟩) ?_
 ·obtain ⟨c0, c1, c2, c3, c4, c5, c6, -⟩ := hS
  go_simp
 simp only [td]
 refine tk (i := 14) (v := .int .i64 size) rfl (Or.inl ⟨rfl, fun W hS => by go_simp⟩) ?_
 simp only [td]
 refine rd 12 rfl fun K hK => ?_
 go_simp
 go_wp2_with (go_at_call 74; refine (hk _).mono ?_; rintro e wq ⟨rfl, hb⟩)
 refine hK.out _ _ (hHeld.keep hb) (fun hX => ?_)
 clear hK K hHeld
 have hHeld := hX
 clear hX
 refine rd 15 rfl fun K hK => ?_
 go_simp
 go_wp2_with (go_at_call 152; refine (hC _ hHeld.2.2.2.2.2.2.2).mono ?_; rintro e wq ⟨rfl, hb⟩)
 refine hK.out _ _ (hHeld.keep hb) (fun hX => ?_)
 clear hK K hHeld
 have hHeld := hX
 clear hX
 refine tk (i := 16) (v := .bool r) rfl (Or.inl ⟨rfl, fun W hS => by go_simp⟩) ?_
 simp only [td]
 refine tk (i := 17) (v := .bool r) rfl (Or.inl ⟨rfl, fun W hS => by go_simp⟩) ?_
 simp only [td]
 refine wpAnyH_done (by kernel_rfl) ?_ _
 have hz := hHeld.2.2.2.2.2.2.2
 go_wp2
 go_ret
 exact ⟨rfl, hz⟩
end Go.Proofs.YtmedickofiielaaGreatDoor
