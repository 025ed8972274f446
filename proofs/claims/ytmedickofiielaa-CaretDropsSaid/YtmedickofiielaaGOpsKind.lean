/- Texts of this proof, joined. -/
import Derived.Test.YtmedickofiielaaRefOpsAny
import Derived.Test.YtmedickofiielaaGReads64
import Derived.Test.YtmedickofiielaaGIter
import Derived.Deep.RegionHeld
import Derived.Test.YtmedickofiielaaGSpansPlain
namespace Go.Proofs.Ytmedickofiielaa
open Go.RowKit

theorem kind_ins (w : World) : Calls Try.prog 64 #[.int .i64 1] w fun e w' => e = .returned (.iface 138 (.agg #[])) ∧ w' = w := by
 go_enter Try.func64, Try.ntmps64
 go_wp2
 go_ret
 exact ⟨rfl, rfl⟩
theorem kind_del (w : World) : Calls Try.prog 64 #[.int .i64 2] w fun e w' => e = .returned (.iface 139 (.agg #[])) ∧ w' = w := by
 go_enter Try.func64, Try.ntmps64
 go_wp2
 go_ret
 exact ⟨rfl, rfl⟩
theorem kind_no (k : Int) (h1 : ¬ k = 1) (h2 : ¬ k = 2) (w : World) : Calls Try.prog 64 #[.int .i64 k] w fun e w' => e = .returned (.iface 140 (.agg #[])) ∧ w' = w := by
 go_enter Try.func64, Try.ntmps64
 go_wp2
 go_ret
 exact ⟨rfl, rfl⟩
theorem lenL_lenT (l : List UInt8) : lenL l = lenT l := by
 unfold lenL lenT
 cases runesL l <;> rfl
theorem isPlace_any (p : Int) (w : World) : Calls Try.prog 62 #[.int .i64 p] w fun e w' => e = .returned (.bool (decide (0 ≤ p ∧ p ≤ 20000))) ∧ w' = w := by
 obtain ⟨x, hx⟩ : ∃ x, decide (0 ≤ p ∧ p ≤ 20000) = x := ⟨_, rfl⟩
 rw [hx]
 have HX := Lib.hid hx
 clear hx
 by_cases p1 : 0 ≤ p
 by_cases p2 : p ≤ 20000
 all_goals
  go_enter Try.func62, Try.ntmps62
  go_wp2
  go_ret
 ·exact ⟨ret_bool ((decide_eq_true ⟨p1, p2⟩).symm.trans HX.out), rfl⟩
 ·exact ⟨ret_bool ((decide_eq_false (by omega)).symm.trans HX.out), rfl⟩
 ·exact ⟨ret_bool ((decide_eq_false (by omega)).symm.trans HX.out), rfl⟩
theorem mayIns_any (n : Int) (w : World) : Calls Try.prog 92 #[.int .i64 n] w fun e w' => e = .returned (.bool (decide (1 ≤ n ∧ n ≤ 200))) ∧ w' = w := by
 obtain ⟨x, hx⟩ : ∃ x, decide (1 ≤ n ∧ n ≤ 200) = x := ⟨_, rfl⟩
 rw [hx]
 have HX := Lib.hid hx
 clear hx
 by_cases p1 : 1 ≤ n
 by_cases p2 : n ≤ 200
 all_goals
  go_enter Try.func92, Try.ntmps92
  go_wp2
  go_ret
 ·exact ⟨ret_bool ((decide_eq_true ⟨p1, p2⟩).symm.trans HX.out), rfl⟩
 ·exact ⟨ret_bool ((decide_eq_false (by omega)).symm.trans HX.out), rfl⟩
 ·exact ⟨ret_bool ((decide_eq_false (by omega)).symm.trans HX.out), rfl⟩
set_option maxRecDepth 100000 in
set_option maxHeartbeats 2000000 in
theorem mayHead_any (s q n : Int) (w : World) : Calls Try.prog 63 #[nmV s q, .int .i64 n] w fun e w' => e = .returned (.bool (nMay s q && decide (0 ≤ n ∧ n ≤ 1099511627776))) ∧ Below w.heap.size w w' := by
 obtain ⟨x, hx⟩ : ∃ x, (nMay s q && decide (0 ≤ n ∧ n ≤ 1099511627776)) = x := ⟨_, rfl⟩
 rw [hx]
 have hM := fun W => pMayName_any s q W
 have hB := (Below.refl w.heap.size w).alloc (Nat.le_refl _) (.cells #[.int .i64 s, .int .i64 q] 39)
 obtain ⟨b, hb⟩ : ∃ b, nMay s q = b := ⟨_, rfl⟩
 rw [hb] at hM hx
 have HX := Lib.hid hx
 clear hb hx
 unfold nmV at hM ⊢
 cases b
 ·go_enter Try.func63, Try.ntmps63
  go_wp2_with fail
  refine (hM _).mono ?_
  rintro e w1 ⟨rfl, hb⟩
  have hz := hB.trans (hb.mono hB.size)
  go_wp2
  go_ret
  exact ⟨ret_bool HX.out, hz⟩
 ·have HY := Lib.hid (show decide (0 ≤ n ∧ n ≤ 1099511627776) = x from (Bool.true_and _).symm.trans HX.out)
  clear HX
  by_cases p1 : 0 ≤ n
  by_cases p2 : n ≤ 1099511627776
  all_goals
   go_enter Try.func63, Try.ntmps63
   go_wp2_with fail
   refine (hM _).mono ?_
   rintro e w1 ⟨rfl, hb⟩
   have hz := hB.trans (hb.mono hB.size)
   go_wp2
   go_ret
  ·exact ⟨ret_bool ((decide_eq_true ⟨p1, p2⟩).symm.trans HY.out), hz⟩
  ·exact ⟨ret_bool ((decide_eq_false (by omega)).trans ((decide_eq_false (by omega)).symm.trans HY.out)), hz⟩
  ·exact ⟨ret_bool ((decide_eq_false (by omega)).symm.trans HY.out), hz⟩

theorem meth_ins_adds (W : World) : (method 283 138 (.agg #[]) "foolscap/ops.adds").run Try.prog W = .ok (85, .agg #[]) W := by kernel_rfl
theorem meth_del_adds (W : World) : (method 283 139 (.agg #[]) "foolscap/ops.adds").run Try.prog W = .ok (98, .agg #[]) W := by kernel_rfl
theorem meth_no_adds (W : World) : (method 283 140 (.agg #[]) "foolscap/ops.adds").run Try.prog W = .ok (105, .agg #[]) W := by kernel_rfl

set_option maxRecDepth 100000 in
set_option maxHeartbeats 2000000 in
theorem insAdds_any (s q n k a : Int) (t : ByteArray) (sp : Value) (w : World) (hL : LenAt t w) :
  Calls Try.prog 85 #[.agg #[], opV s q n k a t sp] w fun e w' => e = .returned (.int .i64 (if lenT t.data.toList < 0 then 0 else lenT t.data.toList)) ∧ Below w.heap.size w w' := by
 have hB0 := (Below.refl w.heap.size w).alloc (Nat.le_refl _) (.cells #[] 138)
 have hB := hB0.alloc hB0.size (.cells #[.int .i64 s, .int .i64 q, .int .i64 n, .int .i64 k, .int .i64 a, .string t, sp] 47)
 have hC := hL _ hB
 have hlo := lenT_ge t.data.toList
 have hhi := lenT_le t.data.toList
 rw [lenL_lenT] at hC
 clear hL
 generalize lenT t.data.toList = m at *
 by_cases hm : m < 0
 ·rw [if_pos hm]
  obtain rfl : m = -1 := by omega
  unfold opV
  go_enter Try.func85, Try.ntmps85
  go_wp2_with fail
  refine hC.mono ?_
  rintro e w1 ⟨rfl, hb⟩
  have hz := hB.trans (hb.mono hB.size)
  go_wp2
  go_ret
  exact ⟨rfl, hz⟩
 ·rw [if_neg hm]
  unfold opV
  go_enter Try.func85, Try.ntmps85
  go_wp2_with fail
  refine hC.mono ?_
  rintro e w1 ⟨rfl, hb⟩
  have hz := hB.trans (hb.mono hB.size)
  go_wp2
  go_ret
  exact ⟨ret_i64 (show max m 0 = m by omega), hz⟩
end Go.Proofs.Ytmedickofiielaa

namespace Go.Proofs.Ytmedickofiielaa
open Go.RowKit

theorem meth_ins_may (W : World) : (method 283 138 (.agg #[]) "foolscap/ops.may").run Try.prog W = .ok (88, .agg #[]) W := by kernel_rfl
theorem meth_del_may (W : World) : (method 283 139 (.agg #[]) "foolscap/ops.may").run Try.prog W = .ok (101, .agg #[]) W := by kernel_rfl
theorem meth_no_may (W : World) : (method 283 140 (.agg #[]) "foolscap/ops.may").run Try.prog W = .ok (108, .agg #[]) W := by kernel_rfl
set_option maxRecDepth 100000 in
set_option maxHeartbeats 4000000 in
theorem adds_ins (s q n a r : Int) (t : ByteArray) (ao : Option Addr) (x cap : Nat) (w : World)
  (hC : ∀ W, Below w.heap.size w W → Calls Try.prog 85 #[.agg #[], .agg #[.int .i64 s, .int .i64 q, .int .i64 n, .int .i64 1, .int .i64 a, .string t, .slice ao x cap]] W fun e w' => e = .returned (.int .i64 r) ∧ Below W.heap.size W w') :
  Calls Try.prog 65 #[.agg #[.int .i64 s, .int .i64 q, .int .i64 n, .int .i64 1, .int .i64 a, .string t, .slice ao x cap]] w fun e w' => e = .returned (.int .i64 r) ∧ Below w.heap.size w w' := by
 have hk : ∀ W, Calls Try.prog 64 #[.int .i64 1] W fun e w' => e = .returned (.iface 138 (.agg #[])) ∧ Below W.heap.size W w' := fun W => (kind_ins W).mono fun _ _ ⟨h1, h2⟩ => ⟨h1, by rw [h2]; exact Below.refl _ _⟩
 have hm := meth_ins_adds
 have hB := OBox.new s q n 1 a t (.slice ao x cap) w 47
 go_enter Try.func65, Try.ntmps65
 go_wp2_with fail
 refine wp_region_held_drew (S := fun W => OBox w.heap.size s q n 1 a t (.slice ao x cap) w W) (by kernel_rfl) (hB.keep (Below.refl _ _).drew) (fun hHeld => ?_)
 clear hB
 refine tk (i := 0) (v := .pointer (some ⟨w.heap.size, 3, none⟩)) rfl (Or.inl ⟨rfl, fun W hS => by go_simp⟩) ?_
 refine tk (i := 1) (v := .int .i64 1) rfl (Or.inl ⟨rfl, fun W hS => ?_⟩) ?_
 ·obtain ⟨c0, c1, c2, c3, c4, c5, c6, -⟩ := hS
  go_simp
 simp only [td]
 refine tk (i := 3) (v := .agg #[.int .i64 s, .int .i64 q, .int .i64 n, .int .i64 1, .int .i64 a, .string t, .slice ao x cap]) rfl (Or.inl ⟨rfl, fun W hS => ?_⟩) ?_
 ·obtain ⟨c0, c1, c2, c3, c4, c5, c6, -⟩ := hS
  go_simp
 simp only [td]
 refine rd 2 rfl fun K hK => ?_
 go_simp
 go_wp2_with (go_at_call 64; refine (hk _).mono ?_; rintro e wq ⟨rfl, hb⟩)
 refine hK.out _ _ (hHeld.keep hb) (fun hX => ?_)
 clear hK K hHeld
 have hHeld := hX
 clear hX
 refine rd 4 rfl fun K hK => ?_
 go_simp
 go_wp2_with (go_at_call 85; refine (hC _ hHeld.2.2.2.2.2.2.2).mono ?_; rintro e wq ⟨rfl, hb⟩)
 refine hK.out _ _ (hHeld.keep hb) (fun hX => ?_)
 clear hK K hHeld
 have hHeld := hX
 clear hX
 refine tk (i := 5) (v := .int .i64 r) rfl (Or.inl ⟨rfl, fun W hS => by go_simp⟩) ?_
 simp only [td]
 refine wpAnyH_done (by kernel_rfl) ?_ _
 have hz := hHeld.2.2.2.2.2.2.2
 go_wp2
 go_ret
 exact ⟨rfl, hz⟩
set_option maxRecDepth 100000 in
set_option maxHeartbeats 4000000 in
theorem adds_del (s q n a r : Int) (t : ByteArray) (ao : Option Addr) (x cap : Nat) (w : World)
  (hC : ∀ W, Below w.heap.size w W → Calls Try.prog 98 #[.agg #[], .agg #[.int .i64 s, .int .i64 q, .int .i64 n, .int .i64 2, .int .i64 a, .string t, .slice ao x cap]] W fun e w' => e = .returned (.int .i64 r) ∧ Below W.heap.size W w') :
  Calls Try.prog 65 #[.agg #[.int .i64 s, .int .i64 q, .int .i64 n, .int .i64 2, .int .i64 a, .string t, .slice ao x cap]] w fun e w' => e = .returned (.int .i64 r) ∧ Below w.heap.size w w' := by
 have hk : ∀ W, Calls Try.prog 64 #[.int .i64 2] W fun e w' => e = .returned (.iface 139 (.agg #[])) ∧ Below W.heap.size W w' := fun W => (kind_del W).mono fun _ _ ⟨h1, h2⟩ => ⟨h1, by rw [h2]; exact Below.refl _ _⟩
 have hm := meth_del_adds
 have hB := OBox.new s q n 2 a t (.slice ao x cap) w 47
 go_enter Try.func65, Try.ntmps65
 go_wp2_with fail
 refine wp_region_held_drew (S := fun W => OBox w.heap.size s q n 2 a t (.slice ao x cap) w W) (by kernel_rfl) (hB.keep (Below.refl _ _).drew) (fun hHeld => ?_)
 clear hB
 refine tk (i := 0) (v := .pointer (some ⟨w.heap.size, 3, none⟩)) rfl (Or.inl ⟨rfl, fun W hS => by go_simp⟩) ?_
 refine tk (i := 1) (v := .int .i64 2) rfl (Or.inl ⟨rfl, fun W hS => ?_⟩) ?_
 ·obtain ⟨c0, c1, c2, c3, c4, c5, c6, -⟩ := hS
  go_simp
 simp only [td]
 refine tk (i := 3) (v := .agg #[.int .i64 s, .int .i64 q, .int .i64 n, .int .i64 2, .int .i64 a, .string t, .slice ao x cap]) rfl (Or.inl ⟨rfl, fun W hS => ?_⟩) ?_
 ·obtain ⟨c0, c1, c2, c3, c4, c5, c6, -⟩ := hS
  go_simp
 simp only [td]
 refine rd 2 rfl fun K hK => ?_
 go_simp
 go_wp2_with (go_at_call 64; refine (hk _).mono ?_; rintro e wq ⟨rfl, hb⟩)
 refine hK.out _ _ (hHeld.keep hb) (fun hX => ?_)
 clear hK K hHeld
 have hHeld := hX
 clear hX
 refine rd 4 rfl fun K hK => ?_
 go_simp
 go_wp2_with (go_at_call 98; refine (hC _ hHeld.2.2.2.2.2.2.2).mono ?_; rintro e wq ⟨rfl, hb⟩)
 refine hK.out _ _ (hHeld.keep hb) (fun hX => ?_)
 clear hK K hHeld
 have hHeld := hX
 clear hX
 refine tk (i := 5) (v := .int .i64 r) rfl (Or.inl ⟨rfl, fun W hS => by go_simp⟩) ?_
 simp only [td]
 refine wpAnyH_done (by kernel_rfl) ?_ _
 have hz := hHeld.2.2.2.2.2.2.2
 go_wp2
 go_ret
 exact ⟨rfl, hz⟩
set_option maxRecDepth 100000 in
set_option maxHeartbeats 4000000 in
theorem adds_no (s q n k a r : Int) (t : ByteArray) (ao : Option Addr) (x cap : Nat) (w : World) (h1 : ¬ k = 1) (h2 : ¬ k = 2)
  (hC : ∀ W, Below w.heap.size w W → Calls Try.prog 105 #[.agg #[], .agg #[.int .i64 s, .int .i64 q, .int .i64 n, .int .i64 k, .int .i64 a, .string t, .slice ao x cap]] W fun e w' => e = .returned (.int .i64 r) ∧ Below W.heap.size W w') :
  Calls Try.prog 65 #[.agg #[.int .i64 s, .int .i64 q, .int .i64 n, .int .i64 k, .int .i64 a, .string t, .slice ao x cap]] w fun e w' => e = .returned (.int .i64 r) ∧ Below w.heap.size w w' := by
 have hk : ∀ W, Calls Try.prog 64 #[.int .i64 k] W fun e w' => e = .returned (.iface 140 (.agg #[])) ∧ Below W.heap.size W w' := fun W => (kind_no k h1 h2 W).mono fun _ _ ⟨h1, h2⟩ => ⟨h1, by rw [h2]; exact Below.refl _ _⟩
 have hm := meth_no_adds
 have hB := OBox.new s q n k a t (.slice ao x cap) w 47
 go_enter Try.func65, Try.ntmps65
 go_wp2_with fail
 refine wp_region_held_drew (S := fun W => OBox w.heap.size s q n k a t (.slice ao x cap) w W) (by kernel_rfl) (hB.keep (Below.refl _ _).drew) (fun hHeld => ?_)
 clear hB
 refine tk (i := 0) (v := .pointer (some ⟨w.heap.size, 3, none⟩)) rfl (Or.inl ⟨rfl, fun W hS => by go_simp⟩) ?_
 refine tk (i := 1) (v := .int .i64 k) rfl (Or.inl ⟨rfl, fun W hS => ?_⟩) ?_
 ·obtain ⟨c0, c1, c2, c3, c4, c5, c6, -⟩ := hS
  go_simp
 simp only [td]
 refine tk (i := 3) (v := .agg #[.int .i64 s, .int .i64 q, .int .i64 n, .int .i64 k, .int .i64 a, .string t, .slice ao x cap]) rfl (Or.inl ⟨rfl, fun W hS => ?_⟩) ?_
 ·obtain ⟨c0, c1, c2, c3, c4, c5, c6, -⟩ := hS
  go_simp
 simp only [td]
 refine rd 2 rfl fun K hK => ?_
 go_simp
 go_wp2_with (go_at_call 64; refine (hk _).mono ?_; rintro e wq ⟨rfl, hb⟩)
 refine hK.out _ _ (hHeld.keep hb) (fun hX => ?_)
 clear hK K hHeld
 have hHeld := hX
 clear hX
 refine rd 4 rfl fun K hK => ?_
 go_simp
 go_wp2_with (go_at_call 105; refine (hC _ hHeld.2.2.2.2.2.2.2).mono ?_; rintro e wq ⟨rfl, hb⟩)
 refine hK.out _ _ (hHeld.keep hb) (fun hX => ?_)
 clear hK K hHeld
 have hHeld := hX
 clear hX
 refine tk (i := 5) (v := .int .i64 r) rfl (Or.inl ⟨rfl, fun W hS => by go_simp⟩) ?_
 simp only [td]
 refine wpAnyH_done (by kernel_rfl) ?_ _
 have hz := hHeld.2.2.2.2.2.2.2
 go_wp2
 go_ret
 exact ⟨rfl, hz⟩
set_option maxRecDepth 100000 in
set_option maxHeartbeats 4000000 in
theorem may_noplace (s q n k a size : Int) (t : ByteArray) (ao : Option Addr) (x cap : Nat) (w : World) (hs : ¬ (0 ≤ size ∧ size ≤ 20000)) :
  Calls Try.prog 56 #[.agg #[.int .i64 s, .int .i64 q, .int .i64 n, .int .i64 k, .int .i64 a, .string t, .slice ao x cap], .int .i64 size] w fun e w' => e = .returned (.bool false) ∧ Below w.heap.size w w' := by
 have hp : ∀ W, Calls Try.prog 62 #[.int .i64 size] W fun e w' => e = .returned (.bool false) ∧ Below W.heap.size W w' := fun W => (isPlace_any size W).mono fun _ _ ⟨h1, h2⟩ => ⟨by rw [h1]; rw [decide_eq_false hs], by rw [h2]; exact Below.refl _ _⟩
 have hB := OBox.new s q n k a t (.slice ao x cap) w 47
 clear hs
 go_enter Try.func56, Try.ntmps56
 go_wp2_with fail
 refine wp_region_held_drew (S := fun W => OBox w.heap.size s q n k a t (.slice ao x cap) w W) (by kernel_rfl) (hB.keep (Below.refl _ _).drew) (fun hHeld => ?_)
 clear hB
 refine tk (i := 0) (v := .int .i64 size) rfl (Or.inl ⟨rfl, fun W hS => by go_simp⟩) ?_
 refine rd 1 rfl fun K hK => ?_
 go_simp
 go_wp2_with (go_at_call 62; refine (hp _).mono ?_; rintro e wq ⟨rfl, hb⟩)
 refine hK.out _ _ (hHeld.keep hb) (fun hX => ?_)
 clear hK K hHeld
 have hHeld := hX
 clear hX
 refine tk (i := 2) (v := .bool false) rfl (Or.inl ⟨rfl, fun W hS => by go_simp⟩) ?_
 simp only [td]
 refine tk (i := 3) (v := undef) rfl (Or.inr ⟨rfl, rfl⟩) ?_
 simp only [td]
 refine tk (i := 4) (v := undef) rfl (Or.inr ⟨rfl, rfl⟩) ?_
 simp only [td]
 refine tk (i := 5) (v := undef) rfl (Or.inr ⟨rfl, rfl⟩) ?_
 simp only [td]
 refine tk (i := 6) (v := undef) rfl (Or.inr ⟨rfl, rfl⟩) ?_
 simp only [td]
 refine tk (i := 7) (v := undef) rfl (Or.inr ⟨rfl, rfl⟩) ?_
 simp only [td]
 refine tk (i := 8) (v := .bool false) rfl (Or.inl ⟨rfl, fun W hS => by go_simp⟩) ?_
 simp only [td]
 refine tk (i := 9) (v := .bool false) rfl (Or.inl ⟨rfl, fun W hS => by go_simp⟩) ?_
 simp only [td]
 refine tk (i := 10) (v := undef) rfl (Or.inr ⟨rfl, rfl⟩) ?_
 simp only [td]
 refine tk (i := 11) (v := undef) rfl (Or.inr ⟨rfl, rfl⟩) ?_
 simp only [td]
 refine tk (i := 12) (v := undef) rfl (Or.inr ⟨rfl, rfl⟩) ?_
 simp only [td]
 refine tk (i := 13) (v := undef) rfl (Or.inr ⟨rfl, rfl⟩) ?_
 simp only [td]
 refine tk (i := 14) (v := undef) rfl (Or.inr ⟨rfl, rfl⟩) ?_
 simp only [td]
 refine tk (i := 15) (v := undef) rfl (Or.inr ⟨rfl, rfl⟩) ?_
 simp only [td]
 refine tk (i := 16) (v := .bool false) rfl (Or.inl ⟨rfl, fun W hS => by go_simp⟩) ?_
 simp only [td]
 refine tk (i := 17) (v := .bool false) rfl (Or.inl ⟨rfl, fun W hS => by go_simp⟩) ?_
 simp only [td]
 refine wpAnyH_done (by kernel_rfl) ?_ _
 have hz := hHeld.2.2.2.2.2.2.2
 go_wp2
 go_ret
 exact ⟨rfl, hz⟩
set_option maxRecDepth 100000 in
set_option maxHeartbeats 4000000 in
theorem may_nohead (s q n k a size : Int) (t : ByteArray) (ao : Option Addr) (x cap : Nat) (w : World) (hs : 0 ≤ size ∧ size ≤ 20000) (hhd : (nMay s q && decide (0 ≤ n ∧ n ≤ 1099511627776)) = false) :
  Calls Try.prog 56 #[.agg #[.int .i64 s, .int .i64 q, .int .i64 n, .int .i64 k, .int .i64 a, .string t, .slice ao x cap], .int .i64 size] w fun e w' => e = .returned (.bool false) ∧ Below w.heap.size w w' := by
 have hp : ∀ W, Calls Try.prog 62 #[.int .i64 size] W fun e w' => e = .returned (.bool true) ∧ Below W.heap.size W w' := fun W => (isPlace_any size W).mono fun _ _ ⟨h1, h2⟩ => ⟨by rw [h1]; rw [decide_eq_true hs], by rw [h2]; exact Below.refl _ _⟩
 have hh : ∀ W, Calls Try.prog 63 #[.agg #[.int .i64 s, .int .i64 q], .int .i64 n] W fun e w' => e = .returned (.bool false) ∧ Below W.heap.size W w' := fun W => (mayHead_any s q n W).mono fun _ _ ⟨h1, h2⟩ => ⟨by rw [h1, hhd], h2⟩
 have hB := OBox.new s q n k a t (.slice ao x cap) w 47
 clear hs hhd
 go_enter Try.func56, Try.ntmps56
 go_wp2_with fail
 refine wp_region_held_drew (S := fun W => OBox w.heap.size s q n k a t (.slice ao x cap) w W) (by kernel_rfl) (hB.keep (Below.refl _ _).drew) (fun hHeld => ?_)
 clear hB
 refine tk (i := 0) (v := .int .i64 size) rfl (Or.inl ⟨rfl, fun W hS => by go_simp⟩) ?_
 refine rd 1 rfl fun K hK => ?_
 go_simp
 go_wp2_with (go_at_call 62; refine (hp _).mono ?_; rintro e wq ⟨rfl, hb⟩)
 refine hK.out _ _ (hHeld.keep hb) (fun hX => ?_)
 clear hK K hHeld
 have hHeld := hX
 clear hX
 refine tk (i := 2) (v := .bool true) rfl (Or.inl ⟨rfl, fun W hS => by go_simp⟩) ?_
 simp only [td]
 refine tk (i := 3) (v := .pointer (some ⟨w.heap.size, 0, none⟩)) rfl (Or.inl ⟨rfl, fun W hS => by go_simp⟩) ?_
 simp only [td]
 refine tk (i := 4) (v := .agg #[.int .i64 s, .int .i64 q]) rfl (Or.inl ⟨rfl, fun W hS => ?_⟩) ?_
 ·obtain ⟨c0, c1, c2, c3, c4, c5, c6, -⟩ := hS
  go_simp
 simp only [td]
 refine tk (i := 5) (v := .pointer (some ⟨w.heap.size, 2, none⟩)) rfl (Or.inl ⟨rfl, fun W hS => by go_simp⟩) ?_
 simp only [td]
 refine tk (i := 6) (v := .int .i64 n) rfl (Or.inl ⟨rfl, fun W hS => ?_⟩) ?_
 ·obtain ⟨c0, c1, c2, c3, c4, c5, c6, -⟩ := hS
  go_simp
 simp only [td]
 refine rd 7 rfl fun K hK => ?_
 go_simp
 go_wp2_with (go_at_call 63; refine (hh _).mono ?_; rintro e wq ⟨rfl, hb⟩)
 refine hK.out _ _ (hHeld.keep hb) (fun hX => ?_)
 clear hK K hHeld
 have hHeld := hX
 clear hX
 refine tk (i := 8) (v := .bool false) rfl (Or.inl ⟨rfl, fun W hS => by go_simp⟩) ?_
 simp only [td]
 refine tk (i := 9) (v := .bool false) rfl (Or.inl ⟨rfl, fun W hS => by go_simp⟩) ?_
 simp only [td]
 refine tk (i := 10) (v := undef) rfl (Or.inr ⟨rfl, rfl⟩) ?_
 simp only [td]
 refine tk (i := 11) (v := undef) rfl (Or.inr ⟨rfl, rfl⟩) ?_
 simp only [td]
 refine tk (i := 12) (v := undef) rfl (Or.inr ⟨rfl, rfl⟩) ?_
 simp only [td]
 refine tk (i := 13) (v := undef) rfl (Or.inr ⟨rfl, rfl⟩) ?_
 simp only [td]
 refine tk (i := 14) (v := undef) rfl (Or.inr ⟨rfl, rfl⟩) ?_
 simp only [td]
 refine tk (i := 15) (v := undef) rfl (Or.inr ⟨rfl, rfl⟩) ?_
 simp only [td]
 refine tk (i := 16) (v := .bool false) rfl (Or.inl ⟨rfl, fun W hS => by go_simp⟩) ?_
 simp only [td]
 refine tk (i := 17) (v := .bool false) rfl (Or.inl ⟨rfl, fun W hS => by go_simp⟩) ?_
 simp only [td]
 refine wpAnyH_done (by kernel_rfl) ?_ _
 have hz := hHeld.2.2.2.2.2.2.2
 go_wp2
 go_ret
 exact ⟨rfl, hz⟩
set_option maxRecDepth 100000 in
set_option maxHeartbeats 4000000 in
theorem may_ins (s q n a size : Int) (t : ByteArray) (ao : Option Addr) (x cap : Nat) (r : Bool) (w : World) (hs : 0 ≤ size ∧ size ≤ 20000) (hhd : (nMay s q && decide (0 ≤ n ∧ n ≤ 1099511627776)) = true)
  (hC : ∀ W, Below w.heap.size w W → Calls Try.prog 88 #[.agg #[], .agg #[.int .i64 s, .int .i64 q, .int .i64 n, .int .i64 1, .int .i64 a, .string t, .slice ao x cap], .int .i64 size] W fun e w' => e = .returned (.bool r) ∧ Below W.heap.size W w') :
  Calls Try.prog 56 #[.agg #[.int .i64 s, .int .i64 q, .int .i64 n, .int .i64 1, .int .i64 a, .string t, .slice ao x cap], .int .i64 size] w fun e w' => e = .returned (.bool r) ∧ Below w.heap.size w w' := by
 have hp : ∀ W, Calls Try.prog 62 #[.int .i64 size] W fun e w' => e = .returned (.bool true) ∧ Below W.heap.size W w' := fun W => (isPlace_any size W).mono fun _ _ ⟨h1, h2⟩ => ⟨by rw [h1]; rw [decide_eq_true hs], by rw [h2]; exact Below.refl _ _⟩
 have hh : ∀ W, Calls Try.prog 63 #[.agg #[.int .i64 s, .int .i64 q], .int .i64 n] W fun e w' => e = .returned (.bool true) ∧ Below W.heap.size W w' := fun W => (mayHead_any s q n W).mono fun _ _ ⟨h1, h2⟩ => ⟨by rw [h1, hhd], h2⟩
 have hk : ∀ W, Calls Try.prog 64 #[.int .i64 1] W fun e w' => e = .returned (.iface 138 (.agg #[])) ∧ Below W.heap.size W w' := fun W => (kind_ins W).mono fun _ _ ⟨h1, h2⟩ => ⟨h1, by rw [h2]; exact Below.refl _ _⟩
 have hm := meth_ins_may
 have hB := OBox.new s q n 1 a t (.slice ao x cap) w 47
 clear hs hhd
 go_enter Try.func56, Try.ntmps56
 go_wp2_with fail
 refine wp_region_held_drew (S := fun W => OBox w.heap.size s q n 1 a t (.slice ao x cap) w W) (by kernel_rfl) (hB.keep (Below.refl _ _).drew) (fun hHeld => ?_)
 clear hB
 refine tk (i := 0) (v := .int .i64 size) rfl (Or.inl ⟨rfl, fun W hS => by go_simp⟩) ?_
 refine rd 1 rfl fun K hK => ?_
 go_simp
 go_wp2_with (go_at_call 62; refine (hp _).mono ?_; rintro e wq ⟨rfl, hb⟩)
 refine hK.out _ _ (hHeld.keep hb) (fun hX => ?_)
 clear hK K hHeld
 have hHeld := hX
 clear hX
 refine tk (i := 2) (v := .bool true) rfl (Or.inl ⟨rfl, fun W hS => by go_simp⟩) ?_
 simp only [td]
 refine tk (i := 3) (v := .pointer (some ⟨w.heap.size, 0, none⟩)) rfl (Or.inl ⟨rfl, fun W hS => by go_simp⟩) ?_
 simp only [td]
 refine tk (i := 4) (v := .agg #[.int .i64 s, .int .i64 q]) rfl (Or.inl ⟨rfl, fun W hS => ?_⟩) ?_
 ·obtain ⟨c0, c1, c2, c3, c4, c5, c6, -⟩ := hS
  go_simp
 simp only [td]
 refine tk (i := 5) (v := .pointer (some ⟨w.heap.size, 2, none⟩)) rfl (Or.inl ⟨rfl, fun W hS => by go_simp⟩) ?_
 simp only [td]
 refine tk (i := 6) (v := .int .i64 n) rfl (Or.inl ⟨rfl, fun W hS => ?_⟩) ?_
 ·obtain ⟨c0, c1, c2, c3, c4, c5, c6, -⟩ := hS
  go_simp
 simp only [td]
 refine rd 7 rfl fun K hK => ?_
 go_simp
 go_wp2_with (go_at_call 63; refine (hh _).mono ?_; rintro e wq ⟨rfl, hb⟩)
 refine hK.out _ _ (hHeld.keep hb) (fun hX => ?_)
 clear hK K hHeld
 have hHeld := hX
 clear hX
 refine tk (i := 8) (v := .bool true) rfl (Or.inl ⟨rfl, fun W hS => by go_simp⟩) ?_
 simp only [td]
 refine tk (i := 9) (v := .bool true) rfl (Or.inl ⟨rfl, fun W hS => by go_simp⟩) ?_
 simp only [td]
 refine tk (i := 10) (v := .pointer (some ⟨w.heap.size, 3, none⟩)) rfl (Or.inl ⟨rfl, fun W hS => by go_simp⟩) ?_
 simp only [td]
 refine tk (i := 11) (v := .int .i64 1) rfl (Or.inl ⟨rfl, fun W hS => ?_⟩) ?_
 ·obtain ⟨c0, c1, c2, c3, c4, c5, c6, -⟩ := hS
  go_simp
 simp only [td]
 refine tk (i := 13) (v := .agg #[.int .i64 s, .int .i64 q, .int .i64 n, .int .i64 1, .int .i64 a, .string t, .slice ao x cap]) rfl (Or.inl ⟨rfl, fun W hS => ?_⟩) ?_
 ·obtain ⟨c0, c1, c2, c3, c4, c5, c6, -⟩ := hS
  go_simp
 simp only [td]
 refine tk (i := 14) (v := .int .i64 size) rfl (Or.inl ⟨rfl, fun W hS => by go_simp⟩) ?_
 simp only [td]
 refine rd 12 rfl fun K hK => ?_
 go_simp
 go_wp2_with (go_at_call 64; refine (hk _).mono ?_; rintro e wq ⟨rfl, hb⟩)
 refine hK.out _ _ (hHeld.keep hb) (fun hX => ?_)
 clear hK K hHeld
 have hHeld := hX
 clear hX
 refine rd 15 rfl fun K hK => ?_
 go_simp
 go_wp2_with (go_at_call 88; refine (hC _ hHeld.2.2.2.2.2.2.2).mono ?_; rintro e wq ⟨rfl, hb⟩)
 refine hK.out _ _ (hHeld.keep hb) (fun hX => ?_)
 clear hK K hHeld
 have hHeld := hX
 clear hX
 refine tk (i := 16) (v := .bool r) rfl (Or.inl ⟨rfl, fun W hS => by go_simp⟩) ?_
 simp only [td]
 refine tk (i := 17) (v := .bool r) rfl (Or.inl ⟨rfl, fun W hS => by go_simp⟩) ?_
 simp only [td]
 refine wpAnyH_done (by kernel_rfl) ?_ _
 have hz := hHeld.2.2.2.2.2.2.2
 go_wp2
 go_ret
 exact ⟨rfl, hz⟩
set_option maxRecDepth 100000 in
set_option maxHeartbeats 4000000 in
theorem may_del (s q n a size : Int) (t : ByteArray) (ao : Option Addr) (x cap : Nat) (r : Bool) (w : World) (hs : 0 ≤ size ∧ size ≤ 20000) (hhd : (nMay s q && decide (0 ≤ n ∧ n ≤ 1099511627776)) = true)
  (hC : ∀ W, Below w.heap.size w W → Calls Try.prog 101 #[.agg #[], .agg #[.int .i64 s, .int .i64 q, .int .i64 n, .int .i64 2, .int .i64 a, .string t, .slice ao x cap], .int .i64 size] W fun e w' => e = .returned (.bool r) ∧ Below W.heap.size W w') :
  Calls Try.prog 56 #[.agg #[.int .i64 s, .int .i64 q, .int .i64 n, .int .i64 2, .int .i64 a, .string t, .slice ao x cap], .int .i64 size] w fun e w' => e = .returned (.bool r) ∧ Below w.heap.size w w' := by
 have hp : ∀ W, Calls Try.prog 62 #[.int .i64 size] W fun e w' => e = .returned (.bool true) ∧ Below W.heap.size W w' := fun W => (isPlace_any size W).mono fun _ _ ⟨h1, h2⟩ => ⟨by rw [h1]; rw [decide_eq_true hs], by rw [h2]; exact Below.refl _ _⟩
 have hh : ∀ W, Calls Try.prog 63 #[.agg #[.int .i64 s, .int .i64 q], .int .i64 n] W fun e w' => e = .returned (.bool true) ∧ Below W.heap.size W w' := fun W => (mayHead_any s q n W).mono fun _ _ ⟨h1, h2⟩ => ⟨by rw [h1, hhd], h2⟩
 have hk : ∀ W, Calls Try.prog 64 #[.int .i64 2] W fun e w' => e = .returned (.iface 139 (.agg #[])) ∧ Below W.heap.size W w' := fun W => (kind_del W).mono fun _ _ ⟨h1, h2⟩ => ⟨h1, by rw [h2]; exact Below.refl _ _⟩
 have hm := meth_del_may
 have hB := OBox.new s q n 2 a t (.slice ao x cap) w 47
 clear hs hhd
 go_enter Try.func56, Try.ntmps56
 go_wp2_with fail
 refine wp_region_held_drew (S := fun W => OBox w.heap.size s q n 2 a t (.slice ao x cap) w W) (by kernel_rfl) (hB.keep (Below.refl _ _).drew) (fun hHeld => ?_)
 clear hB
 refine tk (i := 0) (v := .int .i64 size) rfl (Or.inl ⟨rfl, fun W hS => by go_simp⟩) ?_
 refine rd 1 rfl fun K hK => ?_
 go_simp
 go_wp2_with (go_at_call 62; refine (hp _).mono ?_; rintro e wq ⟨rfl, hb⟩)
 refine hK.out _ _ (hHeld.keep hb) (fun hX => ?_)
 clear hK K hHeld
 have hHeld := hX
 clear hX
 refine tk (i := 2) (v := .bool true) rfl (Or.inl ⟨rfl, fun W hS => by go_simp⟩) ?_
 simp only [td]
 refine tk (i := 3) (v := .pointer (some ⟨w.heap.size, 0, none⟩)) rfl (Or.inl ⟨rfl, fun W hS => by go_simp⟩) ?_
 simp only [td]
 refine tk (i := 4) (v := .agg #[.int .i64 s, .int .i64 q]) rfl (Or.inl ⟨rfl, fun W hS => ?_⟩) ?_
 ·obtain ⟨c0, c1, c2, c3, c4, c5, c6, -⟩ := hS
  go_simp
 simp only [td]
 refine tk (i := 5) (v := .pointer (some ⟨w.heap.size, 2, none⟩)) rfl (Or.inl ⟨rfl, fun W hS => by go_simp⟩) ?_
 simp only [td]
 refine tk (i := 6) (v := .int .i64 n) rfl (Or.inl ⟨rfl, fun W hS => ?_⟩) ?_
 ·obtain ⟨c0, c1, c2, c3, c4, c5, c6, -⟩ := hS
  go_simp
 simp only [td]
 refine rd 7 rfl fun K hK => ?_
 go_simp
 go_wp2_with (go_at_call 63; refine (hh _).mono ?_; rintro e wq ⟨rfl, hb⟩)
 refine hK.out _ _ (hHeld.keep hb) (fun hX => ?_)
 clear hK K hHeld
 have hHeld := hX
 clear hX
 refine tk (i := 8) (v := .bool true) rfl (Or.inl ⟨rfl, fun W hS => by go_simp⟩) ?_
 simp only [td]
 refine tk (i := 9) (v := .bool true) rfl (Or.inl ⟨rfl, fun W hS => by go_simp⟩) ?_
 simp only [td]
 refine tk (i := 10) (v := .pointer (some ⟨w.heap.size, 3, none⟩)) rfl (Or.inl ⟨rfl, fun W hS => by go_simp⟩) ?_
 simp only [td]
 refine tk (i := 11) (v := .int .i64 2) rfl (Or.inl ⟨rfl, fun W hS => ?_⟩) ?_
 ·obtain ⟨c0, c1, c2, c3, c4, c5, c6, -⟩ := hS
  go_simp
 simp only [td]
 refine tk (i := 13) (v := .agg #[.int .i64 s, .int .i64 q, .int .i64 n, .int .i64 2, .int .i64 a, .string t, .slice ao x cap]) rfl (Or.inl ⟨rfl, fun W hS => ?_⟩) ?_
 ·obtain ⟨c0, c1, c2, c3, c4, c5, c6, -⟩ := hS
  go_simp
 simp only [td]
 refine tk (i := 14) (v := .int .i64 size) rfl (Or.inl ⟨rfl, fun W hS => by go_simp⟩) ?_
 simp only [td]
 refine rd 12 rfl fun K hK => ?_
 go_simp
 go_wp2_with (go_at_call 64; refine (hk _).mono ?_; rintro e wq ⟨rfl, hb⟩)
 refine hK.out _ _ (hHeld.keep hb) (fun hX => ?_)
 clear hK K hHeld
 have hHeld := hX
 clear hX
 refine rd 15 rfl fun K hK => ?_
 go_simp
 go_wp2_with (go_at_call 101; refine (hC _ hHeld.2.2.2.2.2.2.2).mono ?_; rintro e wq ⟨rfl, hb⟩)
 refine hK.out _ _ (hHeld.keep hb) (fun hX => ?_)
 clear hK K hHeld
 have hHeld := hX
 clear hX
 refine tk (i := 16) (v := .bool r) rfl (Or.inl ⟨rfl, fun W hS => by go_simp⟩) ?_
 simp only [td]
 refine tk (i := 17) (v := .bool r) rfl (Or.inl ⟨rfl, fun W hS => by go_simp⟩) ?_
 simp only [td]
 refine wpAnyH_done (by kernel_rfl) ?_ _
 have hz := hHeld.2.2.2.2.2.2.2
 go_wp2
 go_ret
 exact ⟨rfl, hz⟩
set_option maxRecDepth 100000 in
set_option maxHeartbeats 4000000 in
theorem may_no (s q n k a size : Int) (t : ByteArray) (ao : Option Addr) (x cap : Nat) (r : Bool) (w : World) (hs : 0 ≤ size ∧ size ≤ 20000) (hhd : (nMay s q && decide (0 ≤ n ∧ n ≤ 1099511627776)) = true) (h1 : ¬ k = 1) (h2 : ¬ k = 2)
  (hC : ∀ W, Below w.heap.size w W → Calls Try.prog 108 #[.agg #[], .agg #[.int .i64 s, .int .i64 q, .int .i64 n, .int .i64 k, .int .i64 a, .string t, .slice ao x cap], .int .i64 size] W fun e w' => e = .returned (.bool r) ∧ Below W.heap.size W w') :
  Calls Try.prog 56 #[.agg #[.int .i64 s, .int .i64 q, .int .i64 n, .int .i64 k, .int .i64 a, .string t, .slice ao x cap], .int .i64 size] w fun e w' => e = .returned (.bool r) ∧ Below w.heap.size w w' := by
 have hp : ∀ W, Calls Try.prog 62 #[.int .i64 size] W fun e w' => e = .returned (.bool true) ∧ Below W.heap.size W w' := fun W => (isPlace_any size W).mono fun _ _ ⟨h1, h2⟩ => ⟨by rw [h1]; rw [decide_eq_true hs], by rw [h2]; exact Below.refl _ _⟩
 have hh : ∀ W, Calls Try.prog 63 #[.agg #[.int .i64 s, .int .i64 q], .int .i64 n] W fun e w' => e = .returned (.bool true) ∧ Below W.heap.size W w' := fun W => (mayHead_any s q n W).mono fun _ _ ⟨h1, h2⟩ => ⟨by rw [h1, hhd], h2⟩
 have hk : ∀ W, Calls Try.prog 64 #[.int .i64 k] W fun e w' => e = .returned (.iface 140 (.agg #[])) ∧ Below W.heap.size W w' := fun W => (kind_no k h1 h2 W).mono fun _ _ ⟨h1, h2⟩ => ⟨h1, by rw [h2]; exact Below.refl _ _⟩
 have hm := meth_no_may
 have hB := OBox.new s q n k a t (.slice ao x cap) w 47
 clear hs hhd
 go_enter Try.func56, Try.ntmps56
 go_wp2_with fail
 refine wp_region_held_drew (S := fun W => OBox w.heap.size s q n k a t (.slice ao x cap) w W) (by kernel_rfl) (hB.keep (Below.refl _ _).drew) (fun hHeld => ?_)
 clear hB
 refine tk (i := 0) (v := .int .i64 size) rfl (Or.inl ⟨rfl, fun W hS => by go_simp⟩) ?_
 refine rd 1 rfl fun K hK => ?_
 go_simp
 go_wp2_with (go_at_call 62; refine (hp _).mono ?_; rintro e wq ⟨rfl, hb⟩)
 refine hK.out _ _ (hHeld.keep hb) (fun hX => ?_)
 clear hK K hHeld
 have hHeld := hX
 clear hX
 refine tk (i := 2) (v := .bool true) rfl (Or.inl ⟨rfl, fun W hS => by go_simp⟩) ?_
 simp only [td]
 refine tk (i := 3) (v := .pointer (some ⟨w.heap.size, 0, none⟩)) rfl (Or.inl ⟨rfl, fun W hS => by go_simp⟩) ?_
 simp only [td]
 refine tk (i := 4) (v := .agg #[.int .i64 s, .int .i64 q]) rfl (Or.inl ⟨rfl, fun W hS => ?_⟩) ?_
 ·obtain ⟨c0, c1, c2, c3, c4, c5, c6, -⟩ := hS
  go_simp
 simp only [td]
 refine tk (i := 5) (v := .pointer (some ⟨w.heap.size, 2, none⟩)) rfl (Or.inl ⟨rfl, fun W hS => by go_simp⟩) ?_
 simp only [td]
 refine tk (i := 6) (v := .int .i64 n) rfl (Or.inl ⟨rfl, fun W hS => ?_⟩) ?_
 ·obtain ⟨c0, c1, c2, c3, c4, c5, c6, -⟩ := hS
  go_simp
 simp only [td]
 refine rd 7 rfl fun K hK => ?_
 go_simp
 go_wp2_with (go_at_call 63; refine (hh _).mono ?_; rintro e wq ⟨rfl, hb⟩)
 refine hK.out _ _ (hHeld.keep hb) (fun hX => ?_)
 clear hK K hHeld
 have hHeld := hX
 clear hX
 refine tk (i := 8) (v := .bool true) rfl (Or.inl ⟨rfl, fun W hS => by go_simp⟩) ?_
 simp only [td]
 refine tk (i := 9) (v := .bool true) rfl (Or.inl ⟨rfl, fun W hS => by go_simp⟩) ?_
 simp only [td]
 refine tk (i := 10) (v := .pointer (some ⟨w.heap.size, 3, none⟩)) rfl (Or.inl ⟨rfl, fun W hS => by go_simp⟩) ?_
 simp only [td]
 refine tk (i := 11) (v := .int .i64 k) rfl (Or.inl ⟨rfl, fun W hS => ?_⟩) ?_
 ·obtain ⟨c0, c1, c2, c3, c4, c5, c6, -⟩ := hS
  go_simp
 simp only [td]
 refine tk (i := 13) (v := .agg #[.int .i64 s, .int .i64 q, .int .i64 n, .int .i64 k, .int .i64 a, .string t, .slice ao x cap]) rfl (Or.inl ⟨rfl, fun W hS => ?_⟩) ?_
 ·obtain ⟨c0, c1, c2, c3, c4, c5, c6, -⟩ := hS
  go_simp
 simp only [td]
 refine tk (i := 14) (v := .int .i64 size) rfl (Or.inl ⟨rfl, fun W hS => by go_simp⟩) ?_
 simp only [td]
 refine rd 12 rfl fun K hK => ?_
 go_simp
 go_wp2_with (go_at_call 64; refine (hk _).mono ?_; rintro e wq ⟨rfl, hb⟩)
 refine hK.out _ _ (hHeld.keep hb) (fun hX => ?_)
 clear hK K hHeld
 have hHeld := hX
 clear hX
 refine rd 15 rfl fun K hK => ?_
 go_simp
 go_wp2_with (go_at_call 108; refine (hC _ hHeld.2.2.2.2.2.2.2).mono ?_; rintro e wq ⟨rfl, hb⟩)
 refine hK.out _ _ (hHeld.keep hb) (fun hX => ?_)
 clear hK K hHeld
 have hHeld := hX
 clear hX
 refine tk (i := 16) (v := .bool r) rfl (Or.inl ⟨rfl, fun W hS => by go_simp⟩) ?_
 simp only [td]
 refine tk (i := 17) (v := .bool r) rfl (Or.inl ⟨rfl, fun W hS => by go_simp⟩) ?_
 simp only [td]
 refine wpAnyH_done (by kernel_rfl) ?_ _
 have hz := hHeld.2.2.2.2.2.2.2
 go_wp2
 go_ret
 exact ⟨rfl, hz⟩
end Go.Proofs.Ytmedickofiielaa
