/- The Offs of a name, as bits: has, with, without. -/
import Derived.Test.YtmedickofiielaaGPlain
import Derived.Test.YtmedickofiielaaGReads64
import Derived.Laws.BitsAllLaws
import Derived.WalkKit
import Derived.WalkSpells
import Derived.WalkLawsBesides
import Derived.Lib.Hide
import Derived.Deep.WholeRow
import Derived.Laws.ResultCell
import Derived.Laws.StructEq
import Derived.Deep.RegionHeld
import Derived.RangeFuncRecord
import Derived.Test.YtmedickofiielaaGSpansPlain
namespace Go.Proofs.Ytmedickofiielaa
open Go.RowKit

theorem heap_new (w : World) (o : Obj) : (w.alloc o).heap[w.heap.size]? = some o := World.alloc_heap_new w o
def wordN (f : Nat → Bool) : Nat → Nat
 | 0 => 0
 | n + 1 => wordN f n ||| (if f n then 2 ^ n else 0)
theorem wordN_bit (f : Nat → Bool) : ∀ n j, (wordN f n).testBit j = (decide (j < n) && f j)
 | 0, j => by simp [wordN]
 | n + 1, j => by
  rw [wordN, Nat.testBit_or, wordN_bit f n j]
  by_cases h : j = n
  ·subst h
   by_cases g : f j <;> simp [g]
  ·have e : (if f n = true then 2 ^ n else 0).testBit j = false := by
    split
    ·rw [Nat.testBit_two_pow]; simp; omega
    ·simp
   rw [e, Bool.or_false]
   congr 1
   by_cases g : j < n
   ·rw [decide_eq_true g, decide_eq_true (by omega)]
   ·rw [decide_eq_false g, decide_eq_false (by omega)]
theorem wordN_lt (f : Nat → Bool) : ∀ n, wordN f n < 2 ^ n
 | 0 => by simp [wordN]
 | n + 1 => by
  rw [wordN]
  refine Nat.or_lt_two_pow (Nat.lt_trans (wordN_lt f n) (Nat.pow_lt_pow_right (by omega) (by omega))) ?_
  split
  ·exact Nat.pow_lt_pow_right (by omega) (by omega)
  ·exact Nat.two_pow_pos _
theorem wordN_congr {f g : Nat → Bool} {n : Nat} (h : ∀ i, i < n → f i = g i) : wordN f n = wordN g n := by
 refine Nat.eq_of_testBit_eq fun i => ?_
 rw [wordN_bit, wordN_bit]
 by_cases g : i < n
 ·rw [h i g]
 ·simp [g]
theorem wordN_or (f : Nat → Bool) (j : Nat) (hj : j < 64) : wordN f 64 ||| 2 ^ j = wordN (fun i => f i || decide (i = j)) 64 := by
 refine Nat.eq_of_testBit_eq fun i => ?_
 rw [Nat.testBit_or, wordN_bit, wordN_bit, Nat.testBit_two_pow]
 by_cases h : i = j
 ·subst h
  simp [hj]
 ·have : ¬ j = i := fun e => h e.symm
  simp [h, this]
theorem wordN_has (f : Nat → Bool) (j : Nat) (hj : j < 64) : wordN f 64 / 2 ^ j % 2 = (f j).toNat := by
 have h := wordN_bit f 64 j
 rw [Nat.testBit_eq_decide_div_mod_eq] at h
 rw [decide_eq_true hj, Bool.true_and] at h
 cases hf : f j with
 | true => rw [hf, decide_eq_true_iff] at h; simpa using h
 | false => rw [hf, decide_eq_false_iff_not] at h; simp; omega
def part64 (f : Nat → Bool) (k : Nat) : Nat → Bool := fun j => f (64 * k + j)
def offW (f : Nat → Bool) (k : Nat) : Value := .int .u64 (wordN (part64 f k) 64 : Nat)
abbrev offA (f : Nat → Bool) : Array Value := #[offW f 0, offW f 1, offW f 2, offW f 3]
abbrev offV (f : Nat → Bool) : Value := .agg (offA f)
def addF (f : Nat → Bool) (i : Nat) : Nat → Bool := fun j => f j || decide (j = i)
theorem offW_congr {f g : Nat → Bool} {k : Nat} (h : ∀ j, j < 64 → f (64 * k + j) = g (64 * k + j)) : offW f k = offW g k := by
 unfold offW
 rw [wordN_congr (f := part64 f k) (g := part64 g k) h]
theorem offW_add (f : Nat → Bool) (k q j : Nat) (hj : j < 64) : offW (addF f (64 * q + j)) k = if k = q then .int .u64 ((wordN (part64 f q) 64 ||| 2 ^ j : Nat) : Int) else offW f k := by
 split
 ·next h =>
  subst h
  rw [wordN_or _ _ hj]
  unfold offW
  rw [wordN_congr fun i hi => ?_]
  show (f (64 * k + i) || decide (64 * k + i = 64 * k + j)) = (f (64 * k + i) || decide (i = j))
  congr 1
  by_cases e : i = j
  ·rw [decide_eq_true e, decide_eq_true (by omega)]
  ·rw [decide_eq_false e, decide_eq_false (by omega)]
 ·next h =>
  refine offW_congr fun i hi => ?_
  show (f (64 * k + i) || decide (64 * k + i = 64 * q + j)) = f (64 * k + i)
  rw [decide_eq_false (by omega), Bool.or_false]
theorem off_parts {off : Int} (h0 : 0 ≤ off) (h1 : off < 200) : ∃ q j : Nat, q < 4 ∧ j < 64 ∧ off = ((64 * q + j : Nat) : Int) ∧ off.tdiv 64 = (q : Int) ∧ off.tmod 64 = (j : Int) :=
 ⟨off.toNat / 64, off.toNat % 64, by omega, by omega, by omega, by rw [Int.tdiv_eq_ediv_of_nonneg h0]; omega, by rw [Int.tmod_eq_emod_of_nonneg h0]; omega⟩

theorem and_bit (a j : Nat) (b : Bool) (h : a < 2 ^ 64) (hh : a / 2 ^ j % 2 = b.toNat) : (bits BinOp.and IntKind.u64 ((a : Int) / 2 ^ j) 1 == 1) = b := by
 have hd : a / 2 ^ j < 2 ^ 64 := Nat.lt_of_le_of_lt (Nat.div_le_self _ _) h
 have e := u64_and_nat (a / 2 ^ j) 1 hd (by decide)
 rw [Nat.and_one_is_mod, hh] at e
 have e2 : (((a / 2 ^ j : Nat) : Int)) = (a : Int) / 2 ^ j := by rw [Int.natCast_ediv]; norm_cast
 rw [e2] at e
 rw [show (1 : Int) = ((1 : Nat) : Int) from rfl, e]
 cases b <;> rfl
theorem shl_bit (j : Nat) (hj : j < 64) : IntKind.u64.wrap (2 ^ j) = ((2 ^ j : Nat) : Int) := by
 have hp : 2 ^ j < 2 ^ 64 := Nat.pow_lt_pow_right (by omega) hj
 have e : ((2 : Int) ^ j) = ((2 ^ j : Nat) : Int) := by norm_cast
 rw [e]
 unfold IntKind.wrap
 simp only [IntKind.bits, IntKind.signed, Bool.false_and, Bool.false_eq_true, if_false]
 have h2 : ((2 ^ j : Nat) : Int) % ((2 ^ 64 : Nat) : Int) = ((2 ^ j % 2 ^ 64 : Nat) : Int) := by norm_cast
 rw [Nat.mod_eq_of_lt hp] at h2
 simpa using h2
theorem or_bit (a j : Nat) (h : a < 2 ^ 64) (hj : j < 64) : bits BinOp.or IntKind.u64 (a : Int) (IntKind.u64.wrap (2 ^ j)) = ((a ||| 2 ^ j : Nat) : Int) := by
 rw [shl_bit j hj]
 exact u64_or_nat a (2 ^ j) h (Nat.pow_lt_pow_right (by omega) hj)
theorem infoOffs : (Try.prog.info? 87).map (·.size) = some 4 := by kernel_rfl
theorem mayOff_any (off : Int) (w : World) : Calls Try.prog 34 #[.int .i64 off] w fun e w' => e = .returned (.bool (decide (0 ≤ off ∧ off < 200))) ∧ w' = w := by
 obtain ⟨b, hb⟩ : ∃ b, decide (0 ≤ off ∧ off < 200) = b := ⟨_, rfl⟩
 rw [hb]
 by_cases h0 : 0 ≤ off
 ·by_cases h1 : off < 200
  ·obtain rfl : b = true := by rw [← hb]; exact decide_eq_true ⟨h0, h1⟩
   clear hb
   go_enter Try.func34, Try.ntmps34
   go_wp2
   go_ret
   exact ⟨rfl, rfl⟩
  ·obtain rfl : b = false := by rw [← hb]; exact decide_eq_false fun q => h1 q.2
   clear hb
   go_enter Try.func34, Try.ntmps34
   go_wp2
   go_ret
   exact ⟨rfl, rfl⟩
 ·obtain rfl : b = false := by rw [← hb]; exact decide_eq_false fun q => h0 q.1
  clear hb
  go_enter Try.func34, Try.ntmps34
  go_wp2
  go_ret
  exact ⟨rfl, rfl⟩
set_option maxRecDepth 100000 in
set_option maxHeartbeats 2000000 in
theorem has_any (f : Nat → Bool) (off : Int) (w : World) : Calls Try.prog 36 #[offV f, .int .i64 off] w fun e w' => e = .returned (.bool (decide (0 ≤ off ∧ off < 200) && f off.toNat)) ∧ Below w.heap.size w w' := by
 have hM := fun W => mayOff_any off W
 have hb : Below w.heap.size w (w.alloc (.cells (offA f) 87)) := (Below.refl _ w).alloc (Nat.le_refl _) _
 by_cases h : 0 ≤ off ∧ off < 200
 ·rw [decide_eq_true h] at hM ⊢
  obtain ⟨q, j, hq, hj, rfl, hd, hm⟩ := off_parts h.1 h.2
  have hh := wordN_has (part64 f q) j hj
  rw [show part64 f q j = f (64 * q + j) from rfl] at hh
  rw [Int.toNat_natCast, Bool.true_and]
  generalize ((64 * q + j : Nat) : Int) = z at hM hd hm ⊢
  generalize f (64 * q + j) = b at hh ⊢
  clear h
  have l0 := wordN_lt (part64 f 0) 64
  have l1 := wordN_lt (part64 f 1) 64
  have l2 := wordN_lt (part64 f 2) 64
  have l3 := wordN_lt (part64 f 3) 64
  unfold offV offA offW at hb ⊢
  rcases (by omega : q = 0 ∨ q = 1 ∨ q = 2 ∨ q = 3) with rfl | rfl | rfl | rfl
  all_goals
   generalize wordN (part64 f 0) 64 = a0 at *
   generalize wordN (part64 f 1) 64 = a1 at *
   generalize wordN (part64 f 2) 64 = a2 at *
   generalize wordN (part64 f 3) 64 = a3 at *
   go_enter Try.func36, Try.ntmps36
   go_wp2_with (go_at_call 34; refine (hM _).mono ?_; clear hM; rintro e _ ⟨rfl, rfl⟩)
   go_ret
   exact ⟨by rw [and_bit _ _ _ ‹_› hh]; rfl, hb⟩
 ·rw [decide_eq_false h] at hM ⊢
  have Hb := Lib.hid hb
  clear hb
  go_enter Try.func36, Try.ntmps36
  go_wp2_with (go_at_call 34; refine (hM _).mono ?_; clear hM; rintro e _ ⟨rfl, rfl⟩)
  go_ret
  exact ⟨rfl, Hb.out⟩
set_option maxRecDepth 100000 in
set_option maxHeartbeats 2000000 in
theorem with_any (f : Nat → Bool) (off : Int) (w : World) (h0 : 0 ≤ off) (h1 : off < 200) : Calls Try.prog 37 #[offV f, .int .i64 off] w fun e w' => e = .returned (offV (addF f off.toNat)) ∧ Below w.heap.size w w' := by
 obtain ⟨q, j, hq, hj, rfl, hd, hm⟩ := off_parts h0 h1
 rw [Int.toNat_natCast]
 have H0 := offW_add f 0 q j hj
 have H1 := offW_add f 1 q j hj
 have H2 := offW_add f 2 q j hj
 have H3 := offW_add f 3 q j hj
 unfold offV offA
 generalize ((64 * q + j : Nat) : Int) = z at hd hm ⊢
 have l0 := wordN_lt (part64 f 0) 64
 have l1 := wordN_lt (part64 f 1) 64
 have l2 := wordN_lt (part64 f 2) 64
 have l3 := wordN_lt (part64 f 3) 64
 clear h0 h1
 rcases (by omega : q = 0 ∨ q = 1 ∨ q = 2 ∨ q = 3) with rfl | rfl | rfl | rfl
 ·rw [H0, H1, H2, H3]
  clear H0 H1 H2 H3
  simp (config := { decide := true }) only [if_true, if_false]
  unfold offW
  generalize wordN (part64 f 0) 64 = a0 at *
  generalize wordN (part64 f 1) 64 = a1 at *
  generalize wordN (part64 f 2) 64 = a2 at *
  generalize wordN (part64 f 3) 64 = a3 at *
  have hwk : IntKind.i64.wrap 0 = 0 := by decide
  have HV := Lib.hid (or_bit a0 j l0 hj)
  go_enter Try.func37, Try.ntmps37
  go_wp2
  have B0 : (w.alloc (.cells #[.int .u64 (a0 : Nat), .int .u64 (a1 : Nat), .int .u64 (a2 : Nat), .int .u64 (a3 : Nat)] 87)).heap[w.heap.size]? = some (.cells #[.int .u64 (a0 : Nat), .int .u64 (a1 : Nat), .int .u64 (a2 : Nat), .int .u64 (a3 : Nat)] 87 (0, 0)) := heap_new w _
  have HB0 : Below w.heap.size w ((w.alloc (.cells #[.int .u64 (a0 : Nat), .int .u64 (a1 : Nat), .int .u64 (a2 : Nat), .int .u64 (a3 : Nat)] 87)).alloc (.cells #[.int .u64 0, .int .u64 0, .int .u64 0, .int .u64 0] 87)) := ((Below.refl _ w).alloc (Nat.le_refl _) _).alloc (by simp) _
  have B1 : ((w.alloc (.cells #[.int .u64 (a0 : Nat), .int .u64 (a1 : Nat), .int .u64 (a2 : Nat), .int .u64 (a3 : Nat)] 87)).alloc (.cells #[.int .u64 0, .int .u64 0, .int .u64 0, .int .u64 0] 87)).heap[w.heap.size]? = some (.cells #[.int .u64 (a0 : Nat), .int .u64 (a1 : Nat), .int .u64 (a2 : Nat), .int .u64 (a3 : Nat)] 87 (0, 0)) := (Below.heap_alloc _ _ _ (by simp)).trans B0
  have R1 : ((w.alloc (.cells #[.int .u64 (a0 : Nat), .int .u64 (a1 : Nat), .int .u64 (a2 : Nat), .int .u64 (a3 : Nat)] 87)).alloc (.cells #[.int .u64 0, .int .u64 0, .int .u64 0, .int .u64 0] 87)).heap[w.heap.size + 1]? = some (.cells #[.int .u64 0, .int .u64 0, .int .u64 0, .int .u64 0] 87 (0, 0)) := by
   have := heap_new (w.alloc (.cells #[.int .u64 (a0 : Nat), .int .u64 (a1 : Nat), .int .u64 (a2 : Nat), .int .u64 (a3 : Nat)] 87)) (.cells #[.int .u64 0, .int .u64 0, .int .u64 0, .int .u64 0] 87)
   rwa [World.size_alloc] at this
  generalize (w.alloc (.cells #[.int .u64 (a0 : Nat), .int .u64 (a1 : Nat), .int .u64 (a2 : Nat), .int .u64 (a3 : Nat)] 87)).alloc (.cells #[.int .u64 0, .int .u64 0, .int .u64 0, .int .u64 0] 87) = w2 at B1 R1 HB0 ⊢
  clear B0
  refine wp_region_held_drew (S := fun X => ∃ z, X.heap[w.heap.size]? = some (.cells #[z, .int .u64 (a1 : Nat), .int .u64 (a2 : Nat), .int .u64 (a3 : Nat)] 87 (0, 0))) (by kernel_rfl) ⟨_, B1⟩ (fun hHeld => ?_)
  refine tk0 (i := 0) rfl ?_
  try simp only [td]
  refine tk0 (i := 1) rfl ?_
  try simp only [td]
  refine tk0 (i := 2) rfl ?_
  try simp only [td]
  refine tk0 (i := 3) rfl ?_
  try simp only [td]
  refine tk0 (i := 5) rfl ?_
  try simp only [td]
  refine tk0 (i := 6) rfl ?_
  try simp only [td]
  refine tk0 (i := 7) rfl ?_
  try simp only [td]
  refine tk0 (i := 9) rfl ?_
  try simp only [td]
  refine rd 4 rfl fun K hK => ?_
  have c0 := box_cell (w := w2.drew) B1 0
  go_simp
  refine hK.out _ _ (hHeld) (fun hX => ?_)
  clear hK K hHeld
  have hHeld := hX
  clear hX
  refine tk0 (i := 8) rfl ?_
  try simp only [td]
  refine tk0 (i := 10) rfl ?_
  try simp only [td]
  refine rd 11 rfl fun K hK => ?_
  clear c0
  have c0 := box_cell (w := w2.drew) B1 0
  have f0 := box_frozen (w := w2.drew) B1 0
  go_simp
  rw [HV.out]
  have B2 : (w2.setCell ⟨w.heap.size, 0, none⟩ (.int .u64 ((a0 ||| 2 ^ j : Nat) : Int))).drew.heap[w.heap.size]? = some (.cells #[.int .u64 ((a0 ||| 2 ^ j : Nat) : Int), .int .u64 (a1 : Nat), .int .u64 (a2 : Nat), .int .u64 (a3 : Nat)] 87 (0, 0)) := box_set (w := w2) B1 0 _
  have R2 : (w2.setCell ⟨w.heap.size, 0, none⟩ (.int .u64 ((a0 ||| 2 ^ j : Nat) : Int))).drew.heap[w.heap.size + 1]? = _ := (box_other (w := w2) (by omega) 0 _).trans R1
  have HB2 := (HB0.setCell (p := ⟨w.heap.size, 0, none⟩) (Nat.le_refl _) (.int .u64 ((a0 ||| 2 ^ j : Nat) : Int))).drew
  refine hK.out _ _ (⟨_, B2⟩) (fun hX => ?_)
  clear hK K hHeld
  have hHeld := hX
  clear hX
  refine wpAnyH_done (by kernel_rfl) ?_ _
  generalize (w2.setCell ⟨w.heap.size, 0, none⟩ (.int .u64 ((a0 ||| 2 ^ j : Nat) : Int))).drew = w3 at B2 R2 HB2 ⊢
  clear c0 f0 B1 R1 HB0 hHeld
  have c0 := box_cell B2 0
  have c1 := box_cell B2 1
  have c2 := box_cell B2 2
  have c3 := box_cell B2 3
  have g0 := box_cell R2 0
  have g1 := box_cell R2 1
  have g2 := box_cell R2 2
  have g3 := box_cell R2 3
  have f0 := box_frozen R2 0
  have f1 := box_frozen R2 1
  have f2 := box_frozen R2 2
  have f3 := box_frozen R2 3
  have HR := Lib.hid R2
  have HB := Lib.hid HB2
  clear R2 HB2
  go_wp2
  have R3 := box_set (box_set (box_set (box_set HR.out 0 (.int .u64 ((a0 ||| 2 ^ j : Nat) : Int))) 1 (.int .u64 (a1 : Nat))) 2 (.int .u64 (a2 : Nat))) 3 (.int .u64 (a3 : Nat))
  have HB3 := (((HB.out.setCell (p := ⟨w.heap.size + 1, 0, none⟩) (by show w.heap.size ≤ w.heap.size + 1; omega) (.int .u64 ((a0 ||| 2 ^ j : Nat) : Int))).setCell (p := ⟨w.heap.size + 1, 1, none⟩) (by show w.heap.size ≤ w.heap.size + 1; omega) (.int .u64 (a1 : Nat))).setCell (p := ⟨w.heap.size + 1, 2, none⟩) (by show w.heap.size ≤ w.heap.size + 1; omega) (.int .u64 (a2 : Nat))).setCell (p := ⟨w.heap.size + 1, 3, none⟩) (by show w.heap.size ≤ w.heap.size + 1; omega) (.int .u64 (a3 : Nat))
  exact bodyPost_ret (results_cell_row (fn := Try.f37) (p := 4) rfl _ _ (w.heap.size + 1) 87 _ (0, 0) _ rfl R3 Try.underlying87 rfl infoOffs) rfl ⟨rfl, HB3⟩
 ·rw [H0, H1, H2, H3]
  clear H0 H1 H2 H3
  simp (config := { decide := true }) only [if_true, if_false]
  unfold offW
  generalize wordN (part64 f 0) 64 = a0 at *
  generalize wordN (part64 f 1) 64 = a1 at *
  generalize wordN (part64 f 2) 64 = a2 at *
  generalize wordN (part64 f 3) 64 = a3 at *
  have hwk : IntKind.i64.wrap 1 = 1 := by decide
  have HV := Lib.hid (or_bit a1 j l1 hj)
  go_enter Try.func37, Try.ntmps37
  go_wp2
  have B0 : (w.alloc (.cells #[.int .u64 (a0 : Nat), .int .u64 (a1 : Nat), .int .u64 (a2 : Nat), .int .u64 (a3 : Nat)] 87)).heap[w.heap.size]? = some (.cells #[.int .u64 (a0 : Nat), .int .u64 (a1 : Nat), .int .u64 (a2 : Nat), .int .u64 (a3 : Nat)] 87 (0, 0)) := heap_new w _
  have HB0 : Below w.heap.size w ((w.alloc (.cells #[.int .u64 (a0 : Nat), .int .u64 (a1 : Nat), .int .u64 (a2 : Nat), .int .u64 (a3 : Nat)] 87)).alloc (.cells #[.int .u64 0, .int .u64 0, .int .u64 0, .int .u64 0] 87)) := ((Below.refl _ w).alloc (Nat.le_refl _) _).alloc (by simp) _
  have B1 : ((w.alloc (.cells #[.int .u64 (a0 : Nat), .int .u64 (a1 : Nat), .int .u64 (a2 : Nat), .int .u64 (a3 : Nat)] 87)).alloc (.cells #[.int .u64 0, .int .u64 0, .int .u64 0, .int .u64 0] 87)).heap[w.heap.size]? = some (.cells #[.int .u64 (a0 : Nat), .int .u64 (a1 : Nat), .int .u64 (a2 : Nat), .int .u64 (a3 : Nat)] 87 (0, 0)) := (Below.heap_alloc _ _ _ (by simp)).trans B0
  have R1 : ((w.alloc (.cells #[.int .u64 (a0 : Nat), .int .u64 (a1 : Nat), .int .u64 (a2 : Nat), .int .u64 (a3 : Nat)] 87)).alloc (.cells #[.int .u64 0, .int .u64 0, .int .u64 0, .int .u64 0] 87)).heap[w.heap.size + 1]? = some (.cells #[.int .u64 0, .int .u64 0, .int .u64 0, .int .u64 0] 87 (0, 0)) := by
   have := heap_new (w.alloc (.cells #[.int .u64 (a0 : Nat), .int .u64 (a1 : Nat), .int .u64 (a2 : Nat), .int .u64 (a3 : Nat)] 87)) (.cells #[.int .u64 0, .int .u64 0, .int .u64 0, .int .u64 0] 87)
   rwa [World.size_alloc] at this
  generalize (w.alloc (.cells #[.int .u64 (a0 : Nat), .int .u64 (a1 : Nat), .int .u64 (a2 : Nat), .int .u64 (a3 : Nat)] 87)).alloc (.cells #[.int .u64 0, .int .u64 0, .int .u64 0, .int .u64 0] 87) = w2 at B1 R1 HB0 ⊢
  clear B0
  refine wp_region_held_drew (S := fun X => ∃ z, X.heap[w.heap.size]? = some (.cells #[.int .u64 (a0 : Nat), z, .int .u64 (a2 : Nat), .int .u64 (a3 : Nat)] 87 (0, 0))) (by kernel_rfl) ⟨_, B1⟩ (fun hHeld => ?_)
  refine tk0 (i := 0) rfl ?_
  try simp only [td]
  refine tk0 (i := 1) rfl ?_
  try simp only [td]
  refine tk0 (i := 2) rfl ?_
  try simp only [td]
  refine tk0 (i := 3) rfl ?_
  try simp only [td]
  refine tk0 (i := 5) rfl ?_
  try simp only [td]
  refine tk0 (i := 6) rfl ?_
  try simp only [td]
  refine tk0 (i := 7) rfl ?_
  try simp only [td]
  refine tk0 (i := 9) rfl ?_
  try simp only [td]
  refine rd 4 rfl fun K hK => ?_
  have c0 := box_cell (w := w2.drew) B1 1
  go_simp
  refine hK.out _ _ (hHeld) (fun hX => ?_)
  clear hK K hHeld
  have hHeld := hX
  clear hX
  refine tk0 (i := 8) rfl ?_
  try simp only [td]
  refine tk0 (i := 10) rfl ?_
  try simp only [td]
  refine rd 11 rfl fun K hK => ?_
  clear c0
  have c0 := box_cell (w := w2.drew) B1 1
  have f0 := box_frozen (w := w2.drew) B1 1
  go_simp
  rw [HV.out]
  have B2 : (w2.setCell ⟨w.heap.size, 1, none⟩ (.int .u64 ((a1 ||| 2 ^ j : Nat) : Int))).drew.heap[w.heap.size]? = some (.cells #[.int .u64 (a0 : Nat), .int .u64 ((a1 ||| 2 ^ j : Nat) : Int), .int .u64 (a2 : Nat), .int .u64 (a3 : Nat)] 87 (0, 0)) := box_set (w := w2) B1 1 _
  have R2 : (w2.setCell ⟨w.heap.size, 1, none⟩ (.int .u64 ((a1 ||| 2 ^ j : Nat) : Int))).drew.heap[w.heap.size + 1]? = _ := (box_other (w := w2) (by omega) 1 _).trans R1
  have HB2 := (HB0.setCell (p := ⟨w.heap.size, 1, none⟩) (Nat.le_refl _) (.int .u64 ((a1 ||| 2 ^ j : Nat) : Int))).drew
  refine hK.out _ _ (⟨_, B2⟩) (fun hX => ?_)
  clear hK K hHeld
  have hHeld := hX
  clear hX
  refine wpAnyH_done (by kernel_rfl) ?_ _
  generalize (w2.setCell ⟨w.heap.size, 1, none⟩ (.int .u64 ((a1 ||| 2 ^ j : Nat) : Int))).drew = w3 at B2 R2 HB2 ⊢
  clear c0 f0 B1 R1 HB0 hHeld
  have c0 := box_cell B2 0
  have c1 := box_cell B2 1
  have c2 := box_cell B2 2
  have c3 := box_cell B2 3
  have g0 := box_cell R2 0
  have g1 := box_cell R2 1
  have g2 := box_cell R2 2
  have g3 := box_cell R2 3
  have f0 := box_frozen R2 0
  have f1 := box_frozen R2 1
  have f2 := box_frozen R2 2
  have f3 := box_frozen R2 3
  have HR := Lib.hid R2
  have HB := Lib.hid HB2
  clear R2 HB2
  go_wp2
  have R3 := box_set (box_set (box_set (box_set HR.out 0 (.int .u64 (a0 : Nat))) 1 (.int .u64 ((a1 ||| 2 ^ j : Nat) : Int))) 2 (.int .u64 (a2 : Nat))) 3 (.int .u64 (a3 : Nat))
  have HB3 := (((HB.out.setCell (p := ⟨w.heap.size + 1, 0, none⟩) (by show w.heap.size ≤ w.heap.size + 1; omega) (.int .u64 (a0 : Nat))).setCell (p := ⟨w.heap.size + 1, 1, none⟩) (by show w.heap.size ≤ w.heap.size + 1; omega) (.int .u64 ((a1 ||| 2 ^ j : Nat) : Int))).setCell (p := ⟨w.heap.size + 1, 2, none⟩) (by show w.heap.size ≤ w.heap.size + 1; omega) (.int .u64 (a2 : Nat))).setCell (p := ⟨w.heap.size + 1, 3, none⟩) (by show w.heap.size ≤ w.heap.size + 1; omega) (.int .u64 (a3 : Nat))
  exact bodyPost_ret (results_cell_row (fn := Try.f37) (p := 4) rfl _ _ (w.heap.size + 1) 87 _ (0, 0) _ rfl R3 Try.underlying87 rfl infoOffs) rfl ⟨rfl, HB3⟩
 ·rw [H0, H1, H2, H3]
  clear H0 H1 H2 H3
  simp (config := { decide := true }) only [if_true, if_false]
  unfold offW
  generalize wordN (part64 f 0) 64 = a0 at *
  generalize wordN (part64 f 1) 64 = a1 at *
  generalize wordN (part64 f 2) 64 = a2 at *
  generalize wordN (part64 f 3) 64 = a3 at *
  have hwk : IntKind.i64.wrap 2 = 2 := by decide
  have HV := Lib.hid (or_bit a2 j l2 hj)
  go_enter Try.func37, Try.ntmps37
  go_wp2
  have B0 : (w.alloc (.cells #[.int .u64 (a0 : Nat), .int .u64 (a1 : Nat), .int .u64 (a2 : Nat), .int .u64 (a3 : Nat)] 87)).heap[w.heap.size]? = some (.cells #[.int .u64 (a0 : Nat), .int .u64 (a1 : Nat), .int .u64 (a2 : Nat), .int .u64 (a3 : Nat)] 87 (0, 0)) := heap_new w _
  have HB0 : Below w.heap.size w ((w.alloc (.cells #[.int .u64 (a0 : Nat), .int .u64 (a1 : Nat), .int .u64 (a2 : Nat), .int .u64 (a3 : Nat)] 87)).alloc (.cells #[.int .u64 0, .int .u64 0, .int .u64 0, .int .u64 0] 87)) := ((Below.refl _ w).alloc (Nat.le_refl _) _).alloc (by simp) _
  have B1 : ((w.alloc (.cells #[.int .u64 (a0 : Nat), .int .u64 (a1 : Nat), .int .u64 (a2 : Nat), .int .u64 (a3 : Nat)] 87)).alloc (.cells #[.int .u64 0, .int .u64 0, .int .u64 0, .int .u64 0] 87)).heap[w.heap.size]? = some (.cells #[.int .u64 (a0 : Nat), .int .u64 (a1 : Nat), .int .u64 (a2 : Nat), .int .u64 (a3 : Nat)] 87 (0, 0)) := (Below.heap_alloc _ _ _ (by simp)).trans B0
  have R1 : ((w.alloc (.cells #[.int .u64 (a0 : Nat), .int .u64 (a1 : Nat), .int .u64 (a2 : Nat), .int .u64 (a3 : Nat)] 87)).alloc (.cells #[.int .u64 0, .int .u64 0, .int .u64 0, .int .u64 0] 87)).heap[w.heap.size + 1]? = some (.cells #[.int .u64 0, .int .u64 0, .int .u64 0, .int .u64 0] 87 (0, 0)) := by
   have := heap_new (w.alloc (.cells #[.int .u64 (a0 : Nat), .int .u64 (a1 : Nat), .int .u64 (a2 : Nat), .int .u64 (a3 : Nat)] 87)) (.cells #[.int .u64 0, .int .u64 0, .int .u64 0, .int .u64 0] 87)
   rwa [World.size_alloc] at this
  generalize (w.alloc (.cells #[.int .u64 (a0 : Nat), .int .u64 (a1 : Nat), .int .u64 (a2 : Nat), .int .u64 (a3 : Nat)] 87)).alloc (.cells #[.int .u64 0, .int .u64 0, .int .u64 0, .int .u64 0] 87) = w2 at B1 R1 HB0 ⊢
  clear B0
  refine wp_region_held_drew (S := fun X => ∃ z, X.heap[w.heap.size]? = some (.cells #[.int .u64 (a0 : Nat), .int .u64 (a1 : Nat), z, .int .u64 (a3 : Nat)] 87 (0, 0))) (by kernel_rfl) ⟨_, B1⟩ (fun hHeld => ?_)
  refine tk0 (i := 0) rfl ?_
  try simp only [td]
  refine tk0 (i := 1) rfl ?_
  try simp only [td]
  refine tk0 (i := 2) rfl ?_
  try simp only [td]
  refine tk0 (i := 3) rfl ?_
  try simp only [td]
  refine tk0 (i := 5) rfl ?_
  try simp only [td]
  refine tk0 (i := 6) rfl ?_
  try simp only [td]
  refine tk0 (i := 7) rfl ?_
  try simp only [td]
  refine tk0 (i := 9) rfl ?_
  try simp only [td]
  refine rd 4 rfl fun K hK => ?_
  have c0 := box_cell (w := w2.drew) B1 2
  go_simp
  refine hK.out _ _ (hHeld) (fun hX => ?_)
  clear hK K hHeld
  have hHeld := hX
  clear hX
  refine tk0 (i := 8) rfl ?_
  try simp only [td]
  refine tk0 (i := 10) rfl ?_
  try simp only [td]
  refine rd 11 rfl fun K hK => ?_
  clear c0
  have c0 := box_cell (w := w2.drew) B1 2
  have f0 := box_frozen (w := w2.drew) B1 2
  go_simp
  rw [HV.out]
  have B2 : (w2.setCell ⟨w.heap.size, 2, none⟩ (.int .u64 ((a2 ||| 2 ^ j : Nat) : Int))).drew.heap[w.heap.size]? = some (.cells #[.int .u64 (a0 : Nat), .int .u64 (a1 : Nat), .int .u64 ((a2 ||| 2 ^ j : Nat) : Int), .int .u64 (a3 : Nat)] 87 (0, 0)) := box_set (w := w2) B1 2 _
  have R2 : (w2.setCell ⟨w.heap.size, 2, none⟩ (.int .u64 ((a2 ||| 2 ^ j : Nat) : Int))).drew.heap[w.heap.size + 1]? = _ := (box_other (w := w2) (by omega) 2 _).trans R1
  have HB2 := (HB0.setCell (p := ⟨w.heap.size, 2, none⟩) (Nat.le_refl _) (.int .u64 ((a2 ||| 2 ^ j : Nat) : Int))).drew
  refine hK.out _ _ (⟨_, B2⟩) (fun hX => ?_)
  clear hK K hHeld
  have hHeld := hX
  clear hX
  refine wpAnyH_done (by kernel_rfl) ?_ _
  generalize (w2.setCell ⟨w.heap.size, 2, none⟩ (.int .u64 ((a2 ||| 2 ^ j : Nat) : Int))).drew = w3 at B2 R2 HB2 ⊢
  clear c0 f0 B1 R1 HB0 hHeld
  have c0 := box_cell B2 0
  have c1 := box_cell B2 1
  have c2 := box_cell B2 2
  have c3 := box_cell B2 3
  have g0 := box_cell R2 0
  have g1 := box_cell R2 1
  have g2 := box_cell R2 2
  have g3 := box_cell R2 3
  have f0 := box_frozen R2 0
  have f1 := box_frozen R2 1
  have f2 := box_frozen R2 2
  have f3 := box_frozen R2 3
  have HR := Lib.hid R2
  have HB := Lib.hid HB2
  clear R2 HB2
  go_wp2
  have R3 := box_set (box_set (box_set (box_set HR.out 0 (.int .u64 (a0 : Nat))) 1 (.int .u64 (a1 : Nat))) 2 (.int .u64 ((a2 ||| 2 ^ j : Nat) : Int))) 3 (.int .u64 (a3 : Nat))
  have HB3 := (((HB.out.setCell (p := ⟨w.heap.size + 1, 0, none⟩) (by show w.heap.size ≤ w.heap.size + 1; omega) (.int .u64 (a0 : Nat))).setCell (p := ⟨w.heap.size + 1, 1, none⟩) (by show w.heap.size ≤ w.heap.size + 1; omega) (.int .u64 (a1 : Nat))).setCell (p := ⟨w.heap.size + 1, 2, none⟩) (by show w.heap.size ≤ w.heap.size + 1; omega) (.int .u64 ((a2 ||| 2 ^ j : Nat) : Int))).setCell (p := ⟨w.heap.size + 1, 3, none⟩) (by show w.heap.size ≤ w.heap.size + 1; omega) (.int .u64 (a3 : Nat))
  exact bodyPost_ret (results_cell_row (fn := Try.f37) (p := 4) rfl _ _ (w.heap.size + 1) 87 _ (0, 0) _ rfl R3 Try.underlying87 rfl infoOffs) rfl ⟨rfl, HB3⟩
 ·rw [H0, H1, H2, H3]
  clear H0 H1 H2 H3
  simp (config := { decide := true }) only [if_true, if_false]
  unfold offW
  generalize wordN (part64 f 0) 64 = a0 at *
  generalize wordN (part64 f 1) 64 = a1 at *
  generalize wordN (part64 f 2) 64 = a2 at *
  generalize wordN (part64 f 3) 64 = a3 at *
  have hwk : IntKind.i64.wrap 3 = 3 := by decide
  have HV := Lib.hid (or_bit a3 j l3 hj)
  go_enter Try.func37, Try.ntmps37
  go_wp2
  have B0 : (w.alloc (.cells #[.int .u64 (a0 : Nat), .int .u64 (a1 : Nat), .int .u64 (a2 : Nat), .int .u64 (a3 : Nat)] 87)).heap[w.heap.size]? = some (.cells #[.int .u64 (a0 : Nat), .int .u64 (a1 : Nat), .int .u64 (a2 : Nat), .int .u64 (a3 : Nat)] 87 (0, 0)) := heap_new w _
  have HB0 : Below w.heap.size w ((w.alloc (.cells #[.int .u64 (a0 : Nat), .int .u64 (a1 : Nat), .int .u64 (a2 : Nat), .int .u64 (a3 : Nat)] 87)).alloc (.cells #[.int .u64 0, .int .u64 0, .int .u64 0, .int .u64 0] 87)) := ((Below.refl _ w).alloc (Nat.le_refl _) _).alloc (by simp) _
  have B1 : ((w.alloc (.cells #[.int .u64 (a0 : Nat), .int .u64 (a1 : Nat), .int .u64 (a2 : Nat), .int .u64 (a3 : Nat)] 87)).alloc (.cells #[.int .u64 0, .int .u64 0, .int .u64 0, .int .u64 0] 87)).heap[w.heap.size]? = some (.cells #[.int .u64 (a0 : Nat), .int .u64 (a1 : Nat), .int .u64 (a2 : Nat), .int .u64 (a3 : Nat)] 87 (0, 0)) := (Below.heap_alloc _ _ _ (by simp)).trans B0
  have R1 : ((w.alloc (.cells #[.int .u64 (a0 : Nat), .int .u64 (a1 : Nat), .int .u64 (a2 : Nat), .int .u64 (a3 : Nat)] 87)).alloc (.cells #[.int .u64 0, .int .u64 0, .int .u64 0, .int .u64 0] 87)).heap[w.heap.size + 1]? = some (.cells #[.int .u64 0, .int .u64 0, .int .u64 0, .int .u64 0] 87 (0, 0)) := by
   have := heap_new (w.alloc (.cells #[.int .u64 (a0 : Nat), .int .u64 (a1 : Nat), .int .u64 (a2 : Nat), .int .u64 (a3 : Nat)] 87)) (.cells #[.int .u64 0, .int .u64 0, .int .u64 0, .int .u64 0] 87)
   rwa [World.size_alloc] at this
  generalize (w.alloc (.cells #[.int .u64 (a0 : Nat), .int .u64 (a1 : Nat), .int .u64 (a2 : Nat), .int .u64 (a3 : Nat)] 87)).alloc (.cells #[.int .u64 0, .int .u64 0, .int .u64 0, .int .u64 0] 87) = w2 at B1 R1 HB0 ⊢
  clear B0
  refine wp_region_held_drew (S := fun X => ∃ z, X.heap[w.heap.size]? = some (.cells #[.int .u64 (a0 : Nat), .int .u64 (a1 : Nat), .int .u64 (a2 : Nat), z] 87 (0, 0))) (by kernel_rfl) ⟨_, B1⟩ (fun hHeld => ?_)
  refine tk0 (i := 0) rfl ?_
  try simp only [td]
  refine tk0 (i := 1) rfl ?_
  try simp only [td]
  refine tk0 (i := 2) rfl ?_
  try simp only [td]
  refine tk0 (i := 3) rfl ?_
  try simp only [td]
  refine tk0 (i := 5) rfl ?_
  try simp only [td]
  refine tk0 (i := 6) rfl ?_
  try simp only [td]
  refine tk0 (i := 7) rfl ?_
  try simp only [td]
  refine tk0 (i := 9) rfl ?_
  try simp only [td]
  refine rd 4 rfl fun K hK => ?_
  have c0 := box_cell (w := w2.drew) B1 3
  go_simp
  refine hK.out _ _ (hHeld) (fun hX => ?_)
  clear hK K hHeld
  have hHeld := hX
  clear hX
  refine tk0 (i := 8) rfl ?_
  try simp only [td]
  refine tk0 (i := 10) rfl ?_
  try simp only [td]
  refine rd 11 rfl fun K hK => ?_
  clear c0
  have c0 := box_cell (w := w2.drew) B1 3
  have f0 := box_frozen (w := w2.drew) B1 3
  go_simp
  rw [HV.out]
  have B2 : (w2.setCell ⟨w.heap.size, 3, none⟩ (.int .u64 ((a3 ||| 2 ^ j : Nat) : Int))).drew.heap[w.heap.size]? = some (.cells #[.int .u64 (a0 : Nat), .int .u64 (a1 : Nat), .int .u64 (a2 : Nat), .int .u64 ((a3 ||| 2 ^ j : Nat) : Int)] 87 (0, 0)) := box_set (w := w2) B1 3 _
  have R2 : (w2.setCell ⟨w.heap.size, 3, none⟩ (.int .u64 ((a3 ||| 2 ^ j : Nat) : Int))).drew.heap[w.heap.size + 1]? = _ := (box_other (w := w2) (by omega) 3 _).trans R1
  have HB2 := (HB0.setCell (p := ⟨w.heap.size, 3, none⟩) (Nat.le_refl _) (.int .u64 ((a3 ||| 2 ^ j : Nat) : Int))).drew
  refine hK.out _ _ (⟨_, B2⟩) (fun hX => ?_)
  clear hK K hHeld
  have hHeld := hX
  clear hX
  refine wpAnyH_done (by kernel_rfl) ?_ _
  generalize (w2.setCell ⟨w.heap.size, 3, none⟩ (.int .u64 ((a3 ||| 2 ^ j : Nat) : Int))).drew = w3 at B2 R2 HB2 ⊢
  clear c0 f0 B1 R1 HB0 hHeld
  have c0 := box_cell B2 0
  have c1 := box_cell B2 1
  have c2 := box_cell B2 2
  have c3 := box_cell B2 3
  have g0 := box_cell R2 0
  have g1 := box_cell R2 1
  have g2 := box_cell R2 2
  have g3 := box_cell R2 3
  have f0 := box_frozen R2 0
  have f1 := box_frozen R2 1
  have f2 := box_frozen R2 2
  have f3 := box_frozen R2 3
  have HR := Lib.hid R2
  have HB := Lib.hid HB2
  clear R2 HB2
  go_wp2
  have R3 := box_set (box_set (box_set (box_set HR.out 0 (.int .u64 (a0 : Nat))) 1 (.int .u64 (a1 : Nat))) 2 (.int .u64 (a2 : Nat))) 3 (.int .u64 ((a3 ||| 2 ^ j : Nat) : Int))
  have HB3 := (((HB.out.setCell (p := ⟨w.heap.size + 1, 0, none⟩) (by show w.heap.size ≤ w.heap.size + 1; omega) (.int .u64 (a0 : Nat))).setCell (p := ⟨w.heap.size + 1, 1, none⟩) (by show w.heap.size ≤ w.heap.size + 1; omega) (.int .u64 (a1 : Nat))).setCell (p := ⟨w.heap.size + 1, 2, none⟩) (by show w.heap.size ≤ w.heap.size + 1; omega) (.int .u64 (a2 : Nat))).setCell (p := ⟨w.heap.size + 1, 3, none⟩) (by show w.heap.size ≤ w.heap.size + 1; omega) (.int .u64 ((a3 ||| 2 ^ j : Nat) : Int))
  exact bodyPost_ret (results_cell_row (fn := Try.f37) (p := 4) rfl _ _ (w.heap.size + 1) 87 _ (0, 0) _ rfl R3 Try.underlying87 rfl infoOffs) rfl ⟨rfl, HB3⟩
end Go.Proofs.Ytmedickofiielaa
