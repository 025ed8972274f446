/- Texts of this proof, joined. -/
import Derived.Test.YtmedickofiielaaGReads64
import Derived.Laws.StructEq
import Derived.BigQuiet
import Derived.Laws.OwnMore
import Derived.OwnWalk
import Derived.WalkSmall
import Derived.OpenShut
import Derived.DataShut
import Derived.Test.YtmedickofiielaaGNumsPlain
import Derived.ProofKit
import Derived.Carry
import Derived.ChangeSlices
import Derived.Deep.Slices
import Derived.Deep.Fields
import Derived.Test.YtmedickofiielaaGPlain
namespace Go.Proofs.Ytmedickofiielaa
open Go.RowKit

end Go.Proofs.Ytmedickofiielaa

namespace Go.Proofs.Ytmedickofiielaa
open Go.RowKit

theorem getD_cell {xs : List Sp} {k : Nat} (hk : k < xs.length) : xs[k] = xs.getD k (0, 0) := by simp [List.getD, hk]
theorem sMayF_at {xs : List Sp} {k : Nat} (hk : k < xs.length) (L : Int) :
  sMayF L (xs.drop k) = (decide (1 ≤ (xs.getD k (0, 0)).2 ∧ L < (xs.getD k (0, 0)).1 ∧ (xs.getD k (0, 0)).1 ≤ 20000 ∧ (xs.getD k (0, 0)).2 ≤ 20000 - (xs.getD k (0, 0)).1) && sMayF ((xs.getD k (0, 0)).1 + (xs.getD k (0, 0)).2) (xs.drop (k + 1))) := by
 rw [List.drop_eq_getElem_cons hk, getD_cell hk]
 rfl
set_option maxRecDepth 100000 in
set_option maxHeartbeats 2000000 in
theorem rSpMay_any (v : Value) (xs : List Sp) (w : World) (h : SpAt w v xs) (hx : xs.length ≤ 1000000000) :
  Calls Try.prog 19 #[v] w fun e w' => e = .returned (.bool (sMay xs)) ∧ Below w.heap.size w w' := by
 have HR := Lib.hid h
 obtain ⟨ao, cap, rfl, _⟩ := h
 obtain ⟨n, hn⟩ : ∃ n, xs.length = n := ⟨_, rfl⟩
 rw [hn] at hx ⊢
 have Hn := Lib.hid hn
 clear hn
 go_enter Try.func19, Try.ntmps19
 go_wp2
 go_loopw [3, 4] (fun la i wr => ∃ (k : Nat) (L : Int), i = .int .i64 k ∧ k ≤ n ∧ la = .int .i64 L ∧ -1 ≤ L ∧ L ≤ 20000 ∧ sMay xs = sMayF L (xs.drop k) ∧ Below w.heap.size w wr) (fun _ i _ => n - (intOf i).toNat)
 case atStart => exact ⟨0, -1, rfl, Nat.zero_le _, rfl, by decide, by decide, rfl, Below.refl _ _⟩
 case round =>
  obtain ⟨k, L, rfl, hk, rfl, hL0, hL1, hm, hb⟩ := hrel
  have Hb := Lib.hid hb
  have Hm := Lib.hid hm
  clear hm hb
  rcases Nat.lt_or_ge k n with hlt | hge
  ·have hxk : k < xs.length := by rw [Hn.out]; exact hlt
   obtain ⟨b, off, cap', hv, hc0, hc1⟩ := (HR.out.below Hb.out).at hxk
   rw [Hn.out] at hv
   cases hv
   have hs := sMayF_at hxk L
   generalize (xs.getD k (0, 0)).1 = F at *
   generalize (xs.getD k (0, 0)).2 = E at *
   have HS := Lib.hid hs
   clear hs hxk
   have hi : (0 : Int) ≤ (k : Int) ∧ (k : Int) < (n : Int) := ⟨by omega, by omega⟩
   rcases Bool.eq_false_or_eq_true (decide (E < 1)) with b0 | b0
   ·have g0 := of_decide_eq_true b0
    have hV := Lib.hid (show sMay xs = false by rw [Hm.out, HS.out, decide_eq_false (by omega), Bool.false_and])
    go_wp2_with fail
    go_quiet (fail)
    go_wp2
    go_ret
    exact ⟨ret_bool hV.out.symm, below_draws Hb.out _⟩
   have g0 := of_decide_eq_false b0
   rcases Bool.eq_false_or_eq_true (decide (F ≤ L)) with b1 | b1
   ·have g1 := of_decide_eq_true b1
    have hV := Lib.hid (show sMay xs = false by rw [Hm.out, HS.out, decide_eq_false (by omega), Bool.false_and])
    go_wp2_with fail
    go_quiet (fail)
    go_wp2
    go_ret
    exact ⟨ret_bool hV.out.symm, below_draws Hb.out _⟩
   have g1 := of_decide_eq_false b1
   rcases Bool.eq_false_or_eq_true (decide ((20000 : Int) < F)) with b2 | b2
   ·have g2 := of_decide_eq_true b2
    have hV := Lib.hid (show sMay xs = false by rw [Hm.out, HS.out, decide_eq_false (by omega), Bool.false_and])
    go_wp2_with fail
    go_quiet (fail)
    go_wp2
    go_ret
    exact ⟨ret_bool hV.out.symm, below_draws Hb.out _⟩
   have g2 := of_decide_eq_false b2
   have hw1 : IntKind.i64.wrap (20000 - F) = 20000 - F := by simp only [IntKind.wrap_i64]; omega
   rcases Bool.eq_false_or_eq_true (decide (20000 - F < E)) with b3 | b3
   ·have g3 := of_decide_eq_true b3
    have hV := Lib.hid (show sMay xs = false by rw [Hm.out, HS.out, decide_eq_false (by omega), Bool.false_and])
    go_wp2_with fail
    go_quiet (fail)
    go_wp2
    go_ret
    exact ⟨ret_bool hV.out.symm, below_draws Hb.out _⟩
   have g3 := of_decide_eq_false b3
   have hw2 : IntKind.i64.wrap (F + E) = F + E := by simp only [IntKind.wrap_i64]; omega
   have hN := Lib.hid (show sMay xs = sMayF (F + E) (xs.drop (k + 1)) by rw [Hm.out, HS.out, decide_eq_true (by omega), Bool.true_and])
   have HB := Lib.hid (show -1 ≤ F + E ∧ F + E ≤ 20000 from ⟨by omega, by omega⟩)
   clear g0 g1 g2 g3 hL0 hL1
   go_wp2_with fail
   go_quiet (fail)
   go_wp2_with fail
   go_quiet (fail)
   go_wp2
   go_roundw
   case rel => exact ⟨k + 1, F + E, by go_num, by omega, rfl, HB.out.1, HB.out.2, hN.out, below_draws Hb.out _⟩
   case measure => simp [intOf]; omega
  ·obtain rfl : k = n := by omega
   have hV := Lib.hid (show sMay xs = true by rw [Hm.out, List.drop_of_length_le (by rw [Hn.out]; exact Nat.le_refl _)]; rfl)
   go_wp2
   go_ret
   exact ⟨ret_bool hV.out.symm, Hb.out⟩
end Go.Proofs.Ytmedickofiielaa

namespace Go.Proofs.Ytmedickofiielaa
open Go.RowKit

def bArrN (n : Nat) (f : Nat → Bool) : Array Value := (bCells f n).toArray
theorem bArrN_at (n : Nat) (f : Nat → Bool) (k : Nat) (hk : k < n) : (bArrN n f)[k]? = some (.bool (f k)) := by
 unfold bArrN
 rw [List.getElem?_toArray]
 exact bCells_at f n k hk
theorem bArrN_set (n : Nat) (f : Nat → Bool) (k : Nat) (x : Bool) : (bArrN n f).setIfInBounds k (.bool x) = bArrN n fun j => if j = k then x else f j := by
 unfold bArrN
 rw [List.setIfInBounds_toArray, bCells_set]
theorem bArrN_made (n : Nat) : madeCells #[Value.bool false] n = bArrN n fun _ => false := by
 apply Array.ext'
 rw [toList_madeCells_one]
 unfold bArrN
 rw [List.toList_toArray, bCells_none]
def bArr (f : Nat → Bool) : Array Value := bArrN 20000 f
theorem bArr_at (f : Nat → Bool) (k : Nat) (hk : k < 20000) : (bArr f)[k]? = some (.bool (f k)) := bArrN_at 20000 f k hk
theorem bArr_set (f : Nat → Bool) (k : Nat) (x : Bool) : (bArr f).setIfInBounds k (.bool x) = bArr fun j => if j = k then x else f j := bArrN_set 20000 f k x
def MB (N : Nat) (f : Nat → Bool) (w W : World) : Prop := W.heap[N]? = some (.cells (bArr f) 4 (0, 0)) ∧ Below N w W
theorem MB.set {N : Nat} {f : Nat → Bool} {w W : World} (h : MB N f w W) (k : Nat) (x : Bool) : MB N (fun j => if j = k then x else f j) w (W.setCell ⟨N, k, none⟩ (.bool x)) := by
 refine ⟨?_, h.2.setCell (Nat.le_refl _) _⟩
 have := heap_setCell_same W N k _ _ (Value.bool x) h.1
 rw [bArr_set] at this
 exact this
theorem MB.cell {N : Nat} {f : Nat → Bool} {w W : World} (h : MB N f w W) (k : Nat) (hk : k < 20000) : W.cell? ⟨N, k, none⟩ = some (.bool (f k)) := (cell_of_row _ _ k _ _ _ h.1).trans (bArr_at f k hk)
theorem MB.frozen {N : Nat} {f : Nat → Bool} {w W : World} (h : MB N f w W) (k : Nat) : W.frozen? ⟨N, k, none⟩ = false := frozen_of_row _ _ k _ _ h.1
theorem MB.reads {N : Nat} {f : Nat → Bool} {w W : World} (h : MB N f w W) (cap : Nat) : BAt W (.slice (some ⟨N, 0, none⟩) 20000 cap) 20000 f := ⟨_, cap, rfl, fun _ => ⟨N, 0, rfl, fun i hi => by rw [Nat.zero_add]; exact h.cell i hi⟩⟩
theorem MB.keep {N : Nat} {f : Nat → Bool} {w W W' : World} (h : MB N f w W) (hb : Below W.heap.size W W') : MB N f w W' := by
 have hl : N < W.heap.size := (Array.getElem?_eq_some_iff.1 h.1).1
 exact ⟨(hb.block N hl).trans h.1, h.2.trans (hb.mono (Nat.le_of_lt hl))⟩
theorem marks0_eq : madeCells #[Value.bool false] 20000 = bArr fun _ => false := bArrN_made 20000
theorem infoBool : (Try.prog.info? 4).map (fun i => (i.zero, i.size, i.bytes)) = some (some (.bool false), 1, 1) := by kernel_rfl
theorem run_makeB (W : World) : (Instr.makeSlice 77 (.int .i64 20000) (.int .i64 20000)).run Try.prog W = .ok (.slice (some ⟨W.heap.size, 0, none⟩) 20000 20000) (W.alloc (.cells (bArr fun _ => false) 4)) := by
 obtain ⟨i0, hi, hz0, hz1, hz2⟩ := info_parts infoBool
 have h := run_make (P := Try.prog) W 77 4 i0 (.bool false) Try.underlying77 hi hz0 .i64 .i64 20000 20000 (by omega) (Int.le_refl _) (by rw [hz2]; omega) (by omega)
 rw [hz1, Nat.mul_one, show (20000 : Int).toNat = 20000 from rfl] at h
 rw [← marks0_eq]
 exact h
theorem MB.new (W : World) : MB W.heap.size (fun _ => false) W (W.alloc (.cells (bArr fun _ => false) 4)) := ⟨heap_alloc_new W _, (Below.refl _ W).alloc (Nat.le_refl _) _⟩
def upS (f : Nat → Bool) (a c : Nat) (j : Nat) : Bool := f j || decide (a ≤ j ∧ j < a + c)
theorem upS_zero (f : Nat → Bool) (a : Nat) : upS f a 0 = f := by
 funext j
 unfold upS
 rw [decide_eq_false (by omega), Bool.or_false]
theorem upS_next (f : Nat → Bool) (a c : Nat) : (fun j => if j = a + c then true else upS f a c j) = upS f a (c + 1) := by
 funext j
 unfold upS
 by_cases e : j = a + c
 ·rw [if_pos e, decide_eq_true (p := a ≤ j ∧ j < a + (c + 1)) (by omega), Bool.or_true]
 ·rw [if_neg e]
  congr 1
  exact decide_eq_decide.2 (by omega)
theorem upS_end {xs : List Sp} {k a m : Nat} (hk : k < xs.length) (h1 : (xs.getD k (0, 0)).1 = a) (h2 : (xs.getD k (0, 0)).2 = m) : upS (sMark (xs.take k)) a m = sMark (xs.take (k + 1)) := by
 funext j
 rw [List.take_succ_eq_append_getElem hk, sMark_append, getD_cell hk]
 unfold upS
 congr 1
 unfold sMark spHas
 rw [List.any_cons, List.any_nil, Bool.or_false, h1, h2]
 exact decide_eq_decide.2 (by omega)
theorem spOk_next {xs : List Sp} {k : Nat} (hk : k < xs.length) (h : (xs.take k).all spOk = true) (hm : spOk (xs.getD k (0, 0)) = true) : (xs.take (k + 1)).all spOk = true := by
 rw [List.take_succ_eq_append_getElem hk, List.all_append, h, getD_cell hk, List.all_cons, List.all_nil, hm]
 rfl
theorem spOk_bad {xs : List Sp} {k : Nat} (hk : k < xs.length) (hm : spOk (xs.getD k (0, 0)) = false) : xs.all spOk = false := by
 rw [List.all_eq_false]
 exact ⟨xs[k], List.getElem_mem hk, by rw [getD_cell hk, hm]; simp⟩
def SB (B : Nat) (F E : Int) (W : World) : Prop := W.cell? ⟨B, 0, none⟩ = some (.int .i64 F) ∧ W.cell? ⟨B, 1, none⟩ = some (.int .i64 E)
theorem SB.set {B : Nat} {F E : Int} {W : World} (h : SB B F E W) {p : Addr} (hp : p.block ≠ B) (x : Value) : SB B F E (W.setCell p x) := by
 refine ⟨?_, ?_⟩
 ·rw [World.cell?_setCell_other _ _ _ _ (by intro e; rw [e] at hp; exact hp rfl)]; exact h.1
 ·rw [World.cell?_setCell_other _ _ _ _ (by intro e; rw [e] at hp; exact hp rfl)]; exact h.2
theorem SB.new (W : World) (F E : Int) (t : TypeId) : SB W.heap.size F E (W.alloc (.cells #[.int .i64 F, .int .i64 E] t)) := by
 have h := heap_alloc_new W (.cells #[.int .i64 F, .int .i64 E] t)
 exact ⟨cell_of_row _ _ 0 _ _ _ h, cell_of_row _ _ 1 _ _ _ h⟩
def MarksPost (xs : List Sp) (w : World) (e : Ending) (w' : World) : Prop :=
 ∃ v, e = .returned (.tuple #[v, .bool (xs.all spOk)]) ∧ (xs.all spOk = true → BAt w' v 20000 (sMark xs)) ∧ Below w.heap.size w w'
theorem MarksPost.no {xs : List Sp} {w w' : World} (h : xs.all spOk = false) (hb : Below w.heap.size w w') : MarksPost xs w (.returned (.tuple #[.slice none 0 0, .bool false])) w' := ⟨_, by rw [h], (fun q => by rw [h] at q; cases q), hb⟩
theorem MarksPost.yes {xs : List Sp} {w w' : World} {v : Value} (h : xs.all spOk = true) (hv : BAt w' v 20000 (sMark xs)) (hb : Below w.heap.size w w') : MarksPost xs w (.returned (.tuple #[v, .bool true])) w' := ⟨_, by rw [h], fun _ => hv, hb⟩
set_option maxRecDepth 100000 in
set_option maxHeartbeats 4000000 in
theorem rMarks_any (v : Value) (xs : List Sp) (w : World) (h : SpAt w v xs) (hx : xs.length ≤ 1000000000) :
  Calls Try.prog 32 #[v] w (MarksPost xs w) := by
 have HR := Lib.hid h
 have hmk := run_makeB w
 have HB0 := Lib.hid (MB.new w)
 obtain ⟨ao, cap, rfl, _⟩ := h
 obtain ⟨n, hn⟩ : ∃ n, xs.length = n := ⟨_, rfl⟩
 rw [hn] at hx ⊢
 have Hn := Lib.hid hn
 clear hn
 go_enter Try.func32, Try.ntmps32
 go_wp2
 clear hmk
 generalize w.alloc (.cells (bArr fun _ => false) 4) = w0 at *
 go_loopw [5] (fun i wr => ∃ k : Nat, i = .int .i64 k ∧ k ≤ n ∧ (xs.take k).all spOk = true ∧ MB w.heap.size (sMark (xs.take k)) w wr) (fun i _ => n - (intOf i).toNat)
 case atStart => exact ⟨0, rfl, Nat.zero_le _, rfl, HB0.out⟩
 case round =>
  rename_i wr
  obtain ⟨k, rfl, hk, hall, hbx⟩ := hrel
  have Hall := Lib.hid hall
  clear hall
  rcases Nat.lt_or_ge k n with hlt | hge
  ·have hxk : k < xs.length := by rw [Hn.out]; exact hlt
   obtain ⟨b, off, cap', hv, hc0, hc1⟩ := (HR.out.below hbx.2).at hxk
   rw [Hn.out] at hv
   cases hv
   have Hxk := Lib.hid hxk
   have HSP : spOk (xs.getD k (0, 0)) = decide (0 ≤ (xs.getD k (0, 0)).1 ∧ (xs.getD k (0, 0)).1 ≤ 20000 ∧ 0 ≤ (xs.getD k (0, 0)).2 ∧ (xs.getD k (0, 0)).2 ≤ 20000 - (xs.getD k (0, 0)).1) := rfl
   obtain ⟨F, hF⟩ : ∃ F, (xs.getD k (0, 0)).1 = F := ⟨_, rfl⟩
   obtain ⟨E, hE⟩ : ∃ E, (xs.getD k (0, 0)).2 = E := ⟨_, rfl⟩
   rw [hF] at hc0 HSP
   rw [hE] at hc1 HSP
   have HF := Lib.hid hF
   have HE := Lib.hid hE
   have HBX := Lib.hid hbx
   have HSP := Lib.hid HSP
   clear hxk hF hE hbx
   have hi : (0 : Int) ≤ (k : Int) ∧ (k : Int) < (n : Int) := ⟨by omega, by omega⟩
   have hNo : ¬ (0 ≤ F ∧ F ≤ 20000 ∧ 0 ≤ E ∧ E ≤ 20000 - F) → MarksPost xs w (.returned (.tuple #[.slice none 0 0, .bool false])) (wr.alloc (.cells #[.int .i64 F, .int .i64 E] 76)) := fun g => MarksPost.no (spOk_bad Hxk.out (by rw [HSP.out, decide_eq_false g])) (HBX.out.2.alloc HBX.out.2.size _)
   have HNo := Lib.hid hNo
   clear hNo
   rcases Bool.eq_false_or_eq_true (decide (F < 0)) with b0 | b0
   ·have g0 := of_decide_eq_true b0
    go_wp2
    go_ret2
    exact HNo.out (by omega)
   have g0 := of_decide_eq_false b0
   rcases Bool.eq_false_or_eq_true (decide ((20000 : Int) < F)) with b1 | b1
   ·have g1 := of_decide_eq_true b1
    go_wp2
    go_ret2
    exact HNo.out (by omega)
   have g1 := of_decide_eq_false b1
   rcases Bool.eq_false_or_eq_true (decide (E < 0)) with b2 | b2
   ·have g2 := of_decide_eq_true b2
    go_wp2
    go_ret2
    exact HNo.out (by omega)
   have g2 := of_decide_eq_false b2
   have hw1 : IntKind.i64.wrap (20000 - F) = 20000 - F := by simp only [IntKind.wrap_i64]; omega
   rcases Bool.eq_false_or_eq_true (decide (20000 - F < E)) with b3 | b3
   ·have g3 := of_decide_eq_true b3
    go_wp2
    go_ret2
    exact HNo.out (by omega)
   have g3 := of_decide_eq_false b3
   have HOK := Lib.hid (spOk_next Hxk.out Hall.out (by rw [HSP.out, decide_eq_true (by omega)]))
   obtain ⟨a, rfl⟩ : ∃ a : Nat, F = a := ⟨F.toNat, by omega⟩
   obtain ⟨m, rfl⟩ : ∃ m : Nat, E = m := ⟨E.toNat, by omega⟩
   have ham : a + m ≤ 20000 := by omega
   have hbn := HBX.out.keep ((Below.refl _ wr).alloc (Nat.le_refl _) (.cells #[.int .i64 (a : Int), .int .i64 (m : Int)] 76))
   have HBN := Lib.hid hbn
   have HSB := Lib.hid (SB.new wr (a : Int) (m : Int) 76)
   have HNB := Lib.hid (show w.heap.size ≠ wr.heap.size by have := (Array.getElem?_eq_some_iff.1 HBX.out.1).1; omega)
   clear hbn
   have HEND := Lib.hid (upS_end Hxk.out HF.out HE.out)
   clear g0 g1 g2 g3
   go_wp2
   clear hc0 hc1 b0 b1 b2 b3 hw1 hi
   obtain ⟨B, hB⟩ : ∃ B, wr.heap.size = B := ⟨_, rfl⟩
   rw [hB] at HSB HNB ⊢
   clear hB
   generalize wr.alloc (.cells #[.int .i64 (a : Int), .int .i64 (m : Int)] 76) = wb at *
   go_loopw [7] (fun i wr' => ∃ c : Nat, i = .int .i64 c ∧ c ≤ m ∧ MB w.heap.size (upS (sMark (xs.take k)) a c) w wr' ∧ SB B a m wr') (fun i _ => m - (intOf i).toNat)
   case atStart => exact ⟨0, rfl, Nat.zero_le _, by rw [upS_zero]; exact HBN.out, HSB.out⟩
   case round =>
    rename_i wr'
    obtain ⟨c, rfl, hc, hbq, hsb⟩ := hrel
    obtain ⟨s0, s1⟩ := id hsb
    rcases Nat.lt_or_ge c m with hclt | hcge
    ·have hcell := hbq.cell (a + c) (by omega)
     have hfro := hbq.frozen (a + c)
     have hN := hbq.set (a + c) true
     rw [upS_next] at hN
     have HN := Lib.hid hN
     have HS2 := Lib.hid (hsb.set (p := ⟨w.heap.size, a + c, none⟩) HNB.out (.bool true))
     have hw2 : IntKind.i64.wrap ((a : Int) + (c : Int)) = (a : Int) + (c : Int) := by simp only [IntKind.wrap_i64]; omega
     have hi2 : (0 : Int) ≤ (a : Int) + (c : Int) ∧ (a : Int) + (c : Int) < 20000 := ⟨by omega, by omega⟩
     have hnt : ((a : Int) + (c : Int)).toNat = a + c := by omega
     clear hN hbq hsb
     go_wp2
     exact ⟨⟨c + 1, by go_num, by omega, HN.out, HS2.out⟩, by simp [intOf]; omega⟩
    ·obtain rfl : c = m := by omega
     rw [HEND.out] at hbq
     have HQ := Lib.hid hbq
     clear hbq hsb
     go_wp2
     exact ⟨⟨k + 1, by go_num, by omega, HOK.out, HQ.out⟩, by simp [intOf]; omega⟩
  ·obtain rfl : k = n := by omega
   have ht : xs.take k = xs := List.take_of_length_le (by rw [Hn.out]; exact Nat.le_refl _)
   rw [ht] at hbx
   have hok := Hall.out
   rw [ht] at hok
   have HP := Lib.hid (MarksPost.yes hok (hbx.reads 20000) hbx.2)
   clear ht hbx hok
   go_wp2
   go_ret2
   exact HP.out
end Go.Proofs.Ytmedickofiielaa

namespace Go.Proofs.Ytmedickofiielaa
open Go.RowKit

theorem ownsRow_form {W : World} {base : Nat} {e : TypeId} {size : Nat} {v : Value} {n : Nat} {xs : List Value} (h : W.ownsRow base e size v n xs) (hn : 0 < n) : ∃ g cap, v = .slice (some ⟨g, 0, none⟩) n cap ∧ base ≤ g ∧ g < W.heap.size := by
 rcases h.2 with ⟨_, h0⟩ | ⟨g, cap, cur, hv, hb, hg, _⟩
 ·omega
 ·exact ⟨g, cap, hv, hb, (Array.getElem?_eq_some_iff.1 hg).1⟩
end Go.Proofs.Ytmedickofiielaa

namespace Go.Proofs.Ytmedickofiielaa
open Go.RowKit

def SpOkPost (b : Bool) (l : List Sp) (w : World) (e : Ending) (w' : World) : Prop := ∃ v, e = .returned (.tuple #[v, .bool b]) ∧ SpAt w' v (if b then l else []) ∧ Below w.heap.size w w'
theorem SpOkPost.no {b : Bool} {l : List Sp} {w w' : World} (h : b = false) (hb : Below w.heap.size w w') : SpOkPost b l w (.returned (.tuple #[.slice none 0 0, .bool false])) w' := ⟨_, by rw [h], by rw [h]; exact SpAt.nil _, hb⟩
theorem SpOkPost.yes {b : Bool} {l : List Sp} {w w' : World} {v : Value} (h : b = true) (hv : SpAt w' v l) (hb : Below w.heap.size w w') : SpOkPost b l w (.returned (.tuple #[v, .bool true])) w' := ⟨_, by rw [h], by rw [h]; exact hv, hb⟩
end Go.Proofs.Ytmedickofiielaa

namespace Go.Proofs.Ytmedickofiielaa
open Go.RowKit

theorem cntTo_next (f : Nat → Bool) (k : Nat) : cntTo f (k + 1) = cntTo f k + if f k then 1 else 0 := rfl
set_option maxRecDepth 100000 in
set_option maxHeartbeats 2000000 in
theorem rSpAhead_any (v : Value) (xs : List Sp) (p : Int) (w : World) (h : SpAt w v xs) (hx : xs.length ≤ 1000000000) (hok : xs.all spOk = true) :
  Calls Try.prog 20 #[v, .int .i64 p] w fun e w' => e = .returned (.int .i64 (cntTo (sMark xs) (min 20000 p.toNat))) ∧ Below w.heap.size w w' := by
 have hM := rMarks_any v xs w h hx
 obtain ⟨ao, cap, rfl, _⟩ := h
 obtain ⟨P, hP⟩ : ∃ P, min 20000 p.toNat = P := ⟨_, rfl⟩
 rw [hP]
 obtain ⟨f, hf0⟩ : ∃ f, sMark xs = f := ⟨_, rfl⟩
 rw [hf0]
 go_enter Try.func20, Try.ntmps20
 go_wp2_with fail
 refine hM.mono ?_
 clear hM
 rintro e w1 ⟨mv, rfl, hm, hb⟩
 have hm := hm hok
 rw [hf0] at hm
 have HM := Lib.hid hm
 have HB := Lib.hid hb
 rw [hok]
 clear hm hb hok hf0
 obtain ⟨_, _, rfl, _⟩ := id HM.out
 go_wp2_with fail
 go_loop [7, 8] (fun c i => ∃ k : Nat, i = .int .i64 k ∧ k ≤ P ∧ c = .int .i64 (cntTo f k : Nat)) (fun _ i => P - (intOf i).toNat)
 case atStart => exact ⟨0, rfl, Nat.zero_le _, rfl⟩
 case round =>
  obtain ⟨k, rfl, hk, rfl⟩ := hrel
  have hc20 := cntTo_le f k
  rcases Nat.lt_or_ge k P with hlt | hge
  ·obtain ⟨b, off, c1, hv, hc⟩ := HM.out.at (i := k) (by omega)
   cases hv
   have hNX := cntTo_next f k
   have hk20 : (k : Int) < 20000 := by omega
   have hkp : (k : Int) < p := by omega
   have hi : (0 : Int) ≤ (k : Int) ∧ (k : Int) < 20000 := ⟨by omega, by omega⟩
   cases hf : f k with
   | false =>
    rw [hf, if_neg (by simp), Nat.add_zero] at hNX
    rw [hf] at hc
    have HNX := Lib.hid hNX
    clear hf hNX
    generalize cntTo f k = C at *
    go_wp2
    go_round
    case rel => exact ⟨k + 1, by go_num, by omega, by rw [HNX.out]; rfl⟩
    case measure => simp [intOf]; omega
   | true =>
    rw [hf, if_pos rfl] at hNX
    rw [hf] at hc
    have HNX := Lib.hid hNX
    clear hf hNX
    generalize cntTo f k = C at *
    have hw : IntKind.i64.wrap ((C : Int) + 1) = (C : Int) + 1 := by simp only [IntKind.wrap_i64]; omega
    go_wp2
    go_round
    case rel => exact ⟨k + 1, by go_num, by omega, by rw [HNX.out]; go_num⟩
    case measure => simp [intOf]; omega
  ·obtain rfl : k = P := by omega
   rcases Nat.lt_or_ge k 20000 with g | g
   ·have hk20 : (k : Int) < 20000 := by omega
    have hkp : ¬ (k : Int) < p := by omega
    go_wp2
    go_ret
    exact ⟨rfl, HB.out⟩
   ·have hk20 : ¬ (k : Int) < 20000 := by omega
    go_wp2
    go_ret
    exact ⟨rfl, HB.out⟩
def hasI (xs : List Sp) (p : Int) : Bool := xs.any fun s => decide (s.1 ≤ p ∧ p < s.1 + s.2)
theorem hasI_nat (xs : List Sp) (p : Nat) : hasI xs p = sMark xs p := rfl
end Go.Proofs.Ytmedickofiielaa

namespace Go.Proofs.Ytmedickofiielaa
open Go.RowKit

def fullB (f : Nat → Bool) (a n : Nat) : Bool := (List.range 20000).any fun i => decide (a ≤ i) && f i && decide (20000 ≤ i + n)
def spArgs (xs : List Sp) (p n : Int) : Bool := sMay xs && decide (0 ≤ p ∧ p ≤ 20000 ∧ 0 ≤ n)
def opC (xs : List Sp) (p n : Int) : Int := if spArgs xs p n then (if fullB (sMark xs) p.toNat n.toNat then 4 else 0) else 1
def opL (xs : List Sp) (p n : Int) : List Sp := sMade (sOpenM (sMark xs) p.toNat n.toNat) 20000
def OpenPost (xs : List Sp) (p n : Int) (w : World) (e : Ending) (w' : World) : Prop :=
 ∃ v, e = .returned (.tuple #[v, .int .i64 (opC xs p n)]) ∧ SpAt w' v (if opC xs p n = 0 then opL xs p n else []) ∧ Below w.heap.size w w'
theorem OpenPost.no {xs : List Sp} {p n : Int} {w w' : World} {c : Int} (h : opC xs p n = c) (hc : c ≠ 0) (hb : Below w.heap.size w w') : OpenPost xs p n w (.returned (.tuple #[.slice none 0 0, .int .i64 c])) w' :=
 ⟨_, by rw [h], by rw [h, if_neg hc]; exact SpAt.nil _, hb⟩
theorem OpenPost.yes {xs : List Sp} {p n : Int} {w w' : World} {v : Value} (h : opC xs p n = 0) (hv : SpAt w' v (opL xs p n)) (hb : Below w.heap.size w w') : OpenPost xs p n w (.returned (.tuple #[v, .int .i64 0])) w' :=
 ⟨_, by rw [h], by rw [h, if_pos rfl]; exact hv, hb⟩
end Go.Proofs.Ytmedickofiielaa

namespace Go.Proofs.Ytmedickofiielaa
open Go.RowKit

end Go.Proofs.Ytmedickofiielaa

namespace Go.Proofs.Ytmedickofiielaa
open Go.RowKit

end Go.Proofs.Ytmedickofiielaa

namespace Go.Proofs.Ytmedickofiielaa
open Go.RowKit

def sWf (xs : List Sp) : Prop := ∀ s ∈ xs, (Lit.int .i64 s.1).wf = true ∧ (Lit.int .i64 s.2).wf = true
theorem sWf_of_small {xs : List Sp} (h : ∀ s ∈ xs, -100000 ≤ s.1 ∧ s.1 ≤ 100000 ∧ -100000 ≤ s.2 ∧ s.2 ≤ 100000) : sWf xs := by
 have key : ∀ n : Int, -100000 ≤ n → n ≤ 100000 → (Lit.int .i64 n).wf = true := by
  intro n h1 h2
  rw [Lit.wf_int_iff, show IntKind.i64.min = -9223372036854775808 from by decide, show IntKind.i64.max = 9223372036854775807 from by decide]
  omega
 exact fun s hs => ⟨key _ (h s hs).1 (h s hs).2.1, key _ (h s hs).2.2.1 (h s hs).2.2.2⟩
theorem sWf_good {xs : List Sp} (h : sGood xs) : sWf xs := sWf_of_small fun s hs => by have := h.1 s hs; omega
theorem sWf_may {xs : List Sp} (h : sMay xs = true) : sWf xs := sWf_good ((sMay_good xs).1 h)
end Go.Proofs.Ytmedickofiielaa

namespace Go.Proofs.Ytmedickofiielaa
open Go.RowKit

structure NWf (s q n k a : Int) : Prop where
 s : (Lit.int .i64 s).wf = true
 q : (Lit.int .i64 q).wf = true
 n : (Lit.int .i64 n).wf = true
 k : (Lit.int .i64 k).wf = true
 a : (Lit.int .i64 a).wf = true
end Go.Proofs.Ytmedickofiielaa

namespace Go.Proofs.Ytmedickofiielaa
open Go.RowKit

abbrev Edge := Int × Bool
def spEnd (s : Sp) : Int := IntKind.i64.wrap (s.1 + s.2)
theorem spEnd_ok {s : Sp} (h1 : -100000 ≤ s.1 + s.2) (h2 : s.1 + s.2 ≤ 100000) : spEnd s = s.1 + s.2 := by
 unfold spEnd
 simp only [IntKind.wrap_i64]
 omega
def edL : List Sp → List Edge
 | [] => []
 | s :: r => (s.1, true) :: (spEnd s, false) :: edL r
theorem edL_append : ∀ a b, edL (a ++ b) = edL a ++ edL b
 | [], _ => rfl
 | s :: r, b => by show _ :: _ :: edL (r ++ b) = _; rw [edL_append r b]; rfl
theorem edL_length : ∀ xs, (edL xs).length = xs.length * 2
 | [] => rfl
 | s :: r => by
  show (edL r).length + 1 + 1 = (r.length + 1) * 2
  rw [edL_length r]; omega
theorem edL_take {xs : List Sp} {k : Nat} (hk : k < xs.length) : edL (xs.take (k + 1)) = edL (xs.take k) ++ [((xs.getD k (0, 0)).1, true), (spEnd (xs.getD k (0, 0)), false)] := by
 rw [List.take_succ_eq_append_getElem hk, edL_append, getD_cell hk]
 rfl
theorem edL_part (xs : List Sp) (k : Nat) : ∃ t, edL (xs.take k) ++ t = edL xs := ⟨edL (xs.drop k), by rw [← edL_append, List.take_append_drop]⟩

def edOk (last : Int) : List Edge → Bool
 | [] => true
 | e :: r => decide (last < e.1 ∧ e.1 ≤ 20000) && edOk e.1 r
def edLast (last : Int) (l : List Edge) : Int := l.foldl (fun _ e => e.1) last
theorem edLast_snoc (last : Int) (l : List Edge) (e : Edge) : edLast last (l ++ [e]) = e.1 := by simp [edLast]
theorem edOk_append : ∀ (last : Int) (a b : List Edge), edOk last (a ++ b) = (edOk last a && edOk (edLast last a) b)
 | last, [], b => by simp [edOk, edLast]
 | last, e :: r, b => by
  show (decide _ && edOk e.1 (r ++ b)) = ((decide _ && edOk e.1 r) && edOk (edLast e.1 r) b)
  rw [edOk_append e.1 r b, Bool.and_assoc]
theorem edOk_snoc {last : Int} {a : List Edge} {e : Edge} (h : edOk last a = true) : edOk last (a ++ [e]) = decide (edLast last a < e.1 ∧ e.1 ≤ 20000) := by
 rw [edOk_append, h, Bool.true_and]
 simp [edOk]
theorem edOk_part {last : Int} {a b : List Edge} (h : edOk last (a ++ b) = true) : edOk last a = true := by
 rw [edOk_append, Bool.and_eq_true] at h
 exact h.1
theorem edOk_may : ∀ (xs : List Sp) (last : Int), -1 ≤ last → sWf xs → edOk last (edL xs) = sMayF last xs
 | [], _, _, _ => rfl
 | s :: r, last, h0, hw => by
  obtain ⟨w1, w2⟩ := hw s (List.mem_cons_self ..)
  have w1 := wf_i64 w1
  have w2 := wf_i64 w2
  show (decide (last < s.1 ∧ s.1 ≤ 20000) && (decide (s.1 < spEnd s ∧ spEnd s ≤ 20000) && edOk (spEnd s) (edL r))) = (decide (1 ≤ s.2 ∧ last < s.1 ∧ s.1 ≤ 20000 ∧ s.2 ≤ 20000 - s.1) && sMayF (s.1 + s.2) r)
  by_cases h1 : last < s.1 ∧ s.1 ≤ 20000
  ·have hE : spEnd s = s.1 + s.2 ∨ (9223372036854775807 < s.1 + s.2 ∧ spEnd s < 0) := by
    unfold spEnd
    simp only [IntKind.wrap_i64]
    omega
   rw [decide_eq_true h1, Bool.true_and]
   by_cases h2 : s.1 < spEnd s ∧ spEnd s ≤ 20000
   ·have e : spEnd s = s.1 + s.2 := by omega
    rw [decide_eq_true h2, decide_eq_true (show 1 ≤ s.2 ∧ last < s.1 ∧ s.1 ≤ 20000 ∧ s.2 ≤ 20000 - s.1 by omega), e]
    congr 1
    exact edOk_may r (s.1 + s.2) (by omega) (fun t ht => hw t (List.mem_cons_of_mem _ ht))
   ·rw [decide_eq_false h2, decide_eq_false (show ¬ (1 ≤ s.2 ∧ last < s.1 ∧ s.1 ≤ 20000 ∧ s.2 ≤ 20000 - s.1) by omega)]
    rfl
  ·rw [decide_eq_false h1, decide_eq_false (show ¬ (1 ≤ s.2 ∧ last < s.1 ∧ s.1 ≤ 20000 ∧ s.2 ≤ 20000 - s.1) by omega)]
   rfl
theorem edOk_sMay {xs : List Sp} (h : sWf xs) : edOk (-1) (edL xs) = sMay xs := edOk_may xs (-1) (Int.le_refl _) h
theorem sGood_tail {s : Sp} {r : List Sp} (h : sGood (s :: r)) : sGood r := ⟨fun a ha => h.1 a (List.mem_cons_of_mem _ ha), (List.pairwise_cons.1 h.2).2⟩
theorem sGood_end {xs : List Sp} (h : sGood xs) {s : Sp} (hs : s ∈ xs) : spEnd s = s.1 + s.2 := by
 have := h.1 s hs
 exact spEnd_ok (by omega) (by omega)
def edIn (i : Int) : Bool → List Edge → Bool
 | b, [] => b
 | b, e :: r => if i < e.1 then b else edIn i e.2 r
theorem edIn_has (i : Int) : ∀ (xs : List Sp), sGood xs → edIn i false (edL xs) = hasI xs i
 | [], _ => rfl
 | s :: r, h => by
  have hs := h.1 s (List.mem_cons_self ..)
  have he := sGood_end h (List.mem_cons_self ..)
  obtain ⟨p1, p2⟩ := List.pairwise_cons.1 h.2
  show (if i < s.1 then false else if i < spEnd s then true else edIn i false (edL r)) = (decide (s.1 ≤ i ∧ i < s.1 + s.2) || hasI r i)
  rw [he]
  by_cases h1 : i < s.1
  ·rw [if_pos h1, decide_eq_false (by omega), Bool.false_or]
   cases hz : hasI r i with
   | false => rfl
   | true =>
    obtain ⟨a, ha, h2⟩ := List.any_eq_true.1 hz
    have := of_decide_eq_true h2
    have := p1 a ha
    omega
  ·rw [if_neg h1]
   by_cases h2 : i < s.1 + s.2
   ·rw [if_pos h2, decide_eq_true (by omega), Bool.true_or]
   ·rw [if_neg h2, decide_eq_false (by omega), Bool.false_or]
    exact edIn_has i r (sGood_tail h)
def edSum (p : Int) : List Edge → Int
 | [] => 0
 | e :: r => (if e.2 then -(min e.1 p) else min e.1 p) + edSum p r
theorem edSum_append (p : Int) : ∀ a b, edSum p (a ++ b) = edSum p a + edSum p b
 | [], b => by simp [edSum]
 | e :: r, b => by
  show _ + edSum p (r ++ b) = _ + edSum p r + edSum p b
  rw [edSum_append p r b]
  omega
theorem edSum_snoc (p : Int) (a : List Edge) (e : Edge) : edSum p (a ++ [e]) = edSum p a + (if e.2 then -(min e.1 p) else min e.1 p) := by
 rw [edSum_append]
 simp [edSum]
theorem cntTo_or (f g : Nat → Bool) (h : ∀ i, f i = true → g i = false) : ∀ k, cntTo (fun i => f i || g i) k = cntTo f k + cntTo g k
 | 0 => rfl
 | k + 1 => by
  have := cntTo_or f g h k
  show cntTo (fun i => f i || g i) k + _ = cntTo f k + _ + (cntTo g k + _)
  have hk := h k
  cases hf : f k <;> cases hg : g k <;> simp [hf, hg] at hk ⊢ <;> omega
theorem cntTo_sp (s : Sp) (h0 : 0 ≤ s.1) (h1 : 0 ≤ s.2) : ∀ k : Nat, (cntTo (spHas s) k : Int) = min (s.1 + s.2) k - min s.1 k
 | 0 => by show ((0 : Nat) : Int) = _; omega
 | k + 1 => by
  have ih := cntTo_sp s h0 h1 k
  rw [cntTo_next]
  cases hf : spHas s k with
  | true =>
   have := of_decide_eq_true hf
   simp
   omega
  | false =>
   have := of_decide_eq_false hf
   simp
   omega
theorem edSum_cnt (k : Nat) : ∀ (xs : List Sp), sGood xs → edSum k (edL xs) = cntTo (sMark xs) k
 | [], _ => by
  show (0 : Int) = _
  rw [show cntTo (sMark []) k = cntTo (fun _ => false) k from rfl]
  have := cntTo_none (f := fun _ => false) (k := 0) (n := k) fun _ _ _ => rfl
  rw [Nat.zero_add] at this
  rw [this]
  rfl
 | s :: r, h => by
  have hs := h.1 s (List.mem_cons_self ..)
  have he := sGood_end h (List.mem_cons_self ..)
  obtain ⟨p1, p2⟩ := List.pairwise_cons.1 h.2
  have e1 : cntTo (sMark (s :: r)) k = cntTo (spHas s) k + cntTo (sMark r) k := by
   rw [← cntTo_or]
   ·rfl
   ·intro i hi
    have hi := of_decide_eq_true hi
    cases hz : sMark r i with
    | false => rfl
    | true =>
     obtain ⟨a, ha, _, _⟩ := (sMark_iff r i).1 hz
     have := p1 a ha
     omega
  have e2 := cntTo_sp s hs.2.1 (by omega) k
  have ih := edSum_cnt k r (sGood_tail h)
  rw [e1]
  show -(min s.1 (k : Int)) + (min (spEnd s) (k : Int) + edSum k (edL r)) = _
  rw [he, ih]
  omega
theorem edSum_low (p : Int) : ∀ (xs : List Sp), sGood xs → p ≤ 0 → edSum p (edL xs) = 0
 | [], _, _ => rfl
 | s :: r, h, hp => by
  have hs := h.1 s (List.mem_cons_self ..)
  have he := sGood_end h (List.mem_cons_self ..)
  show -(min s.1 p) + (min (spEnd s) p + edSum p (edL r)) = _
  rw [he, edSum_low p r (sGood_tail h) hp]
  omega
theorem edSum_high (p : Int) : ∀ (xs : List Sp), sGood xs → 20000 ≤ p → edSum p (edL xs) = edSum 20000 (edL xs)
 | [], _, _ => rfl
 | s :: r, h, hp => by
  have hs := h.1 s (List.mem_cons_self ..)
  have he := sGood_end h (List.mem_cons_self ..)
  show -(min s.1 p) + (min (spEnd s) p + edSum p (edL r)) = -(min s.1 20000) + (min (spEnd s) 20000 + edSum 20000 (edL r))
  rw [he, edSum_high p r (sGood_tail h) hp]
  omega
theorem edSum_all {xs : List Sp} (h : sGood xs) (p : Int) : edSum p (edL xs) = (cntTo (sMark xs) (min 20000 p.toNat) : Nat) := by
 rw [← edSum_cnt _ xs h]
 rcases (show p < 0 ∨ 0 ≤ p by omega) with g | g
 ·rw [edSum_low p xs h (by omega), show min 20000 p.toNat = 0 by omega]
  exact (edSum_low 0 xs h (Int.le_refl _)).symm
 ·rcases (show p < 20000 ∨ 20000 ≤ p by omega) with k | k
  ·congr 1; omega
  ·rw [edSum_high p xs h k, show min 20000 p.toNat = 20000 by omega]
   rfl
def putL (l : List Sp) (a b : Int) : List Sp :=
 if a = b then l else match l.getLast? with
  | none => [(a, b - a)]
  | some s => if a ≤ s.1 + s.2 then l.dropLast ++ [(s.1, max (s.1 + s.2) b - s.1)] else l ++ [(a, b - a)]
theorem putL_same (l : List Sp) (a : Int) : putL l a a = l := if_pos rfl
theorem putL_nil {a b : Int} (h : a ≠ b) : putL [] a b = [(a, b - a)] := by unfold putL; rw [if_neg h]; rfl
theorem putL_touch {r : List Sp} {s : Sp} {a b : Int} (h : a ≠ b) (h1 : a ≤ s.1 + s.2) : putL (r ++ [s]) a b = r ++ [(s.1, max (s.1 + s.2) b - s.1)] := by
 unfold putL
 rw [if_neg h]
 simp [h1]
theorem putL_new {r : List Sp} {s : Sp} {a b : Int} (h : a ≠ b) (h1 : ¬ a ≤ s.1 + s.2) : putL (r ++ [s]) a b = (r ++ [s]) ++ [(a, b - a)] := by
 unfold putL
 rw [if_neg h]
 simp [h1]
theorem list_end {l : List Sp} (h : l ≠ []) : ∃ r s, l = r ++ [s] := ⟨l.dropLast, l.getLast h, (List.dropLast_concat_getLast h).symm⟩
structure PutOK (l : List Sp) (a : Int) : Prop where
 good : sGood l
 beg : ∀ s ∈ l, s.1 ≤ a
theorem PutOK.nil (a : Int) : PutOK [] a := ⟨⟨fun s hs => (by cases hs), List.Pairwise.nil⟩, fun s hs => (by cases hs)⟩
theorem PutOK.mono {l : List Sp} {a b : Int} (h : PutOK l a) (hab : a ≤ b) : PutOK l b := ⟨h.good, fun s hs => Int.le_trans (h.beg s hs) hab⟩
theorem putL_ok {l : List Sp} {a b : Int} (h : PutOK l a) (h0 : 0 ≤ a) (h1 : a ≤ b) (h2 : b ≤ 20000) :
  PutOK (putL l a b) a ∧ ∀ i : Nat, sMark (putL l a b) i = (sMark l i || decide (a ≤ (i : Int) ∧ (i : Int) < b)) := by
 by_cases hab : a = b
 ·subst hab
  rw [putL_same]
  exact ⟨h, fun i => by rw [decide_eq_false (by omega), Bool.or_false]⟩
 ·by_cases hl : l = []
  ·subst hl
   rw [putL_nil hab]
   refine ⟨⟨⟨fun s hs => ?_, by simp⟩, fun s hs => ?_⟩, fun i => ?_⟩
   ·simp at hs; subst hs; dsimp only; omega
   ·simp at hs; subst hs; dsimp only; omega
   ·simp only [sMark, spHas, List.any_cons, List.any_nil, Bool.or_false, Bool.false_or]
    exact decide_eq_decide.2 (by omega)
  ·obtain ⟨r, s, rfl⟩ := list_end hl
   have hs := h.good.1 s (by simp)
   have hb := h.beg s (by simp)
   obtain ⟨g1, g2, g3⟩ := List.pairwise_append.1 h.good.2
   by_cases ht : a ≤ s.1 + s.2
   ·rw [putL_touch hab ht]
    refine ⟨⟨⟨fun t hT => ?_, List.pairwise_append.2 ⟨g1, by simp, fun x hx y hy => ?_⟩⟩, fun t hT => ?_⟩, fun i => ?_⟩
    ·rcases List.mem_append.1 hT with hT | hT
     ·exact h.good.1 t (List.mem_append_left _ hT)
     ·simp at hT; subst hT; dsimp only; omega
    ·simp at hy; subst hy
     have := g3 x hx s (by simp)
     exact this
    ·rcases List.mem_append.1 hT with hT | hT
     ·exact h.beg t (List.mem_append_left _ hT)
     ·simp at hT; subst hT; exact hb
    ·rw [sMark_append, sMark_append, Bool.or_assoc]
     congr 1
     simp only [sMark, spHas, List.any_cons, List.any_nil, Bool.or_false]
     rw [← Bool.decide_or]
     exact decide_eq_decide.2 (by omega)
   ·rw [putL_new hab ht]
    refine ⟨⟨⟨fun t hT => ?_, List.pairwise_append.2 ⟨h.good.2, by simp, fun x hx y hy => ?_⟩⟩, fun t hT => ?_⟩, fun i => ?_⟩
    ·rcases List.mem_append.1 hT with hT | hT
     ·exact h.good.1 t hT
     ·simp at hT; subst hT; dsimp only; omega
    ·simp at hy; subst hy
     show x.1 + x.2 < a
     rcases List.mem_append.1 hx with hx | hx
     ·have := g3 x hx s (by simp)
      omega
     ·simp at hx; subst hx; omega
    ·rcases List.mem_append.1 hT with hT | hT
     ·exact h.beg t hT
     ·simp at hT; subst hT; exact Int.le_refl _
    ·rw [sMark_append]
     congr 1
     simp only [sMark, spHas, List.any_cons, List.any_nil, Bool.or_false]
     exact decide_eq_decide.2 (by omega)
def edNext : List Edge → Int
 | [] => 20001
 | e :: _ => e.1
def edPass (at' : Int) (i : Bool) : List Edge → Bool
 | [] => i
 | e :: _ => if e.1 = at' then e.2 else i
def edRest (at' : Int) : List Edge → List Edge
 | [] => []
 | e :: r => if e.1 = at' then r else e :: r
structure SideOK (A : Int → Bool) (r : List Edge) (b : Bool) (k : Int) : Prop where
 up : r.Pairwise fun x y => x.1 ≤ y.1
 bnd : ∀ e ∈ r, k ≤ e.1 ∧ e.1 ≤ 20000
 now : ∀ i, k ≤ i → A i = edIn i b r
theorem edNext_le {A : Int → Bool} {r : List Edge} {b : Bool} {k : Int} (h : SideOK A r b k) (hk : k ≤ 20000) : k ≤ edNext r := by
 cases r with
 | nil => show k ≤ 20001; omega
 | cons e r => exact (h.bnd e (List.mem_cons_self ..)).1
theorem edNext_some {A : Int → Bool} {r : List Edge} {b : Bool} {k : Int} (h : SideOK A r b k) (hr : r ≠ []) : edNext r ≤ 20000 := by
 cases r with
 | nil => exact absurd rfl hr
 | cons e r => exact (h.bnd e (List.mem_cons_self ..)).2
theorem SideOK.here {A : Int → Bool} {r : List Edge} {b : Bool} {k i : Int} (h : SideOK A r b k) (h1 : k ≤ i) (h2 : i < edNext r) : A i = b := by
 rw [h.now i h1]
 cases r with
 | nil => rfl
 | cons e r => exact if_pos h2
theorem SideOK.pass {A : Int → Bool} {r : List Edge} {b : Bool} {k p : Int} (h : SideOK A r b k) (h1 : k ≤ p) (h2 : p ≤ edNext r) : SideOK A (edRest p r) (edPass p b r) p := by
 cases r with
 | nil => exact ⟨List.Pairwise.nil, fun e he => (by cases he), fun i hi => h.now i (by omega)⟩
 | cons e r =>
  obtain ⟨p1, p2⟩ := List.pairwise_cons.1 h.up
  have he := h.bnd e (List.mem_cons_self ..)
  have h2 : p ≤ e.1 := h2
  by_cases g : e.1 = p
  ·have e1 : edRest p (e :: r) = r := if_pos g
   have e2 : edPass p b (e :: r) = e.2 := if_pos g
   rw [e1, e2]
   refine ⟨p2, fun x hx => ⟨by have := p1 x hx; omega, (h.bnd x (List.mem_cons_of_mem _ hx)).2⟩, fun i hi => ?_⟩
   rw [h.now i (by omega)]
   exact if_neg (by omega)
  ·have e1 : edRest p (e :: r) = e :: r := if_neg g
   have e2 : edPass p b (e :: r) = b := if_neg g
   rw [e1, e2]
   refine ⟨h.up, fun x hx => ⟨?_, (h.bnd x hx).2⟩, fun i hi => h.now i (by omega)⟩
   rcases List.mem_cons.1 hx with rfl | hx
   ·omega
   ·have := p1 x hx; omega
theorem edRest_length (p : Int) (r : List Edge) : (edRest p r).length ≤ r.length ∧ (edNext r = p → p ≤ 20000 → (edRest p r).length < r.length) := by
 cases r with
 | nil =>
  refine ⟨Nat.le_refl _, fun h h' => ?_⟩
  have h : (20001 : Int) = p := h
  omega
 | cons e r =>
  by_cases g : e.1 = p
  ·have e1 : edRest p (e :: r) = r := if_pos g
   rw [e1]
   exact ⟨by simp, fun _ _ => by simp⟩
  ·have e1 : edRest p (e :: r) = e :: r := if_neg g
   rw [e1]
   exact ⟨Nat.le_refl _, fun h => absurd h g⟩
theorem SideOK.start {xs : List Sp} (h : sGood xs) : SideOK (hasI xs) (edL xs) false 0 := by
 refine ⟨?_, ?_, fun i _ => (edIn_has i xs h).symm⟩
 ·induction xs with
  | nil => exact List.Pairwise.nil
  | cons s r ih =>
   have hs := h.1 s (List.mem_cons_self ..)
   have he := sGood_end h (List.mem_cons_self ..)
   obtain ⟨p1, p2⟩ := List.pairwise_cons.1 h.2
   have low : ∀ e ∈ edL r, s.1 + s.2 ≤ e.1 := by
    intro e he'
    have hr := sGood_tail h
    clear ih h
    induction r with
    | nil => cases he'
    | cons t r ih =>
     have ht := hr.1 t (List.mem_cons_self ..)
     have hte := sGood_end hr (List.mem_cons_self ..)
     have hp := p1 t (List.mem_cons_self ..)
     rcases List.mem_cons.1 he' with rfl | he'
     ·dsimp only; omega
     ·rcases List.mem_cons.1 he' with rfl | he'
      ·dsimp only; omega
      ·exact ih (fun a ha => p1 a (List.mem_cons_of_mem _ ha)) (List.pairwise_cons.1 p2).2 he' (sGood_tail hr)
   refine List.pairwise_cons.2 ⟨fun e he' => ?_, List.pairwise_cons.2 ⟨fun e he' => ?_, ih (sGood_tail h)⟩⟩
   ·rcases List.mem_cons.1 he' with rfl | he'
    ·dsimp only; omega
    ·have := low e he'; dsimp only; omega
   ·have := low e he'; dsimp only; omega
 ·intro e he
  induction xs with
  | nil => cases he
  | cons s r ih =>
   have hs := h.1 s (List.mem_cons_self ..)
   have hse := sGood_end h (List.mem_cons_self ..)
   rcases List.mem_cons.1 he with rfl | he
   ·dsimp only; omega
   ·rcases List.mem_cons.1 he with rfl | he
    ·dsimp only; omega
    ·exact ih (sGood_tail h) he
structure WalkOK (f : Bool → Bool → Bool) (A B : Int → Bool) (ra : List Edge) (ia : Bool) (rb : List Edge) (ib : Bool) (k : Int) (l : List Sp) : Prop where
 low : 0 ≤ k
 high : k ≤ 20000
 a : SideOK A ra ia k
 b : SideOK B rb ib k
 put : PutOK l k
 mark : ∀ i : Nat, sMark l i = (decide ((i : Int) < k) && f (A i) (B i))
theorem WalkOK.step {f : Bool → Bool → Bool} {A B : Int → Bool} {ra rb : List Edge} {ia ib : Bool} {k : Int} {l : List Sp} (h : WalkOK f A B ra ia rb ib k l) (hn : ¬ (ra = [] ∧ rb = [])) (p : Int) (hp : p = min (edNext ra) (edNext rb)) :
  k ≤ p ∧ p ≤ 20000 ∧ WalkOK f A B (edRest p ra) (edPass p ia ra) (edRest p rb) (edPass p ib rb) p (if f ia ib then putL l k p else l) ∧ (edRest p ra).length + (edRest p rb).length < ra.length + rb.length := by
 have a1 := edNext_le h.a h.high
 have b1 := edNext_le h.b h.high
 have hp2 : p ≤ 20000 := by
  by_cases g : ra = []
  ·have := edNext_some h.b (fun e => hn ⟨g, e⟩)
   omega
  ·have := edNext_some h.a g
   omega
 have hkp : k ≤ p := by omega
 have pa := h.a.pass hkp (show p ≤ edNext ra by omega)
 have pb := h.b.pass hkp (show p ≤ edNext rb by omega)
 have la := edRest_length p ra
 have lb := edRest_length p rb
 refine ⟨hkp, hp2, ?_, ?_⟩
 ·have hm : ∀ i : Nat, k ≤ (i : Int) → (i : Int) < p → f (A i) (B i) = f ia ib := fun i h1 h2 => by rw [h.a.here h1 (by omega), h.b.here h1 (by omega)]
  by_cases hf : f ia ib = true
  ·rw [if_pos hf]
   obtain ⟨q1, q2⟩ := putL_ok h.put h.low hkp hp2
   refine ⟨by have := h.low; omega, hp2, pa, pb, q1.mono hkp, fun i => ?_⟩
   rw [q2, h.mark]
   by_cases g : (i : Int) < k
   ·rw [decide_eq_true g, decide_eq_true (show (i : Int) < p by omega), decide_eq_false (by omega), Bool.or_false]
   ·by_cases g2 : (i : Int) < p
    ·rw [decide_eq_false g, decide_eq_true g2, decide_eq_true (by omega), hm i (by omega) g2, hf]
     rfl
    ·rw [decide_eq_false g, decide_eq_false g2, decide_eq_false (by omega)]
     rfl
  ·rw [if_neg hf]
   refine ⟨by have := h.low; omega, hp2, pa, pb, h.put.mono hkp, fun i => ?_⟩
   rw [h.mark]
   by_cases g : (i : Int) < k
   ·rw [decide_eq_true g, decide_eq_true (show (i : Int) < p by omega)]
   ·by_cases g2 : (i : Int) < p
    ·rw [decide_eq_false g, decide_eq_true g2, hm i (by omega) g2]
     simp at hf
     rw [hf]
     rfl
    ·rw [decide_eq_false g, decide_eq_false g2]
 ·have q : edNext ra = p ∨ edNext rb = p := by omega
  rcases q with q | q
  ·have := la.2 q hp2; omega
  ·have := lb.2 q hp2; omega
theorem WalkOK.start {f : Bool → Bool → Bool} {xs ys : List Sp} (hx : sGood xs) (hy : sGood ys) : WalkOK f (hasI xs) (hasI ys) (edL xs) false (edL ys) false 0 [] :=
 ⟨Int.le_refl _, by omega, SideOK.start hx, SideOK.start hy, PutOK.nil 0, fun i => by rw [decide_eq_false (by omega)]; rfl⟩
theorem WalkOK.done {f : Bool → Bool → Bool} (h0 : f false false = false) {xs ys : List Sp} (hx : sGood xs) (hy : sGood ys) {ia ib : Bool} {k : Int} {l : List Sp} (h : WalkOK f (hasI xs) (hasI ys) [] ia [] ib k l) :
  l = sMade (fun j => f (sMark xs j) (sMark ys j)) 20000 := by
 have z : ∀ {zs : List Sp} {b : Bool}, sGood zs → SideOK (hasI zs) [] b k → b = false := by
  intro zs b hz hs
  have e1 := hs.now ((max k 20000).toNat : Nat) (by omega)
  rw [hasI_nat, sMark_beyond hz (by omega)] at e1
  exact e1.symm
 obtain rfl := z hx h.a
 obtain rfl := z hy h.b
 rw [← sMade_self h.put.good]
 refine sMade_congr fun i _ => ?_
 rw [h.mark]
 by_cases g : (i : Int) < k
 ·rw [decide_eq_true g]; rfl
 ·have e1 := h.a.now i (by omega)
  have e2 := h.b.now i (by omega)
  rw [decide_eq_false g]
  show false = f (hasI xs i) (hasI ys i)
  rw [e1, e2]
  exact h0.symm
end Go.Proofs.Ytmedickofiielaa

namespace Go.Proofs.Ytmedickofiielaa
open Go.RowKit

end Go.Proofs.Ytmedickofiielaa

namespace Go.Proofs.Ytmedickofiielaa
open Go.ChangeShapes Go.WideShapes Go.ChangeAt Go.RowKit Go.Deep

theorem cellsSpan : Try.prog.cellsOf 76 = 2 := by kernel_rfl
set_option maxRecDepth 100000 in
theorem open_spans {H : Type} {enc : TypeId × Value → H} {W : World} {r : Reach} {b0 : Nat} {v : Value} {d : DataW H} {ps : List MemPlace} (hval : Value.okWide Try.prog W r b0 24 v)
  (hd : DataW.Trod enc Try.prog W 0 (fun _ => true) true 24 v d ps) : ∃ xs : List Sp, SpAt W v xs ∧ xs.length ≤ maxLen ∧ ∀ s ∈ xs, (Lit.int .i64 s.1).wf = true ∧ (Lit.int .i64 s.2).wf = true := by
 obtain ⟨a0, len, cap, rfl⟩ := okWide_slice Try.underlying24 hval
 obtain ⟨fuel, hf⟩ := hd
 rcases open_slice Try.underlying24 hf with ⟨hcs, _⟩ | ⟨a, len', cap', m, n, D, Pl, hcs, _, hl, hm, hmm, _, hx⟩
 ·simp [Value.cells] at hcs
  obtain ⟨rfl, rfl, rfl⟩ := hcs
  exact ⟨[], SpAt.nil W, Nat.zero_le _, by simp⟩
 ·simp [Value.cells] at hcs
  obtain ⟨rfl, rfl, rfl⟩ := hcs
  simp only [if_true] at hmm
  obtain ⟨b, off, spot⟩ := a
  have key : ∀ i, i < len → ∃ s : Sp, spot = none ∧ W.cell? ⟨b, off + i * 2, none⟩ = some (.int .i64 s.1) ∧ W.cell? ⟨b, off + i * 2 + 1, none⟩ = some (.int .i64 s.2) ∧ (Lit.int .i64 s.1).wf = true ∧ (Lit.int .i64 s.2).wf = true := by
   intro i hi
   obtain ⟨cs, hc, ht⟩ := hx i (by omega)
   rw [cellsSpan] at hc
   obtain ⟨xs, k, _, _, _, hxl, hfd⟩ := DataW.trod_struct Try.underlying76 ht
   obtain ⟨_, hlen, hcell⟩ := World.cells?_some hc
   match cs, hlen, xs, hxl with
   | [c0, c1], _, [y0, y1], _ =>
    have g0 : DataW.trod enc Try.prog W 0 (fun _ => true) true k 3 [c0] = some y0 := hfd 0 _ rfl
    have g1 : DataW.trod enc Try.prog W 0 (fun _ => true) true k 3 [c1] = some y1 := hfd 1 _ rfl
    obtain ⟨x0, e0, _, w0⟩ := DataW.trod_int Try.underlying3 g0
    obtain ⟨x1, e1, _, w1⟩ := DataW.trod_int Try.underlying3 g1
    cases e0
    cases e1
    have h0 := hcell 0 (by decide)
    have h1 := hcell 1 (by decide)
    have hs : spot = none := by
     obtain ⟨cs2, hc2, ht2⟩ := hx 0 (by omega)
     rw [cellsSpan] at hc2
     obtain ⟨_, hlen2, hcell2⟩ := World.cells?_some hc2
     have hz := hcell2 0 (by decide)
     match cs2, hlen2, hz with
     | [e0, e1], _, hz => simpa [Addr.add] using World.cell?_spot (v := e0) hz
    subst hs
    simp only [add_plain, Nat.add_zero] at h0 h1
    exact ⟨(x0, x1), rfl, h0, h1, w0, w1⟩
  haveI : Inhabited Sp := ⟨(0, 0)⟩
  obtain ⟨f, hf'⟩ := choose_lt (α := Sp) key
  have hL : ((List.range len).map f).length = len := by simp
  refine ⟨(List.range len).map f, ⟨some ⟨b, off, spot⟩, cap, by rw [hL], fun hne => ?_⟩, by rw [hL]; omega, fun s hs => ?_⟩
  ·have h0 : 0 < len := by
    rcases Nat.eq_zero_or_pos len with h | h
    ·subst h; exact absurd rfl hne
    ·exact h
   obtain ⟨rfl, _⟩ := hf' 0 h0
   refine ⟨b, off, rfl, fun i hi => ?_⟩
   rw [hL] at hi
   rw [show ((List.range len).map f).getD i (0, 0) = f i by simp [List.getD, hi]]
   exact ⟨(hf' i hi).2.1, (hf' i hi).2.2.1⟩
  ·obtain ⟨i, hi, rfl⟩ := List.mem_map.1 hs
   exact (hf' i (List.mem_range.1 hi)).2.2.2
end Go.Proofs.Ytmedickofiielaa

namespace Go.Proofs.Ytmedickofiielaa
open Go.ChangeShapes Go.WideShapes Go.ChangeAt Go.RowKit Go.Deep

theorem cellsMark : Try.prog.cellsOf 23 = 3 := by kernel_rfl
set_option maxRecDepth 100000 in
theorem open_mark {H : Type} {enc : TypeId × Value → H} {W : World} {r : Reach} {b0 : Nat} {v : Value} {d : DataW H} {ps : List MemPlace} (hval : Value.okWide Try.prog W r b0 23 v)
  (hd : DataW.Trod enc Try.prog W 0 (fun _ => true) true 23 v d ps) : ∃ s a t, v = mkA s a t ∧ (Lit.int .i64 s).wf = true ∧ (Lit.int .i64 a).wf = true ∧ (Lit.int .i64 t).wf = true := by
 simp only [Value.okWide, Try.underlying23] at hval
 obtain ⟨cs, rfl, hsz, _⟩ := hval
 rw [cellsMark] at hsz
 obtain ⟨l⟩ := cs
 obtain ⟨fuel, hf⟩ := hd
 obtain ⟨xs, m, _, _, _, hl, hg⟩ := DataW.trod_struct Try.underlying23 hf
 match l, hsz, xs, hl with
 | [c0, c1, c2], _, [y0, y1, y2], _ =>
  have g0 : DataW.trod enc Try.prog W 0 (fun _ => true) true m 3 [c0] = some y0 := hg 0 _ rfl
  have g1 : DataW.trod enc Try.prog W 0 (fun _ => true) true m 3 [c1] = some y1 := hg 1 _ rfl
  have g2 : DataW.trod enc Try.prog W 0 (fun _ => true) true m 3 [c2] = some y2 := hg 2 _ rfl
  obtain ⟨h0, e0, _, w0⟩ := DataW.trod_int Try.underlying3 g0
  obtain ⟨h1, e1, _, w1⟩ := DataW.trod_int Try.underlying3 g1
  obtain ⟨h2, e2, _, w2⟩ := DataW.trod_int Try.underlying3 g2
  cases e0; cases e1; cases e2
  exact ⟨h0, h1, h2, rfl, w0, w1, w2⟩
end Go.Proofs.Ytmedickofiielaa
