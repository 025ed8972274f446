/- Texts of this proof, joined. -/
import Derived.Test.YtmedickofiielaaGreatDoorGSpPut
import Derived.RangeFuncNested
import Derived.RangeFuncBound
import Derived.RangeFuncCalls
import Derived.RangeFuncLeaves
import Derived.RangeFuncBox
import Derived.Shelf.Abstract
import Derived.Shelf.RegionOpen
import Derived.WalkKit
import Derived.WalkSpells
import Derived.OwnWalkIn
import Derived.TacticsInMore
import Derived.LoopNIn
import Derived.LoopIn
import Derived.Lib.Hide
import Derived.Lib.PathFns
import Derived.Outline
import Derived.Test.YtmedickofiielaaGreatDoorGReads64
import Derived.Maps.AppendAt
import Derived.Test.YtmedickofiielaaGreatDoorGNameEq
namespace Go.Proofs.YtmedickofiielaaGreatDoor
open Go.RowKit Go.Shelf
attribute [local go_sem] Oper.semAt_some

abbrev encE (p : Edge) : Array Value := #[.int .i64 p.1, .bool p.2]
def KS (n₀ : Nat) (W W' : World) : Prop := Below n₀ W W' ∧ ∀ (i : Nat) (c : Array Value) (fr : Nat × Nat), W.heap[i]? = some (.cells c 120 fr) → W'.heap[i]? = some (.cells c 120 fr)
theorem ks_t {n₀ : Nat} {X Y Z : World} (h : KS n₀ X Y) (k : KS n₀ Y Z) : KS n₀ X Z := ⟨h.1.trans k.1, fun i c fr q => k.2 i c fr (h.2 i c fr q)⟩
theorem ks_b {n₀ : Nat} {w : World} (hn : n₀ ≤ w.heap.size) (W : World) (l : Nat) (o o' : Obj) (hl : w.heap.size ≤ l) (h : W.heap[l]? = some o) (hc : o.isCells = false) (hw : o.isWalk = false) : KS n₀ W (W.putObj l o') := by
 refine ⟨belowK_b hn W l o o' hl h hc hw, fun i c fr q => ?_⟩
 by_cases e : i = l
 ·subst e
  rw [q] at h
  cases h
  cases hc
 ·rw [World.putObj_heap_other (by omega)]
  exact q
theorem KS.refl (n₀ : Nat) (W : World) : KS n₀ W W := ⟨Below.refl _ _, fun _ _ _ q => q⟩
theorem KS.set {n₀ B : Nat} {W : World} {t : TypeId} {v u : Value} (hB : Boxed W B t v) (ht : t ≠ 120) (hn : n₀ ≤ B) : KS n₀ W (W.setCell ⟨B, 0, none⟩ u) := by
 refine ⟨(Below.refl n₀ W).setCell (p := ⟨B, 0, none⟩) hn u, fun i c fr q => ?_⟩
 by_cases e : i = B
 ·subst e
  rw [show W.heap[i]? = _ from hB] at q
  cases q
  exact absurd rfl ht
 ·rw [Below.heap_setCell _ _ _ _ e]
  exact q
theorem KS.alloc {n₀ : Nat} {W : World} (hn : n₀ ≤ W.heap.size) (o : Obj) : KS n₀ W (W.alloc o) :=
 ⟨(Below.refl n₀ W).alloc hn o, fun i c fr q => by rw [Below.heap_alloc _ _ _ (Array.getElem?_eq_some_iff.1 q).1]; exact q⟩

set_option maxRecDepth 100000 in
set_option maxHeartbeats 2000000 in
theorem edges1_in (n : Nat) (hn : 1 ≤ n) (l B n₀ : Nat) (v : Value) (xs : List Sp) (hx : xs.length ≤ 2000000) (w₀ : World) (h₀ : n₀ = w₀.heap.size) (hR : SpAt w₀ v xs) (J Jx : List Edge → World → Prop)
  (hY : ∀ pre x W, J pre W → pre.length < xs.length * 2 + 1 → YieldAt Fence.wide (n - 1) Tryz.prog l (encE x) W fun e W' =>
   (e = .returned (.bool true) ∧ J (pre ++ [x]) W' ∧ KS n₀ W W') ∨ (e = .returned (.bool false) ∧ Jx (pre ++ [x]) W'))
  (W : World) (hb0 : Below n₀ w₀ W) (hJ : AbidesFrom W.heap.size J) (hB : W.cell? ⟨B, 0, none⟩ = some v) (h0 : J [] W) :
  CallsIn Fence.wide n Tryz.prog 87 #[.func (.yield l) #[] #[], .pointer (some ⟨B, 0, none⟩)] W fun e W' => (∃ v, e = .returned v) ∧
   ((∃ ys, ys = edL xs ∧ J ys W') ∨ (∃ pre, pre <+: edL xs ∧ Jx pre W')) := by
 have hRw := fun W' (h : Below n₀ w₀ W') => hR.below (h₀ ▸ h)
 have hE := fun s W => spEnd_any s W
 obtain ⟨ao, cap, rfl, _⟩ := id hR
 obtain ⟨N, hN⟩ : ∃ N, xs.length = N := ⟨_, rfl⟩
 rw [hN] at hB hx hY
 have HN := Lib.hid hN
 refine callsIn_of_wp Tryz.func87 rfl trivial ?_ rfl
 simp only [Tryz.ntmps87, List.size_toArray, List.length_cons, List.length_nil, Nat.reduceAdd, Nat.reduceSub, Array.replicate_succ, Array.replicate_zero, List.push_toArray, List.append_toArray, List.nil_append, List.cons_append]
 gi_wp2
 gi_loopw [7] (fun p wr => ∃ k : Nat, p = .int .i64 k ∧ k ≤ N ∧ J (edL (xs.take k)) wr ∧ Below n₀ w₀ wr)
  (fun p _ => N - (intOf p).toNat)
 case atStart => exact ⟨0, rfl, Nat.zero_le _, by rw [List.take_zero]; exact h0, hb0⟩
 case round =>
  obtain ⟨k, rfl, hk, hJs, hbw⟩ := hrel
  by_cases hlt : k < N
  ·have hkx : k < xs.length := by omega
   obtain ⟨b, off, cap', hv, c0, c1⟩ := (hRw _ hbw).at hkx
   cases hv
   have hnx := edL_take hkx
   have hgrow : ∀ w1, Below wr.heap.size wr w1 → wr.grownBy w1 none := fun w1 hb => ⟨hb.os, hb.tape, hb.output, hb.size, fun i hi _ => hb.block i hi⟩
   have hJ1 : ∀ w1, Below wr.heap.size wr w1 → J (edL (xs.take k)) w1 := fun w1 hb => hJ _ wr w1 none hJs (hgrow w1 hb) (fun r e => by cases e)
   have hpre := edL_length (xs.take k)
   rw [List.length_take] at hpre
   obtain ⟨p, hp⟩ : ∃ p, (xs.getD k (0, 0)).1 = p := ⟨_, rfl⟩
   obtain ⟨q, hq⟩ : ∃ q, (xs.getD k (0, 0)).2 = q := ⟨_, rfl⟩
   obtain ⟨E, hEE⟩ : ∃ E, spEnd (xs.getD k (0, 0)) = E := ⟨_, rfl⟩
   have hE := fun W => hE (xs.getD k (0, 0)) W
   rw [hp, hq, hEE] at hE
   rw [hp, hEE] at hnx
   rw [hp] at c0
   rw [hq] at c1
   have Hnx := Lib.hid hnx
   have HJ1 := Lib.hid hJ1
   have HJs := Lib.hid hJs
   have HbW := Lib.hid hbw
   have HRw := Lib.hid hRw
   have HR := Lib.hid hR
   have hki : (0 : Int) ≤ (k : Int) ∧ (k : Int) < (N : Int) := ⟨by omega, by omega⟩
   clear hnx hJ1 hgrow hp hq hEE hRw hR hJs hbw hN
   have hb1 : Below wr.heap.size wr (wr.alloc (.cells #[.int .i64 p, .int .i64 q] 120)) := (Below.refl _ wr).alloc (Nat.le_refl _) _
   have hbox : (wr.alloc (.cells #[.int .i64 p, .int .i64 q] 120)).heap[wr.heap.size]? = some (.cells #[.int .i64 p, .int .i64 q] 120 (0, 0)) := World.alloc_heap_new wr _
   have hw1 : Below n₀ w₀ (wr.alloc (.cells #[.int .i64 p, .int .i64 q] 120)) := HbW.out.trans (hb1.mono (by have := HbW.out.size; omega))
   obtain ⟨fn, tmps, assign, body, hy, hRnd⟩ := hY (edL (xs.take k)) (p, true) _ (HJ1.out _ hb1) (by omega)
   dsimp only [encE] at hy
   gi_wp2
   try (rw [hy]; gi_wp2)
   refine hRnd.mono ?_
   clear hy hRnd hb1
   rintro e W3 (⟨rfl, hJ3, hk3⟩ | ⟨rfl, hJx3⟩)
   ·have hw3 : Below n₀ w₀ W3 := hw1.trans hk3.1
    have hbx3 := hk3.2 _ _ _ hbox
    have d0 : W3.cell? ⟨wr.heap.size, 0, none⟩ = some (.int .i64 p) := by simp [World.cell?, hbx3]
    have d1 : W3.cell? ⟨wr.heap.size, 1, none⟩ = some (.int .i64 q) := by simp [World.cell?, hbx3]
    have hgrow : ∀ w1, Below W3.heap.size W3 w1 → W3.grownBy w1 none := fun w1 hb => ⟨hb.os, hb.tape, hb.output, hb.size, fun i hi _ => hb.block i hi⟩
    have hb4 : Below W3.heap.size W3 (W3.alloc (.cells #[.int .i64 p, .int .i64 q] 120)) := (Below.refl _ W3).alloc (Nat.le_refl _) _
    have hJ4 : J (edL (xs.take k) ++ [(p, true)]) (W3.alloc (.cells #[.int .i64 p, .int .i64 q] 120)) := hJ _ W3 _ none hJ3 (hgrow _ hb4) (fun r e => by cases e)
    have hw4 : Below n₀ w₀ (W3.alloc (.cells #[.int .i64 p, .int .i64 q] 120)) := hw3.trans (hb4.mono (by have := hw3.size; omega))
    obtain ⟨fn2, tmps2, assign2, body2, hy2, hRnd2⟩ := hY (edL (xs.take k) ++ [(p, true)]) (E, false) _ hJ4 (by simp; omega)
    dsimp only [encE] at hy2
    have HW4 := Lib.hid hw4
    clear hw4 hJ4 hJ3 hk3 hbx3 hbox hw3 hw1 hb4 hgrow hJ
    gi_wp2_with (refine ⟨trivial, ?_⟩; gi_at_call 88; refine (callsIn_wide.2 (hE _)).mono ?_; clear hE; rintro e _ ⟨rfl, rfl⟩)
    try (rw [hy2]; gi_wp2)
    refine hRnd2.mono ?_
    clear hy2 hRnd2
    rintro e W5 (⟨rfl, hJ5, hk5⟩ | ⟨rfl, hJx5⟩)
    ·have hw5 : Below n₀ w₀ W5 := HW4.out.trans hk5.1
     rw [List.append_assoc, show [((p, true) : Edge)] ++ [(E, false)] = [(p, true), (E, false)] from rfl, ← Hnx.out] at hJ5
     gi_wp2
     go_roundw
     case rel => exact ⟨k + 1, by go_num, by omega, hJ5, hw5⟩
     case measure => simp [intOf]; omega
    ·gi_wp2
     refine bodyPost_ret (results_none rfl _ _ _) rfl ?_
     obtain ⟨t, ht⟩ := edL_part xs (k + 1)
     exact ⟨⟨_, rfl⟩, .inr ⟨_, ⟨t, by rw [← ht, Hnx.out]; simp⟩, hJx5⟩⟩
   ·gi_wp2_with (refine ⟨fun _ h => (by cases h <;> exact trivial), ?_⟩)
    refine bodyPost_ret (results_none rfl _ _ _) rfl ?_
    obtain ⟨t, ht⟩ := edL_part xs (k + 1)
    exact ⟨⟨_, rfl⟩, .inr ⟨_, ⟨(E, false) :: t, by rw [← ht, Hnx.out]; simp⟩, hJx3⟩⟩
  ·obtain rfl : k = N := by omega
   have hall : edL (xs.take k) = edL xs := by rw [List.take_of_length_le (by omega)]
   rw [hall] at hJs
   gi_wp2
   go_end0
   exact ⟨⟨_, rfl⟩, .inl ⟨_, rfl, hJs⟩⟩

theorem edges_stops (n : Nat) (hn : 1 ≤ n) (B : Nat) (v : Value) (xs : List Sp) (hx : xs.length ≤ 2000000) (w₀ : World) (hR : SpAt w₀ v xs) (w : World) (hb0 : Below w₀.heap.size w₀ w) (hBw : B < w.heap.size) (hB : w.cell? ⟨B, 0, none⟩ = some v) :
  SeqStopsK Fence.wide n Tryz.prog 87 #[.pointer (some ⟨B, 0, none⟩)] encE (KS w₀.heap.size) (fun ys => ys = edL xs) (fun pre => pre <+: edL xs) (xs.length * 2 + 1) w := fun l J Jx W hW hJ _ hY h0 =>
 edges1_in n hn l B w₀.heap.size v xs hx w₀ rfl hR J Jx hY W (hb0.trans (hW.mono hb0.size)) hJ ((hW.cell (p := ⟨B, 0, none⟩) hBw).trans hB) h0

set_option maxHeartbeats 1000000 in
theorem edges_any (ao : Option Addr) (m c : Nat) (w : World) :
  Calls Tryz.prog 61 #[.slice ao m c] w fun e w' => e = .returned (.func (.func 87) #[] #[.pointer (some ⟨w.heap.size, 0, none⟩)]) ∧ w' = w.alloc (.cells #[.slice ao m c] 37) := by
 go_enter Tryz.func61, Tryz.ntmps61
 go_wp2
 go_ret
 exact ⟨rfl, rfl⟩
end Go.Proofs.YtmedickofiielaaGreatDoor

namespace Go.Proofs.YtmedickofiielaaGreatDoor
open Go.RowKit Go.Shelf
attribute [local go_sem] Oper.semAt_some

theorem boxed_turn {W W' : World} {row : Option Nat} {B : Nat} {t : TypeId} {v : Value} (h : Boxed W B t v) (hg : W.grownBy W' row) (hr : ∀ r, row = some r → ∃ o : Obj, W.heap[r]? = some o ∧ o.isCells = false) : Boxed W' B t v :=
 h.kept hg (fun e => by obtain ⟨o, ho, hc⟩ := hr B e.symm; rw [show W.heap[B]? = _ from h] at ho; cases ho; cases hc)
theorem boxed_far {W : World} {B C : Nat} {t : TypeId} {v : Value} (u : Value) (h : Boxed W B t v) (hne : B ≠ C) : Boxed (W.setCell ⟨C, 0, none⟩ u) B t v := by
 show (W.setCell ⟨C, 0, none⟩ u).heap[B]? = _
 rw [Below.heap_setCell _ _ _ _ hne]
 exact h
set_option maxRecDepth 100000 in
set_option maxHeartbeats 4000000 in
theorem spMay_any (v : Value) (xs : List Sp) (w : World) (h : SpAt w v xs) (hx : xs.length ≤ 2000000) (hwf : sWf xs) :
  Calls Tryz.prog 33 #[v] w fun e W' => e = .returned (.bool (sMay xs)) ∧ Below w.heap.size w W' := by
 rw [← edOk_sMay hwf]
 have H := Lib.hid h
 obtain ⟨ao, cap, rfl, _⟩ := h
 obtain ⟨n, hn⟩ : ∃ n, xs.length = n := ⟨_, rfl⟩
 rw [hn] at H ⊢
 have hst := edges_stops 4 (by decide) (w.heap.size + 2) _ xs hx w H.out
 rw [hn] at hst
 clear hn
 refine (callsIn_wide (n := 5)).1 ?_
 refine callsIn_of_wp_marks Tryz.func33 rfl trivial ?_ rfl
 simp only [Tryz.ntmps33, List.size_toArray, List.length_cons, List.length_nil, Nat.reduceAdd, Nat.reduceSub, Array.replicate_succ, Array.replicate_zero, List.push_toArray, List.append_toArray, List.nil_append, List.cons_append]
 gi_wp2_with (refine ⟨trivial, ?_⟩; gi_at_call 61; refine (callsIn_wide.2 (edges_any _ _ _ _)).mono ?_; rintro e w1 ⟨rfl, rfl⟩)
 have b0 := Boxed.new w 4 (.bool false)
 have b1 := Boxed.new (w.alloc (.cells #[.bool false] 4)) 3 (.int .i64 (-1))
 have b2 := Boxed.new ((w.alloc (.cells #[.bool false] 4)).alloc (.cells #[.int .i64 (-1)] 3)) 37 (.slice ao n cap)
 have hB0 : Below w.heap.size w (((w.alloc (.cells #[.bool false] 4)).alloc (.cells #[.int .i64 (-1)] 3)).alloc (.cells #[.slice ao n cap] 37)) := (((Below.refl _ w).alloc (Nat.le_refl _) _).alloc (by simp) _).alloc (by simp; omega) _
 have b0' := (b0.alloc (.cells #[.int .i64 (-1)] 3)).alloc (.cells #[.slice ao n cap] 37)
 have b1' := b1.alloc (.cells #[.slice ao n cap] 37)
 rw [World.size_alloc] at b1 b1' b2
 rw [World.size_alloc] at b2
 obtain ⟨w3, hw3⟩ : ∃ X, (((w.alloc (.cells #[.bool false] 4)).alloc (.cells #[.int .i64 (-1)] 3)).alloc (.cells #[.slice ao n cap] 37)) = X := ⟨_, rfl⟩
 have hsz : w3.heap.size = w.heap.size + 3 := by rw [← hw3]; simp
 rw [hw3] at b0' b1' b2 hB0 ⊢
 have hst := hst w3 hB0 (by omega) b2.cell
 clear hw3 b0 b1
 refine wpIn_rangeFunc_ownF rfl (by decide) (gf := 87) (lb := #[.pointer (some ⟨w.heap.size + 2, 0, none⟩)]) rfl trivial (enters_of Tryz.func87 (by kernel_rfl) rfl)
  hst (fun h k => ks_t h k) (ks_b (by omega)) (Below.refl _ _) (fun _ => rfl)
  (fun pre W => (edOk (-1) pre = true ∧ Boxed W w.heap.size 4 (.bool false) ∧ Boxed W (w.heap.size + 1) 3 (.int .i64 (edLast (-1) pre))) ∧ Below w.heap.size w W)
  (fun c pre W => (c = .ret ∧ edOk (-1) pre = false ∧ Boxed W w.heap.size 4 (.bool false)) ∧ Below w.heap.size w W)
  (OwnFrom.and (Own.from (fun s A B row hs hg hr => ⟨hs.1, boxed_turn hs.2.1 hg hr, boxed_turn hs.2.2 hg hr⟩) _) (ownFrom_below (Nat.le_refl _) (by omega)))
  (fun c => OwnFrom.and (Own.from (fun s A B row hs hg hr => ⟨hs.1, hs.2.1, boxed_turn hs.2.2 hg hr⟩) _) (ownFrom_below (Nat.le_refl _) (by omega)))
  ⟨⟨rfl, b0', b1'⟩, hB0⟩
  (fun x => { tmps := #[.slice ao n cap, undef, .pointer (some ⟨w.heap.size, 0, none⟩), .pointer (some ⟨w.heap.size + 1, 0, none⟩), .int .i64 x.1, .slice ao n cap, .func (.func 87) #[] #[.pointer (some ⟨w.heap.size + 2, 0, none⟩)], .int .i64 x.1, .bool x.2, undef, undef, undef, undef, undef, undef, undef, undef], defers := [] }) ?assign ?body ?done ?stop
 case assign =>
  intro l x W K hK
  gi_wp2
  exact hK
 case body =>
  rintro l pre x W ⟨⟨hp, c0, c1⟩, hB⟩ _
  obtain ⟨L, hL⟩ : ∃ L, edLast (-1) pre = L := ⟨_, rfl⟩
  have hsn := edOk_snoc (e := x) hp
  rw [hL] at c1 hsn
  have d0 := c0.cell
  have f0 := c0.frozen
  have d1 := c1.cell
  have f1 := c1.frozen
  obtain ⟨a, bg⟩ := x
  dsimp only at hsn ⊢
  by_cases hok : L < a ∧ a ≤ 20000
  ·rw [decide_eq_true hok] at hsn
   have e1 : ¬ a ≤ L := by omega
   have e2 : ¬ (20000 : Int) < a := by omega
   have Hsn := Lib.hid hsn
   clear hsn hp
   gi_wp2
   exact ⟨KeepsOthers.setCell _ _ _, KS.set c1 (by decide) (by omega), ⟨Hsn.out, boxed_far _ c0 (by omega), by rw [edLast_snoc]; exact c1.set _⟩, hB.setCell (p := ⟨w.heap.size + 1, 0, none⟩) (by show _ ≤ w.heap.size + 1; omega) _⟩
  ·rw [decide_eq_false hok] at hsn
   have Hsn := Lib.hid hsn
   clear hsn hp
   rcases (show a ≤ L ∨ (¬ a ≤ L ∧ (20000 : Int) < a) by omega) with e1 | ⟨e1, e2⟩
   all_goals
    gi_wp2
    exact ⟨KeepsOthers.setCell _ _ _, ⟨rfl, Hsn.out, c0.set _⟩, hB.setCell (p := ⟨w.heap.size, 0, none⟩) (Nat.le_refl _) _⟩
 case done =>
  rintro D ys W hD rfl ⟨⟨hne, c0, c1⟩, hB⟩ hK
  have d0 := c0.cell
  have f0 := c0.frozen
  gi_wp2
  have hK' := (KeepsOthers.setCell W ⟨w.heap.size, 0, none⟩ (.bool true)).same D _ hK rfl
  refine ⟨by simp, .inl ⟨_, _, rfl, run_takeDeferred hK', ?_⟩⟩
  have hc5 := cell_kept (c0.set (.bool true)).cell (grownBy_putObj' _ D (.deferred none)) (fun r e => by cases e; exact ⟨_, hK', rfl⟩)
  refine ⟨.bool true, ?_, by rw [hne], (hB.setCell (p := ⟨w.heap.size, 0, none⟩) (Nat.le_refl _) _).trans (belowK_b (w := w) (Nat.le_refl _) _ D _ _ (by omega) hK' rfl rfl)⟩
  simp [results, Tryz.f33, go_sem, hc5]
 case stop =>
  rintro D c pre W hD hpre ⟨⟨rfl, hno, c0⟩, hB⟩ hK
  gi_wp2
  refine ⟨by simp, .inl ⟨_, _, rfl, run_takeDeferred hK, ?_⟩⟩
  have hc5 := cell_kept c0.cell (grownBy_putObj' _ D (.deferred none)) (fun r e => by cases e; exact ⟨_, hK, rfl⟩)
  have hf : edOk (-1) (edL xs) = false := by
   cases hz : edOk (-1) (edL xs) with
   | false => rfl
   | true =>
    obtain ⟨t, ht⟩ := hpre
    rw [← ht] at hz
    rw [edOk_part hz] at hno
    cases hno
  refine ⟨.bool false, ?_, by rw [hf], hB.trans (belowK_b (w := w) (Nat.le_refl _) W D _ _ (by omega) hK rfl rfl)⟩
  simp [results, Tryz.f33, go_sem, hc5]
end Go.Proofs.YtmedickofiielaaGreatDoor

namespace Go.Proofs.YtmedickofiielaaGreatDoor
open Go.RowKit Go.Shelf
attribute [local go_sem] Oper.semAt_some

theorem edSum_none (p : Int) {W : World} {B : Nat} (h : Boxed W B 3 (.int .i64 0)) : Boxed W B 3 (.int .i64 (wrap64 (edSum p []))) := by
 rw [show edSum p [] = 0 from rfl, show wrap64 0 = 0 by unfold wrap64; omega]
 exact h
set_option maxRecDepth 100000 in
set_option maxHeartbeats 4000000 in
theorem spAhead_any (v : Value) (xs : List Sp) (p : Int) (w : World) (h : SpAt w v xs) (hx : xs.length ≤ 2000000) (hwf : sWf xs) :
  Calls Tryz.prog 36 #[v, .int .i64 p] w fun e W' => e = .returned (.int .i64 (if sMay xs then (cntTo (sMark xs) (min 20000 p.toNat) : Nat) else 0)) ∧ Below w.heap.size w W' := by
 have hMay := fun W (hW : SpAt W v xs) => spMay_any v xs W hW hx hwf
 have H := Lib.hid h
 obtain ⟨ao, cap, rfl, _⟩ := h
 have r0 := H.out.below ((Below.refl w.heap.size w).alloc (Nat.le_refl _) (.cells #[.int .i64 p] 3))
 have hMay := hMay _ r0
 obtain ⟨n, hn⟩ : ∃ n, xs.length = n := ⟨_, rfl⟩
 rw [hn] at H hMay ⊢
 have hst := fun m W (hW : SpAt W (.slice ao n cap) xs) => edges_stops 3 (by decide) m _ xs hx W hW
 rw [hn] at hst
 clear hn r0
 have p0 := Boxed.new w 3 (.int .i64 p)
 have hP0 : Below w.heap.size w (w.alloc (.cells #[.int .i64 p] 3)) := (Below.refl _ w).alloc (Nat.le_refl _) _
 cases hm : sMay xs with
 | false =>
  rw [hm] at hMay
  refine (callsIn_wide (n := 4)).1 ?_
  refine callsIn_of_wp_marks Tryz.func36 rfl trivial ?_ rfl
  simp only [Tryz.ntmps36, List.size_toArray, List.length_cons, List.length_nil, Nat.reduceAdd, Nat.reduceSub, Array.replicate_succ, Array.replicate_zero, List.push_toArray, List.append_toArray, List.nil_append, List.cons_append]
  gi_wp2_with (refine ⟨trivial, ?_⟩; gi_at_call 33; refine (callsIn_wide.2 hMay).mono ?_; rintro e w1 ⟨rfl, hb1⟩)
  have hb := hP0.trans (hb1.mono (by simp))
  exact ⟨_, results_tmp rfl _ _ _, rfl, hb⟩
 | true =>
  rw [hm] at hMay
  have hG := (sMay_good xs).1 hm
  refine (callsIn_wide (n := 4)).1 ?_
  refine callsIn_of_wp_marks Tryz.func36 rfl trivial ?_ rfl
  simp only [Tryz.ntmps36, List.size_toArray, List.length_cons, List.length_nil, Nat.reduceAdd, Nat.reduceSub, Array.replicate_succ, Array.replicate_zero, List.push_toArray, List.append_toArray, List.nil_append, List.cons_append]
  gi_wp2_with (refine ⟨trivial, ?_⟩; first | (gi_at_call 33; refine (callsIn_wide.2 hMay).mono ?_; clear hMay; rintro e w1 ⟨rfl, hb1⟩) | (gi_at_call 61; refine (callsIn_wide.2 (edges_any _ _ _ _)).mono ?_; rintro e _ ⟨rfl, rfl⟩))
  have hw1 : Below w.heap.size w w1 := hP0.trans (hb1.mono (by simp))
  have r1 := H.out.below hw1
  have p1 : Boxed w1 w.heap.size 3 (.int .i64 p) := by
   show w1.heap[w.heap.size]? = _
   rw [hb1.block _ (by simp)]
   exact p0
  have hsz1 : w.heap.size < w1.heap.size := p1.lt
  have b0 := Boxed.new w1 3 (.int .i64 0)
  have b2 := Boxed.new (w1.alloc (.cells #[.int .i64 0] 3)) 37 (.slice ao n cap)
  have hB0 : Below w1.heap.size w1 ((w1.alloc (.cells #[.int .i64 0] 3)).alloc (.cells #[.slice ao n cap] 37)) := ((Below.refl _ w1).alloc (Nat.le_refl _) _).alloc (by simp) _
  have b0' := b0.alloc (.cells #[.slice ao n cap] 37)
  have p2 := (p1.alloc (.cells #[.int .i64 0] 3)).alloc (.cells #[.slice ao n cap] 37)
  rw [World.size_alloc] at b2
  obtain ⟨w3, hw3⟩ : ∃ X, ((w1.alloc (.cells #[.int .i64 0] 3)).alloc (.cells #[.slice ao n cap] 37)) = X := ⟨_, rfl⟩
  have hsz : w3.heap.size = w1.heap.size + 2 := by rw [← hw3]; simp
  rw [hw3] at b0' b2 hB0 p2 ⊢
  have hB3 : Below w.heap.size w w3 := hw1.trans (hB0.mono (by omega))
  have hst := hst (w1.heap.size + 1) w1 r1 w3 hB0 (by omega) b2.cell
  clear hw3 b0 p0 p1 r1
  refine wpIn_rangeFunc_ownF rfl (by decide) (gf := 87) (lb := #[.pointer (some ⟨w1.heap.size + 1, 0, none⟩)]) rfl trivial (enters_of Tryz.func87 (by kernel_rfl) rfl)
   hst (fun h k => ks_t h k) (ks_b (by omega)) (Below.refl _ _) (fun _ => rfl)
   (fun pre W => (Boxed W w.heap.size 3 (.int .i64 p) ∧ Boxed W w1.heap.size 3 (.int .i64 (wrap64 (edSum p pre)))) ∧ Below w.heap.size w W)
   (fun c pre W => (False) ∧ Below w.heap.size w W)
   (OwnFrom.and (Own.from (fun s A B row hs hg hr => ⟨boxed_turn hs.1 hg hr, boxed_turn hs.2 hg hr⟩) _) (ownFrom_below (Nat.le_refl _) (by omega)))
   (fun c => OwnFrom.and (Own.from (fun s A B row hs hg hr => hs.elim) _) (ownFrom_below (Nat.le_refl _) (by omega)))
   ⟨⟨p2, edSum_none p b0'⟩, hB3⟩
   (fun x => { tmps := #[.slice ao n cap, .int .i64 p, undef, .pointer (some ⟨w.heap.size, 0, none⟩), .int .i64 0, .pointer (some ⟨w1.heap.size, 0, none⟩), .int .i64 x.1, .bool x.2, .slice ao n cap, .bool true, .bool false, .slice ao n cap, .func (.func 87) #[] #[.pointer (some ⟨w1.heap.size + 1, 0, none⟩)], .int .i64 x.1, .bool x.2, undef, undef, undef, undef, undef, undef, undef, undef, undef, undef, undef, undef], defers := [] }) ?assign ?body ?done ?stop
  case assign =>
   intro l x W K hK
   gi_wp2
   exact hK
  case body =>
   rintro l pre x W ⟨⟨c0, c1⟩, hB⟩ _
   have hsn := edSum_snoc p pre x
   obtain ⟨L, hL⟩ : ∃ L, edSum p pre = L := ⟨_, rfl⟩
   rw [hL] at c1 hsn
   have d0 := c0.cell
   have f0 := c0.frozen
   have d1 := c1.cell
   have f1 := c1.frozen
   obtain ⟨a, bg⟩ := x
   dsimp only at hsn ⊢
   have hwr : ∀ z : Int, wrap64 (wrap64 L + z) = wrap64 (L + z) := fun z => by unfold wrap64; omega
   have hwr' : ∀ z : Int, wrap64 (wrap64 L - z) = wrap64 (L + -z) := fun z => by unfold wrap64; omega
   have Hwr := Lib.hid hwr
   have Hwr' := Lib.hid hwr'
   obtain ⟨m, hm2, hm3⟩ : ∃ m, min a p = m ∧ ((p < a ∧ m = p) ∨ (¬ p < a ∧ m = a)) := ⟨_, rfl, by omega⟩
   rw [hm2] at hsn
   have Hsn := Lib.hid hsn
   clear hsn hwr hwr' hm2
   rcases hm3 with ⟨h1, rfl⟩ | ⟨h1, rfl⟩
   all_goals
    cases bg
    all_goals
     gi_wp2
     refine ⟨KeepsOthers.setCell _ _ _, KS.set c1 (by decide) (by omega), ⟨boxed_far _ c0 (by omega), ?_⟩, hB.setCell (p := ⟨w1.heap.size, 0, none⟩) (by show w.heap.size ≤ w1.heap.size; omega) _⟩
     have hq := Hsn.out
     simp only [Bool.false_eq_true, if_false, if_true] at hq
     rw [hq]
     first
      | (rw [← Hwr.out]; exact c1.set _)
      | (rw [← Hwr'.out]; exact c1.set _)
  case done =>
   rintro D ys W hD rfl ⟨⟨_, c1⟩, hB⟩ hK
   have hsum := edSum_all hG p
   rw [hsum] at c1
   have hle := cntTo_le (sMark xs) (min 20000 p.toNat)
   obtain ⟨C, hC⟩ : ∃ C, cntTo (sMark xs) (min 20000 p.toNat) = C := ⟨_, rfl⟩
   rw [hC] at c1 hle
   have hwc : wrap64 (C : Int) = C := by unfold wrap64; omega
   rw [hwc] at c1
   have d1 := c1.cell
   have HC := Lib.hid hC
   clear hC hsum
   gi_wp2
   refine ⟨by simp, .inl ⟨_, _, rfl, run_takeDeferred hK, ?_⟩⟩
   have q := HC.out
   subst q
   exact ⟨_, results_tmp rfl _ _ _, rfl, hB.trans (belowK_b (w := w) (Nat.le_refl _) W D _ _ (by omega) hK rfl rfl)⟩
  case stop =>
   rintro D c pre W hD hpre ⟨hno, _⟩ hK
   exact hno.elim
set_option maxRecDepth 100000 in
set_option maxHeartbeats 2000000 in
theorem spTotal_any (v : Value) (xs : List Sp) (w : World) (h : SpAt w v xs) (hx : xs.length ≤ 2000000) (hwf : sWf xs) :
  Calls Tryz.prog 37 #[v] w fun e W' => e = .returned (.int .i64 (if sMay xs then (cntTo (sMark xs) 20000 : Nat) else 0)) ∧ Below w.heap.size w W' := by
 have hA := spAhead_any v xs 20000 w h hx hwf
 rw [show min 20000 (Int.toNat 20000) = 20000 from rfl] at hA
 obtain ⟨ao, cap, rfl, _⟩ := h
 generalize (if sMay xs = true then ((cntTo (sMark xs) 20000 : Nat) : Int) else 0) = z at hA ⊢
 go_enter Tryz.func37, Tryz.ntmps37
 go_wp2_with (go_at_call 36; refine hA.mono ?_; clear hA; rintro e w1 ⟨rfl, hb⟩)
 go_ret
 exact ⟨rfl, hb⟩
end Go.Proofs.YtmedickofiielaaGreatDoor

namespace Go.Proofs.YtmedickofiielaaGreatDoor
open Go.RowKit

def EdAt (W : World) (v : Value) (L : List Edge) : Prop :=
 ∃ ao cap, v = .slice ao L.length cap ∧ L.length ≤ cap ∧ (L ≠ [] → ∃ b off, ao = some ⟨b, off, none⟩ ∧ (∃ cur fr, W.heap[b]? = some (.cells cur 199 fr)) ∧ ∀ i, i < L.length →
  W.cell? ⟨b, off + i * 2, none⟩ = some (.int .i64 (L.getD i (0, false)).1) ∧ W.cell? ⟨b, off + i * 2 + 1, none⟩ = some (.bool (L.getD i (0, false)).2))
theorem EdAt.turn {W W' : World} {v : Value} {L : List Edge} (h : EdAt W v L) (hb : ∀ (b : Nat) (cur : Array Value) (fr : Nat × Nat), W.heap[b]? = some (.cells cur 199 fr) → W'.heap[b]? = W.heap[b]?) : EdAt W' v L := by
 obtain ⟨ao, cap, rfl, hc, h2⟩ := h
 refine ⟨ao, cap, rfl, hc, fun hx => ?_⟩
 obtain ⟨b, off, rfl, ⟨cur, fr, hrow⟩, hcell⟩ := h2 hx
 have e := hb b cur fr hrow
 refine ⟨b, off, rfl, ⟨cur, fr, e.trans hrow⟩, fun i hi => ?_⟩
 exact ⟨(show W'.cell? ⟨b, off + i * 2, none⟩ = W.cell? ⟨b, off + i * 2, none⟩ from World.cell?_of_block e).trans (hcell i hi).1, (show W'.cell? ⟨b, off + i * 2 + 1, none⟩ = W.cell? ⟨b, off + i * 2 + 1, none⟩ from World.cell?_of_block e).trans (hcell i hi).2⟩
theorem EdAt.below {W W' : World} {v : Value} {L : List Edge} (h : EdAt W v L) (hb : Below W.heap.size W W') : EdAt W' v L :=
 h.turn fun b _ _ hrow => hb.block b (Array.getElem?_eq_some_iff.1 hrow).1
def SdBox (W : World) (B : Nat) (v : Value) (i : Bool) : Prop := W.heap[B]? = some (.cells #[v, .bool i] 186 (0, 0))
theorem SdBox.lt {W : World} {B : Nat} {v : Value} {i : Bool} (h : SdBox W B v i) : B < W.heap.size := (Array.getElem?_eq_some_iff.1 h).1
theorem SdBox.c0 {W : World} {B : Nat} {v : Value} {i : Bool} (h : SdBox W B v i) : W.cell? ⟨B, 0, none⟩ = some v := by simp [World.cell?, show W.heap[B]? = _ from h]
theorem SdBox.c1 {W : World} {B : Nat} {v : Value} {i : Bool} (h : SdBox W B v i) : W.cell? ⟨B, 1, none⟩ = some (.bool i) := by simp [World.cell?, show W.heap[B]? = _ from h]
theorem SdBox.f {W : World} {B : Nat} {v : Value} {i : Bool} (h : SdBox W B v i) (o : Nat) : W.frozen? ⟨B, o, none⟩ = false := by simp [World.frozen?, show W.heap[B]? = _ from h]
theorem SdBox.set0 {W : World} {B : Nat} {v : Value} {i : Bool} (h : SdBox W B v i) (u : Value) : SdBox (W.setCell ⟨B, 0, none⟩ u) B u i := box_set h 0 u
theorem SdBox.set1 {W : World} {B : Nat} {v : Value} {i : Bool} (h : SdBox W B v i) (j : Bool) : SdBox (W.setCell ⟨B, 1, none⟩ (.bool j)) B v j := box_set h 1 (.bool j)
set_option maxRecDepth 100000 in
set_option maxHeartbeats 2000000 in
theorem sdNext_any (B : Nat) (v : Value) (i : Bool) (L : List Edge) (W : World) (hB : SdBox W B v i) (hL : EdAt W v L) :
  Calls Tryz.prog 104 #[.pointer (some ⟨B, 0, none⟩)] W fun e W' => e = .returned (.int .i64 (edNext L)) ∧ W = W' := by
 obtain ⟨ao, cap, rfl, _, h2⟩ := hL
 have c0 := hB.c0
 cases L with
 | nil =>
  clear h2
  go_enter Tryz.func104, Tryz.ntmps104
  go_wp2
  go_ret
  exact ⟨rfl, rfl⟩
 | cons x r =>
  obtain ⟨b, off, rfl, _, hc⟩ := h2 (by simp)
  have d0 := (hc 0 (by simp)).1
  rw [Nat.zero_mul, Nat.add_zero] at d0
  obtain ⟨a, bg⟩ := x
  replace d0 : W.cell? ⟨b, off, none⟩ = some (.int .i64 a) := d0
  show Calls Tryz.prog 104 #[.pointer (some ⟨B, 0, none⟩)] W fun e W' => e = .returned (.int .i64 a) ∧ W = W'
  rw [List.length_cons] at c0
  clear hc h2
  have e1 : (0 : Int) < (r.length : Int) + 1 := by omega
  have e2 : ((r.length : Int) + 1 == 0) = false := beq_eq_false_iff_ne.2 (by omega)
  have e3 : (0 : Int) < ((r.length + 1 : Nat) : Int) := by omega
  generalize r.length = m at *
  go_enter Tryz.func104, Tryz.ntmps104
  go_wp2
  go_ret
  exact ⟨rfl, rfl⟩
def PassPost (B : Nat) (v : Value) (p : Int) (i : Bool) (L : List Edge) (W : World) (e : Ending) (W' : World) : Prop :=
 ∃ v', e = .returned (.tuple #[]) ∧ SdBox W' B v' (edPass p i L) ∧ (∀ X, EdAt X v L → EdAt X v' (edRest p L)) ∧ Keep (fun k => k = B) W.heap.size W W'
theorem PassPost.mk {B : Nat} {v : Value} {p : Int} {i j : Bool} {L r : List Edge} {W W' : World} {v' : Value} (h1 : SdBox W' B v' j) (hj : edPass p i L = j) (h2 : ∀ X, EdAt X v L → EdAt X v' r) (hr : edRest p L = r) (hk : Keep (fun k => k = B) W.heap.size W W') :
  PassPost B v p i L W (.returned (.tuple #[])) W' := ⟨v', rfl, by rw [hj]; exact h1, by rw [hr]; exact h2, hk⟩
theorem edAt_tail {X : World} {b off n cap : Nat} {x : Edge} {r : List Edge} (h : EdAt X (.slice (some ⟨b, off, none⟩) n cap) (x :: r)) : EdAt X (.slice (some ⟨b, off + 2, none⟩) r.length (cap - 1)) r := by
 obtain ⟨ao, cap', hv, hcap, h2⟩ := h
 cases hv
 obtain ⟨b', off', hv, ⟨cur, fr, hrow⟩, hc⟩ := h2 (by simp)
 cases hv
 refine ⟨_, _, rfl, by rw [List.length_cons] at hcap; omega, fun _ => ⟨b, off + 2, rfl, ⟨cur, fr, hrow⟩, fun j hj => ?_⟩⟩
 have := hc (j + 1) (by rw [List.length_cons]; omega)
 rw [show off + (j + 1) * 2 = off + 2 + j * 2 by omega] at this
 exact this
set_option maxRecDepth 100000 in
set_option maxHeartbeats 2000000 in
theorem sdPass_any (B : Nat) (v : Value) (i : Bool) (L : List Edge) (p : Int) (W : World) (hB : SdBox W B v i) (hL : EdAt W v L) (hp : p ≤ 20000) :
  Calls Tryz.prog 106 #[.pointer (some ⟨B, 0, none⟩), .int .i64 p] W (PassPost B v p i L W) := by
 have hN := sdNext_any B v i L W hB hL
 obtain ⟨ao, cap, rfl, hcap, h2⟩ := hL
 have c0 := hB.c0
 cases L with
 | nil =>
  clear h2
  have hN : Calls Tryz.prog 104 #[.pointer (some ⟨B, 0, none⟩)] W fun e W' => e = .returned (.int .i64 20001) ∧ W = W' := hN
  have e1 : ((20001 : Int) == p) = false := beq_eq_false_iff_ne.2 (by omega)
  go_enter Tryz.func106, Tryz.ntmps106
  go_wp2_with (go_at_call 104; refine hN.mono ?_; clear hN; rintro e _ ⟨rfl, rfl⟩)
  go_end0
  exact PassPost.mk hB rfl (fun _ q => q) rfl (Keep.refl _ _ _)
 | cons x r =>
  obtain ⟨b, off, rfl, _, hc⟩ := h2 (by simp)
  obtain ⟨a, bg⟩ := x
  have hN : Calls Tryz.prog 104 #[.pointer (some ⟨B, 0, none⟩)] W fun e W' => e = .returned (.int .i64 a) ∧ W = W' := hN
  by_cases ha : a = p
  ·have d1 := (hc 0 (by simp)).2
   rw [Nat.zero_mul, Nat.add_zero] at d1
   replace d1 : W.cell? ⟨b, off + 1, none⟩ = some (.bool bg) := d1
   have f1 := hB.f 1
   have f0 := hB.f 0
   have d2 := hB.c1
   have hrest : ∀ X, EdAt X (.slice (some ⟨b, off, none⟩) ((a, bg) :: r).length cap) ((a, bg) :: r) → EdAt X (.slice (some ⟨b, off + 2, none⟩) r.length (cap - 1)) r := fun X q => edAt_tail q
   have e2 : edRest p ((a, bg) :: r) = r := if_pos ha
   have e3 : edPass p i ((a, bg) :: r) = bg := if_pos ha
   have E2 := Lib.hid e2
   have E3 := Lib.hid e3
   have HR := Lib.hid hrest
   have HB := Lib.hid hB
   rw [List.length_cons] at c0 hcap
   have e1 : (a == p) = true := beq_iff_eq.2 ha
   have e4 : (0 : Int) < ((r.length + 1 : Nat) : Int) := by omega
   have e5 : (0 : Int) < (r.length : Int) + 1 := by omega
   have e6 : (1 : Int) ≤ ((r.length + 1 : Nat) : Int) := by omega
   have e7 : (1 : Int) ≤ (r.length : Int) + 1 := by omega
   subst ha
   have HZ := Lib.hid (show r.length = 0 → r = [] from List.eq_nil_of_length_eq_zero)
   clear hrest hc h2 hB e2 e3
   generalize r.length = m at *
   go_enter Tryz.func106, Tryz.ntmps106
   go_wp2_with (go_at_call 104; refine hN.mono ?_; clear hN; rintro e _ ⟨rfl, rfl⟩)
   all_goals
    have HK : Keep (fun k => k = B) W.heap.size W W := Keep.refl _ _ _
    go_end0
   ·obtain rfl := HZ.out (by omega)
    exact PassPost.mk ((HB.out.set1 _).set0 _) E3.out (fun X _ => (show EdAt X _ [] from ⟨_, _, by rw [show m = 0 by omega]; rfl, Nat.zero_le _, fun h => absurd rfl h⟩)) E2.out ((HK.setCell (p := ⟨B, 1, none⟩) (.inl rfl) _).setCell (p := ⟨B, 0, none⟩) (.inl rfl) _)
   ·exact PassPost.mk ((HB.out.set1 _).set0 _) E3.out HR.out E2.out ((HK.setCell (p := ⟨B, 1, none⟩) (.inl rfl) _).setCell (p := ⟨B, 0, none⟩) (.inl rfl) _)
  ·have e2 : edRest p ((a, bg) :: r) = (a, bg) :: r := if_neg ha
   have e3 : edPass p i ((a, bg) :: r) = i := if_neg ha
   have E2 := Lib.hid e2
   have E3 := Lib.hid e3
   have e1 : (a == p) = false := beq_eq_false_iff_ne.2 ha
   clear hc h2 e2 e3
   go_enter Tryz.func106, Tryz.ntmps106
   go_wp2_with (go_at_call 104; refine hN.mono ?_; clear hN; rintro e _ ⟨rfl, rfl⟩)
   go_end0
   exact PassPost.mk hB E3.out (fun _ q => q) E2.out (Keep.refl _ _ _)
end Go.Proofs.YtmedickofiielaaGreatDoor

namespace Go.Proofs.YtmedickofiielaaGreatDoor
open Go.RowKit Go.Shelf
attribute [local go_sem] Oper.semAt_some

theorem infoEdge : (Tryz.prog.info? 199).map (fun i => (i.zero, i.size, i.bytes)) = some (some (.agg #[.int .i64 0, .bool false]), 2, 16) := by kernel_rfl
def edCells : List Edge → List Value
 | [] => []
 | e :: r => .int .i64 e.1 :: .bool e.2 :: edCells r
theorem edCells_append : ∀ a b, edCells (a ++ b) = edCells a ++ edCells b
 | [], _ => rfl
 | e :: r, b => by show _ :: _ :: edCells (r ++ b) = _; rw [edCells_append r b]; rfl
theorem edCells_at : ∀ (L : List Edge) (i : Nat), i < L.length → (edCells L)[i * 2]? = some (.int .i64 (L.getD i (0, false)).1) ∧ (edCells L)[i * 2 + 1]? = some (.bool (L.getD i (0, false)).2)
 | [], i, h => absurd h (Nat.not_lt_zero i)
 | e :: r, 0, _ => ⟨rfl, rfl⟩
 | e :: r, i + 1, h => by
  have := edCells_at r i (by simpa using h)
  rw [show (i + 1) * 2 = i * 2 + 1 + 1 by omega]
  exact ⟨this.1, this.2⟩
theorem EdAt.of_own {W : World} {base : Nat} {v : Value} {L : List Edge} (h : W.ownsRow base 199 2 v L.length (edCells L)) : EdAt W v L := by
 rcases h.2 with ⟨hv, h0⟩ | ⟨g, cap, cur, hv, _, hrow, hc, _⟩
 ·exact ⟨none, 0, by rw [hv, h0], by omega, fun hx => absurd (List.eq_nil_of_length_eq_zero h0) hx⟩
 ·subst hv
  refine ⟨_, cap, rfl, hc, fun _ => ⟨g, 0, rfl, ⟨_, _, hrow⟩, fun i hi => ?_⟩⟩
  obtain ⟨h1, h2⟩ := edCells_at L i hi
  rw [Nat.zero_add]
  exact ⟨by rw [h.cellAt _ (by omega)]; exact h1, by rw [h.cellAt _ (by omega)]; exact h2⟩
theorem sdbox_turn {W W' : World} {row : Option Nat} {B : Nat} {v : Value} {i : Bool} (h : SdBox W B v i) (hg : W.grownBy W' row) (hr : ∀ r, row = some r → ∃ o : Obj, W.heap[r]? = some o ∧ o.isCells = false) : SdBox W' B v i :=
 (hg.block B h.lt (fun e => by obtain ⟨o, ho, hc⟩ := hr B e.symm; rw [show W.heap[B]? = _ from h] at ho; cases ho; cases hc)).trans h
theorem typed_appended {W w1 : World} {B base size k i : Nat} {t e T : TypeId} {v : Value} {xs : List Value} {tmp : Obj} {c : Array Value} {fr : Nat × Nat} (hv : Boxed W B t v) (hrow : W.ownsRow base e size v k xs) (h1 : T ≠ t) (h2 : T ≠ e)
  (hgrow : (W.alloc tmp).grownBy w1 v.ownBlock) (u : Value) (q : W.heap[i]? = some (.cells c T fr)) : (w1.setCell ⟨B, 0, none⟩ u).heap[i]? = some (.cells c T fr) := by
 have hi := (Array.getElem?_eq_some_iff.1 q).1
 have hiB : i ≠ B := by
  intro e'
  subst e'
  rw [show W.heap[i]? = _ from hv] at q
  cases q
  exact h1 rfl
 rw [Below.heap_setCell _ _ _ _ hiB, hgrow.block i (by simp; omega) ?_, Below.heap_alloc _ _ _ hi]
 ·exact q
 ·intro e'
  rcases hrow.2 with ⟨rfl, _⟩ | ⟨g, cap, cur, rfl, _, hgb, _⟩
  ·cases e'
  ·obtain rfl : i = g := by simpa [Value.ownBlock] using e'
   rw [hgb] at q
   cases q
   exact h2 rfl
def BegI (s : Nat) (pre : List Edge) (W : World) : Prop := ∃ v, Boxed W (s + 2) 184 v ∧ W.ownsRow s 199 2 v pre.length (edCells pre) ∧ True
theorem begI_own (s : Nat) : Own (BegI s) := holdsRow_own s (s + 2) 184 199 2 (fun pre : List Edge => pre.length) (fun pre => edCells pre) (fun _ _ => True)
theorem make_edges (n : Nat) (hn : n ≤ 4000000) : ∃ cur : Array Value, cur.size = n * 2 ∧ ∀ W : World, (Instr.makeSlice 184 (.int .i64 0) (.int .i64 (n : Int))).run Tryz.prog W = .ok (.slice (some ⟨W.heap.size, 0, none⟩) 0 n) (W.alloc (.cells cur 199)) := by
 obtain ⟨i0, hi, hz0, hz1, hz2⟩ := info_parts infoEdge
 refine ⟨madeCells (Value.agg #[.int .i64 0, .bool false]).cells (n * 2), ?_, fun W => ?_⟩
 ·simp [madeCells]
 ·have h := run_make (P := Tryz.prog) (w := W) 184 199 i0 (.agg #[.int .i64 0, .bool false]) Tryz.underlying184 hi hz0 .i64 .i64 0 n (Int.le_refl _) (by omega) (by rw [hz2]; omega) (by omega)
  rw [Int.toNat_natCast, hz1] at h
  exact h
set_option maxRecDepth 100000 in
set_option maxHeartbeats 4000000 in
theorem spBegin_any (v : Value) (xs : List Sp) (w : World) (h : SpAt w v xs) (hx : xs.length ≤ 2000000) :
  Calls Tryz.prog 103 #[v] w fun e W' => ∃ sv, e = .returned (.agg #[sv, .bool false]) ∧ EdAt W' sv (edL xs) ∧ Below w.heap.size w W' := by
 obtain ⟨i0, hi, hz0, hz1, hz2⟩ := info_parts infoEdge
 have H := Lib.hid h
 obtain ⟨ao, cap, rfl, _⟩ := h
 obtain ⟨n, hn⟩ : ∃ n, xs.length = n := ⟨_, rfl⟩
 rw [hn] at H hx ⊢
 have hst := fun m W => edges_stops 4 (by decide) m _ xs (by omega) w H.out W
 rw [hn] at hst
 have hm : IntKind.i64.wrap (2 * (n : Int)) = ((2 * n : Nat) : Int) := by simp only [IntKind.wrap_i64]; omega
 obtain ⟨cur, hcur, hmk⟩ := make_edges (2 * n) (by omega)
 have Hn := Lib.hid hn
 have HX := Lib.hid hx
 have Hcur := Lib.hid hcur
 clear hn hcur
 obtain ⟨m2, hM2⟩ : ∃ m, 2 * n = m := ⟨_, rfl⟩
 rw [hM2] at hmk hm Hcur
 have HM2 := Lib.hid hM2
 clear hM2 hx
 refine (callsIn_wide (n := 5)).1 ?_
 refine callsIn_of_wp_marks Tryz.func103 rfl trivial ?_ rfl
 simp only [Tryz.ntmps103, List.size_toArray, List.length_cons, List.length_nil, Nat.reduceAdd, Nat.reduceSub, Array.replicate_succ, Array.replicate_zero, List.push_toArray, List.append_toArray, List.nil_append, List.cons_append]
 gi_wp2_with (refine ⟨trivial, ?_⟩; gi_at_call 61; refine (callsIn_wide.2 (edges_any _ _ _ _)).mono ?_; rintro e w1 ⟨rfl, rfl⟩)
 have s0 : SdBox (w.alloc (.cells #[.slice none 0 0, .bool false] 186)) w.heap.size (.slice none 0 0) false := World.alloc_heap_new w _
 obtain ⟨wa, hwa⟩ : ∃ X, w.alloc (.cells #[.slice none 0 0, .bool false] 186) = X := ⟨_, rfl⟩
 have hBa : Below w.heap.size w wa := hwa ▸ (Below.refl _ w).alloc (Nat.le_refl _) _
 have sza : wa.heap.size = w.heap.size + 1 := by rw [← hwa]; simp
 rw [hwa] at s0 ⊢
 have r0 : (wa.alloc (.cells cur 199)).ownsRow w.heap.size 199 2 (.slice (some ⟨w.heap.size + 1, 0, none⟩) 0 m2) 0 [] := sza ▸ World.ownsRow_made wa cur m2 (by omega) (by have := HX.out; have := HM2.out; unfold maxLen; omega) Hcur.out
 have b1 := Boxed.new (wa.alloc (.cells cur 199)) 184 (.slice (some ⟨w.heap.size + 1, 0, none⟩) 0 m2)
 have b2 := Boxed.new ((wa.alloc (.cells cur 199)).alloc (.cells #[.slice (some ⟨w.heap.size + 1, 0, none⟩) 0 m2] 184)) 37 (.slice ao n cap)
 have r0' := (r0.alloc (.cells #[.slice (some ⟨w.heap.size + 1, 0, none⟩) 0 m2] 184)).alloc (.cells #[.slice ao n cap] 37)
 have b1' := b1.alloc (.cells #[.slice ao n cap] 37)
 have hBz := (((Below.refl wa.heap.size wa).alloc (Nat.le_refl _) (.cells cur 199)).alloc (by simp) (.cells #[.slice (some ⟨w.heap.size + 1, 0, none⟩) 0 m2] 184)).alloc (by simp; omega) (.cells #[.slice ao n cap] 37)
 have s0' : SdBox _ w.heap.size (.slice none 0 0) false := (hBz.block w.heap.size (by omega)).trans s0
 rw [World.size_alloc] at b1' b2
 rw [World.size_alloc] at b2
 obtain ⟨w3, hw3⟩ : ∃ X, (((wa.alloc (.cells cur 199)).alloc (.cells #[.slice (some ⟨w.heap.size + 1, 0, none⟩) 0 m2] 184)).alloc (.cells #[.slice ao n cap] 37)) = X := ⟨_, rfl⟩
 have hsz : w3.heap.size = w.heap.size + 4 := by rw [← hw3]; simp; omega
 rw [hw3] at s0' b1' b2 r0' hBz ⊢
 rw [sza] at b1' b2 hBz
 have hB0 : Below w.heap.size w w3 := hBa.trans (hBz.mono (by omega))
 have hst := hst (w.heap.size + 1 + 1 + 1) w3 hB0 (by omega) b2.cell
 have hI0 : BegI w.heap.size [] w3 := ⟨_, b1', r0', trivial⟩
 clear hw3 b1 b2 hwa hmk s0 r0 r0' b1' hBz
 refine wpIn_rangeFunc_ownF rfl (by decide) (gf := 87) (lb := #[.pointer (some ⟨w.heap.size + 1 + 1 + 1, 0, none⟩)]) rfl trivial (enters_of Tryz.func87 (by kernel_rfl) rfl)
  hst (fun h k => ks_t h k) (ks_b (by omega)) (Below.refl _ _) (fun _ => rfl)
  (fun pre W => (BegI w.heap.size pre W ∧ SdBox W w.heap.size (.slice none 0 0) false) ∧ Below w.heap.size w W)
  (fun c pre W => False ∧ Below w.heap.size w W)
  (OwnFrom.and (Own.from (fun s A B row hs hg hr => ⟨begI_own w.heap.size s A B row hs.1 hg hr, sdbox_turn hs.2 hg hr⟩) _) (ownFrom_below (Nat.le_refl _) (by omega)))
  (fun c => OwnFrom.and (Own.from (fun s A B row hs hg hr => hs.elim) _) (ownFrom_below (Nat.le_refl _) (by omega)))
  ⟨⟨hI0, s0'⟩, hB0⟩
  (fun x => { tmps := #[.slice ao n cap, undef, .pointer (some ⟨w.heap.size, 0, none⟩), .pointer (some ⟨w.heap.size + 1 + 1, 0, none⟩), .int .i64 x.1, .bool x.2, .slice ao n cap, .int .i64 n, .int .i64 m2, .slice (some ⟨w.heap.size + 1, 0, none⟩) 0 m2, .slice ao n cap, .func (.func 87) #[] #[.pointer (some ⟨w.heap.size + 1 + 1 + 1, 0, none⟩)], .int .i64 x.1, .bool x.2, undef, undef, undef, undef, undef, undef, undef, undef], defers := [] }) ?assign ?body ?done ?stop
 case assign =>
  intro l x W K hK
  gi_wp2
  exact hK
 case body =>
  rintro l pre x W ⟨⟨⟨v, hv, hrow, _⟩, hS⟩, hB⟩ hlt
  obtain ⟨a, bg⟩ := x
  have hpl := hlt
  have d0 := hv.cell
  dsimp only
  have HX2 := Lib.hid hlt
  clear hlt
  gi_wp2_with (gi_at_builtin; refine wpListIn_append_own _ rfl _ _ 184 rfl w.heap.size 199 i0 (.agg #[.int .i64 0, .bool false]) 2 16 Tryz.underlying184 hi hz0 hz1 hz2 rfl (by decide) _ _ _ rfl (hrow.alloc _) ⟨W.heap.size, 0, none⟩ 1 1 [.int .i64 a, .bool bg] rfl rfl ?c1 ?c2 ?c3 ?c4 ?c5 ?_)
  case c1 =>
   intro j u hj
   match j, hj with
   | 0, hj => simp at hj; subst hj; simp [Addr.add]
   | 1, hj => simp at hj; subst hj; simp [Addr.add]
  case c2 => intro u hu; simp at hu; rcases hu with rfl | rfl <;> rfl
  case c3 => have := HX.out; unfold maxLen; omega
  case c4 => have := HX.out; omega
  case c5 => have := hB.size; simp; omega
  intro v' w1 hown' hgrow _
  obtain ⟨g', cap', rfl⟩ := ownsRow_succ hown'
  have hty : ∀ (i : Nat) (c : Array Value) (fr : Nat × Nat), W.heap[i]? = some (.cells c 120 fr) → (w1.setCell ⟨w.heap.size + 2, 0, none⟩ (.slice (some ⟨g', 0, none⟩) (pre.length + 1) cap')).heap[i]? = some (.cells c 120 fr) := fun i c fr q => typed_appended hv hrow (by decide) (by decide) hgrow _ q
  have hsd : SdBox (w1.setCell ⟨w.heap.size + 2, 0, none⟩ (.slice (some ⟨g', 0, none⟩) (pre.length + 1) cap')) w.heap.size (.slice none 0 0) false := typed_appended hv hrow (by decide) (by decide) hgrow _ hS
  obtain ⟨hv1, hv2, hr2, hk2, hb2⟩ := hv.appended (by decide) hrow hB.size (by omega) hown' hgrow
  have hc1 := hv1.cell
  have hf1 := hv1.frozen
  have hbi : BegI w.heap.size (pre ++ [(a, bg)]) (w1.setCell ⟨w.heap.size + 2, 0, none⟩ (.slice (some ⟨g', 0, none⟩) (pre.length + 1) cap')) := ⟨_, hv2, by rw [List.length_append, edCells_append]; exact hr2, trivial⟩
  have HBI := Lib.hid hbi
  have HSD := Lib.hid hsd
  have HK : KS w.heap.size W (w1.setCell ⟨w.heap.size + 2, 0, none⟩ (.slice (some ⟨g', 0, none⟩) (pre.length + 1) cap')) := ⟨hb2, hty⟩
  have HB := Lib.hid (hB.trans hb2)
  have HK2 := Lib.hid HK
  have Hk2 := Lib.hid hk2
  clear hty hsd hbi HK hk2 hb2 hr2 hv2 hown' hgrow hv hrow hS hB
  gi_wp2
  exact ⟨Hk2.out, HK2.out, ⟨HBI.out, HSD.out⟩, HB.out⟩
 case done =>
  rintro D ys W hD rfl ⟨⟨⟨v, hv, hrow, _⟩, hS⟩, hB⟩ hK
  have d0 := hv.cell
  have c0 := hS.c0
  have c1 := hS.c1
  have f0 := hS.f 0
  have f1 := hS.f 1
  have hE := EdAt.of_own hrow
  obtain ⟨aa, cc, rfl, _⟩ := id hE
  have HE := Lib.hid hE
  have HS := Lib.hid hS
  have HB := Lib.hid hB
  have HKK := Lib.hid hK
  clear hE hB hrow hv hS hK
  gi_wp2
  have hK := HKK.out
  have hK' := (KeepsOthers.setCell _ ⟨w.heap.size, 1, none⟩ (.bool false)).same D _ ((KeepsOthers.setCell W ⟨w.heap.size, 0, none⟩ (.slice aa (edL xs).length cc)).same D _ hK rfl) rfl
  have hs5 : SdBox ((W.setCell ⟨w.heap.size, 0, none⟩ (.slice aa (edL xs).length cc)).setCell ⟨w.heap.size, 1, none⟩ (.bool false)) w.heap.size (.slice aa (edL xs).length cc) false := (HS.out.set0 _).set1 _
  refine ⟨by simp, .inl ⟨_, _, rfl, run_takeDeferred hK', ?_⟩⟩
  have hs6 := sdbox_turn hs5 (grownBy_putObj' _ D (.deferred none)) (fun r e => by cases e; exact ⟨_, hK', rfl⟩)
  have g0 := hs6.c0
  have g1 := hs6.c1
  have hE5 : EdAt ((((W.setCell ⟨w.heap.size, 0, none⟩ (.slice aa (edL xs).length cc)).setCell ⟨w.heap.size, 1, none⟩ (.bool false)).putObj D (.deferred none))) (.slice aa (edL xs).length cc) (edL xs) := HE.out.turn fun b cur fr hrow => by
   have n1 : b ≠ w.heap.size := by
    intro e
    subst e
    rw [show W.heap[w.heap.size]? = _ from HS.out] at hrow
    cases hrow
   have n2 : b ≠ D := by
    intro e
    subst e
    rw [hK] at hrow
    cases hrow
   rw [World.putObj_heap_other n2, Below.heap_setCell _ _ _ _ n1, Below.heap_setCell _ _ _ _ n1]
  have HE5 := Lib.hid hE5
  have HB5 := Lib.hid (((HB.out.setCell (p := ⟨w.heap.size, 0, none⟩) (Nat.le_refl _) _).setCell (p := ⟨w.heap.size, 1, none⟩) (Nat.le_refl _) _).trans (belowK_b (w := w) (Nat.le_refl _) _ D _ (.deferred none) (by omega) hK' rfl rfl))
  clear hE5
  refine ⟨.agg #[.slice aa (edL xs).length cc, .bool false], ?_, ⟨_, rfl, HE5.out, HB5.out⟩⟩
  simp [results, Tryz.f103, go_sem, g0, g1]
 case stop =>
  rintro D c pre W hD hpre ⟨hno, _⟩ hK
  exact hno.elim
end Go.Proofs.YtmedickofiielaaGreatDoor

namespace Go.Proofs.YtmedickofiielaaGreatDoor
open Go.RowKit

theorem want2_any (x y : Bool) (w : World) : Calls Tryz.prog 63 #[.bool x, .bool y] w fun e w' => e = .returned (.bool (twoB 2 x y)) ∧ w = w' := by
  cases x <;> cases y
  all_goals
    go_enter Tryz.func63, Tryz.ntmps63
    go_wp2
    go_ret
    exact ⟨rfl, rfl⟩
def OwnPost (l : List Sp) (w : World) (e : Ending) (w' : World) : Prop := ∃ v, e = .returned v ∧ w'.ownsRow w.heap.size 120 2 v l.length (spCells l) ∧ Below w.heap.size w w'
theorem ownsRow_low {W : World} {M N : Nat} {t : TypeId} {size : Nat} {v : Value} {k : Nat} {xs : List Value} (h : W.ownsRow M t size v k xs) (hN : N ≤ M) : W.ownsRow N t size v k xs := by
  refine ⟨h.1, ?_⟩
  rcases h.2 with q | ⟨g, cap, cur, q1, q2, q3⟩
  · exact .inl q
  · exact .inr ⟨g, cap, cur, q1, by omega, q3⟩
theorem own_keep {W W' : World} {B M : Nat} {v : Value} {k : Nat} {xs : List Value} (h : W.ownsRow M 120 2 v k xs) (hk : Keep (fun q => q = B) W.heap.size W W') (hB : B < M) : W'.ownsRow M 120 2 v k xs := by
  refine ⟨h.1, ?_⟩
  rcases h.2 with q | ⟨g, cap, cur, q1, q2, q3, q4⟩
  · exact .inl q
  · exact .inr ⟨g, cap, cur, q1, q2, (hk.block g (Array.getElem?_eq_some_iff.1 q3).1 (by omega)).trans q3, q4⟩
def sdLen (W : World) (B : Nat) : Nat := match W.cell? ⟨B, 0, none⟩ with
  | some (.slice _ n _) => n
  | _ => 0
theorem sdLen_eq {W X : World} {B : Nat} {v : Value} {i : Bool} {L : List Edge} (h : SdBox W B v i) (he : EdAt X v L) : sdLen W B = L.length := by
  obtain ⟨ao, cap, rfl, _⟩ := he
  unfold sdLen
  rw [h.c0]
def WalkI (f : Bool → Bool → Bool) (xs ys : List Sp) (wM : World) (B C : Nat) (lv fv : Value) (W : World) : Prop :=
  ∃ (ra rb : List Edge) (k : Int) (l : List Sp) (va vb : Value) (ia ib : Bool), fv = .int .i64 k ∧ WalkOK f (hasI xs) (hasI ys) ra ia rb ib k l ∧ W.ownsRow wM.heap.size 120 2 lv l.length (spCells l) ∧
    SdBox W B va ia ∧ SdBox W C vb ib ∧ EdAt wM va ra ∧ EdAt wM vb rb ∧ Keep (fun q => q = B ∨ q = C) wM.heap.size wM W ∧ l.length + (ra.length + rb.length) ≤ 4000000
theorem EdAt.kept {wM W : World} {B C : Nat} {v : Value} {L : List Edge} {va vb : Value} {ia ib : Bool} (h : EdAt wM v L) (hk : Keep (fun q => q = B ∨ q = C) wM.heap.size wM W) (hB : SdBox wM B va ia) (hC : SdBox wM C vb ib) : EdAt W v L :=
  h.turn fun b cur fr hrow => hk.block b (Array.getElem?_eq_some_iff.1 hrow).1 (by
    rintro (e | e)
    · subst e
      rw [show wM.heap[b]? = _ from hB] at hrow
      cases hrow
    · subst e
      rw [show wM.heap[b]? = _ from hC] at hrow
      cases hrow)
set_option maxRecDepth 100000 in
set_option maxHeartbeats 4000000 in
theorem spWalk_any (f : Bool → Bool → Bool) (g : FuncId) (hg : ∀ args W, (callFunc g args).run Tryz.prog W = .ok (.enter g args) W) (hW : ∀ x y w, Calls Tryz.prog g #[.bool x, .bool y] w fun e w' => e = .returned (.bool (f x y)) ∧ w = w') (h0 : f false false = false)
    (u v : Value) (xs ys : List Sp) (w : World) (h : SpAt w u xs) (h' : SpAt w v ys) (hx : xs.length ≤ 1000000) (hy : ys.length ≤ 1000000) (gx : sGood xs) (gy : sGood ys) :
    Calls Tryz.prog 89 #[u, v, .func (.func g) #[] #[]] w (OwnPost (sMade (fun j => f (sMark xs j) (sMark ys j)) 20000) w) := by
  have bA := spBegin_any u xs w h (by omega)
  have bB := fun W (hW : SpAt W v ys) => spBegin_any v ys W hW (by omega)
  have H' := Lib.hid h'
  have La := Lib.hid (edL_length xs)
  have Lb := Lib.hid (edL_length ys)
  have HX := Lib.hid hx
  have HY := Lib.hid hy
  clear hx hy h h'
  go_enter Tryz.func89, Tryz.ntmps89
  go_wp2_with fail
  refine bA.mono ?_
  clear bA
  rintro e w1 ⟨sa, rfl, ea, hb1⟩
  have bB := bB w1 (H'.out.below hb1)
  go_wp2_with fail
  refine bB.mono ?_
  clear bB
  rintro e w2 ⟨sb, rfl, eb, hb2⟩
  have hB2 : Below w.heap.size w w2 := hb1.trans (hb2.mono hb1.size)
  have ea2 := ea.below hb2
  obtain ⟨aa, ca, rfl, _⟩ := id ea
  obtain ⟨ab, cb, rfl, _⟩ := id eb
  go_wp2_with fail
  have s1 : SdBox (w2.alloc (.cells #[.slice aa (edL xs).length ca, .bool false] 186)) w2.heap.size (.slice aa (edL xs).length ca) false := World.alloc_heap_new w2 _
  have s2 : SdBox ((w2.alloc (.cells #[.slice aa (edL xs).length ca, .bool false] 186)).alloc (.cells #[.slice ab (edL ys).length cb, .bool false] 186)) (w2.heap.size + 1) (.slice ab (edL ys).length cb) false := by
    have := World.alloc_heap_new (w2.alloc (.cells #[.slice aa (edL xs).length ca, .bool false] 186)) (.cells #[.slice ab (edL ys).length cb, .bool false] 186)
    rw [World.size_alloc] at this
    exact this
  have hbz := ((Below.refl w2.heap.size w2).alloc (Nat.le_refl _) (.cells #[.slice aa (edL xs).length ca, .bool false] 186)).alloc (by simp) (.cells #[.slice ab (edL ys).length cb, .bool false] 186)
  have s1' : SdBox ((w2.alloc (.cells #[.slice aa (edL xs).length ca, .bool false] 186)).alloc (.cells #[.slice ab (edL ys).length cb, .bool false] 186)) w2.heap.size (.slice aa (edL xs).length ca) false := (Below.heap_alloc _ _ _ (by simp)).trans s1
  have szM : ((w2.alloc (.cells #[.slice aa (edL xs).length ca, .bool false] 186)).alloc (.cells #[.slice ab (edL ys).length cb, .bool false] 186)).heap.size = w2.heap.size + 2 := by simp
  obtain ⟨wM, hwM⟩ : ∃ X, (w2.alloc (.cells #[.slice aa (edL xs).length ca, .bool false] 186)).alloc (.cells #[.slice ab (edL ys).length cb, .bool false] 186) = X := ⟨_, rfl⟩
  rw [hwM] at s1' s2 hbz szM ⊢
  have ea3 := ea2.below hbz
  have eb3 := eb.below hbz
  have hBM : Below w.heap.size w wM := hB2.trans (hbz.mono hB2.size)
  have hsz2 := hB2.size
  have hI0 : WalkI (f) xs ys wM w2.heap.size (w2.heap.size + 1) (.slice none 0 0) (.int .i64 0) wM :=
    ⟨_, _, 0, [], _, _, false, false, rfl, WalkOK.start gx gy, World.ownsRow_nil _ _ _ _, s1', s2, ea3, eb3, Keep.refl _ _ _, by rw [La.out, Lb.out]; have := HX.out; have := HY.out; simp; omega⟩
  have S1 := Lib.hid s1'
  have S2 := Lib.hid s2
  have H0 := Lib.hid h0
  have HBM := Lib.hid hBM
  have HWM := Lib.hid hwM
  clear hwM s1' s2 s1 hbz bB ea ea2 eb ea3 eb3 h0 hb1 hb2 hB2 hBM
  go_loopw [7, 10] (fun lv fv wr => WalkI (f) xs ys wM w2.heap.size (w2.heap.size + 1) lv fv wr) (fun _ _ wr => sdLen wr w2.heap.size + sdLen wr (w2.heap.size + 1))
  case atStart => exact hI0
  case round =>
    clear hI0
    obtain ⟨ra, rb, k, l, va, vb, ia, ib, rfl, hw, hown, hB, hC, hea, heb, hk, hlen⟩ := hrel
    have hea2 := hea.kept hk S1.out S2.out
    have heb2 := heb.kept hk S1.out S2.out
    have qa := sdLen_eq hB hea
    have qb := sdLen_eq hC heb
    rw [qa, qb]
    have n1 := sdNext_any _ _ _ _ _ hB hea2
    have n2 := sdNext_any _ _ _ _ _ hC heb2
    obtain ⟨a1, c1, hva, _⟩ := id hea
    obtain ⟨a2, c2, hvb, _⟩ := id heb
    subst hva
    subst hvb
    have d0 := hB.c0
    have d1 := hB.c1
    have g0 := hC.c0
    have g1 := hC.c1
    have hwl : IntKind.i64.wrap ((ra.length : Int) + (rb.length : Int)) = (ra.length : Int) + (rb.length : Int) := by simp only [IntKind.wrap_i64]; omega
    by_cases hn : ra = [] ∧ rb = []
    · obtain ⟨rfl, rfl⟩ := hn
      have hd := WalkOK.done H0.out gx gy hw
      have hO : OwnPost (sMade (fun j => f (sMark xs j) (sMark ys j)) 20000) w (.returned _) _ := ⟨_, rfl, hd ▸ ownsRow_low hown HBM.out.size, HBM.out.trans (hk.below HBM.out.size (by rintro q (e | e) <;> omega))⟩
      have HO := Lib.hid hO
      clear hO hown hw hk hd n1 n2
      go_wp2
      go_ret
      exact HO.out
    · obtain ⟨p, hp⟩ : ∃ p, p = min (edNext ra) (edNext rb) := ⟨_, rfl⟩
      obtain ⟨hkp, hp2, hst, hmeas⟩ := hw.step hn p hp
      have hk0 := hw.low
      have hk1 := hw.high
      have hgood := hw.put.good
      have hgt : (0 : Int) < (ra.length : Int) + (rb.length : Int) := by
        rcases Nat.eq_zero_or_pos (ra.length + rb.length) with q | q
        · exact absurd ⟨List.eq_nil_of_length_eq_zero (by omega), List.eq_nil_of_length_eq_zero (by omega)⟩ hn
        · omega
      have Hst := Lib.hid hst
      have Hmeas := Lib.hid hmeas
      have Hlen := Lib.hid hlen
      have la := edRest_length p ra
      have lb := edRest_length p rb
      have Hla := Lib.hid la.1
      have Hlb := Lib.hid lb.1
      have Hk := Lib.hid hk
      have HB := Lib.hid hB
      have HC := Lib.hid hC
      have Hea := Lib.hid hea
      have Heb := Lib.hid heb
      have Hown := Lib.hid hown
      obtain ⟨na, hna⟩ : ∃ na, edNext ra = na := ⟨_, rfl⟩
      obtain ⟨nb, hnb⟩ : ∃ nb, edNext rb = nb := ⟨_, rfl⟩
      rw [hna] at n1 hp
      rw [hnb] at n2 hp
      have hmin : (nb < na ∧ p = nb) ∨ (¬ nb < na ∧ p = na) := by omega
      have hWt := fun W => hW ia ib W
      have hput := sput_any wM.heap.size _ l k p wr (by have := Hk.out.size; omega) hown (by have := Hlen.out; omega) (fun s hs => by have := hgood.1 s hs; omega) (by omega) (by omega)
      have Hkp := Lib.hid (show p ≤ 20000 from hp2)
      clear hst hmeas hlen la lb hk hB hC hea heb hown hp hna hnb hkp hp2 hk0 hk1 hgood hw hea2 heb2 hn qa qb
      go_wp2_with fail
      refine n1.mono ?_
      clear n1
      rintro e _ ⟨rfl, rfl⟩
      go_wp2_with fail
      refine n2.mono ?_
      clear n2
      rintro e _ ⟨rfl, rfl⟩
      rcases hmin with ⟨hlt, hpe⟩ | ⟨hlt, hpe⟩
      all_goals
       subst hpe
       cases hf : f ia ib with
       | true =>
         rw [hf] at hWt
         go_wp2_with (go_at_fn g; refine (hWt _).mono ?_; clear hWt; rintro e _ ⟨rfl, rfl⟩)
         have HS := Hst.out
         rw [hf, if_pos rfl] at HS
         have HS := Lib.hid HS
         clear hf Hst
         go_wp2_with fail
         refine hput.mono ?_
         clear hput
         rintro e w5 ⟨v5, rfl, hown5, hb5, _⟩
         have k5 : Keep (fun q => q = w2.heap.size ∨ q = w2.heap.size + 1) wM.heap.size wM w5 := Hk.out.trans (Keep.of_below hb5 (Nat.le_refl _))
         have B5 : SdBox w5 w2.heap.size _ ia := (hb5.block _ (by omega)).trans HB.out
         have C5 : SdBox w5 (w2.heap.size + 1) _ ib := (hb5.block _ (by omega)).trans HC.out
         have hl5 := putL_length l k p
         have p1 := sdPass_any _ _ _ _ p w5 B5 (Hea.out.kept k5 S1.out S2.out) Hkp.out
         have Hl5 := Lib.hid hl5
         have Ho5 := Lib.hid hown5
         have HC5 := Lib.hid C5
         have Hk5 := Lib.hid k5
         clear hl5 hown5 C5 B5 k5 hb5
         go_wp2_with fail
         refine p1.mono ?_
         clear p1
         rintro e w6 ⟨v6, rfl, B6, E6, K6⟩
         have C6 : SdBox w6 (w2.heap.size + 1) _ ib := (K6.block _ HC5.out.lt (by omega)).trans HC5.out
         have k6 : Keep (fun q => q = w2.heap.size ∨ q = w2.heap.size + 1) wM.heap.size wM w6 := Hk5.out.trans (K6.weak Hk5.out.size (fun q _ e => .inl e))
         have p2 := sdPass_any _ _ _ _ p w6 C6 (Heb.out.kept k6 S1.out S2.out) Hkp.out
         have o6 : w6.ownsRow wM.heap.size 120 2 v5 _ _ := own_keep Ho5.out K6 (by omega)
         have Ho6 := Lib.hid o6
         have HB6 := Lib.hid B6
         have HE6 := Lib.hid (E6 _ Hea.out)
         have Hk6 := Lib.hid k6
         clear B6 E6 K6 C6 k6 o6
         go_wp2_with fail
         refine p2.mono ?_
         clear p2
         rintro e w7 ⟨v7, rfl, C7, E7, K7⟩
         have B7 : SdBox w7 w2.heap.size _ _ := (K7.block _ HB6.out.lt (by omega)).trans HB6.out
         have k7 : Keep (fun q => q = w2.heap.size ∨ q = w2.heap.size + 1) wM.heap.size wM w7 := Hk6.out.trans (K7.weak Hk6.out.size (fun q _ e => .inr e))
         have o7 : w7.ownsRow wM.heap.size 120 2 v5 _ _ := own_keep Ho6.out K7 (by omega)
         have HI : WalkI f xs ys wM w2.heap.size (w2.heap.size + 1) v5 (.int .i64 p) w7 := ⟨_, _, p, _, _, _, _, _, rfl, HS.out, o7, B7, C7, HE6.out, E7 _ Heb.out, k7, by have := Hlen.out; have := Hl5.out; have := Hmeas.out; omega⟩
         have HM : sdLen w7 w2.heap.size + sdLen w7 (w2.heap.size + 1) < ra.length + rb.length := by rw [sdLen_eq B7 HE6.out, sdLen_eq C7 (E7 _ Heb.out)]; exact Hmeas.out
         have HI := Lib.hid HI
         have HM := Lib.hid HM
         clear B7 C7 E7 K7 k7 o7
         go_wp2
         exact ⟨HI.out, HM.out⟩
       | false =>
         rw [hf] at hWt
         go_wp2_with (go_at_fn g; refine (hWt _).mono ?_; clear hWt; rintro e _ ⟨rfl, rfl⟩)
         have HS := Hst.out
         rw [hf, if_neg (by simp)] at HS
         have HS := Lib.hid HS
         clear hf Hst hput
         have p1 := sdPass_any _ _ _ _ p wr HB.out (Hea.out.kept Hk.out S1.out S2.out) Hkp.out
         go_wp2_with fail
         refine p1.mono ?_
         clear p1
         rintro e w6 ⟨v6, rfl, B6, E6, K6⟩
         have C6 : SdBox w6 (w2.heap.size + 1) _ ib := (K6.block _ HC.out.lt (by omega)).trans HC.out
         have k6 : Keep (fun q => q = w2.heap.size ∨ q = w2.heap.size + 1) wM.heap.size wM w6 := Hk.out.trans (K6.weak Hk.out.size (fun q _ e => .inl e))
         have p2 := sdPass_any _ _ _ _ p w6 C6 (Heb.out.kept k6 S1.out S2.out) Hkp.out
         have o6 : w6.ownsRow wM.heap.size 120 2 _ _ _ := own_keep Hown.out K6 (by omega)
         have Ho6 := Lib.hid o6
         have HB6 := Lib.hid B6
         have HE6 := Lib.hid (E6 _ Hea.out)
         have Hk6 := Lib.hid k6
         clear B6 E6 K6 C6 k6 o6
         go_wp2_with fail
         refine p2.mono ?_
         clear p2
         rintro e w7 ⟨v7, rfl, C7, E7, K7⟩
         have B7 : SdBox w7 w2.heap.size _ _ := (K7.block _ HB6.out.lt (by omega)).trans HB6.out
         have k7 : Keep (fun q => q = w2.heap.size ∨ q = w2.heap.size + 1) wM.heap.size wM w7 := Hk6.out.trans (K7.weak Hk6.out.size (fun q _ e => .inr e))
         have o7 : w7.ownsRow wM.heap.size 120 2 _ _ _ := own_keep Ho6.out K7 (by omega)
         have HI : WalkI f xs ys wM w2.heap.size (w2.heap.size + 1) _ (.int .i64 p) w7 := ⟨_, _, p, _, _, _, _, _, rfl, HS.out, o7, B7, C7, HE6.out, E7 _ Heb.out, k7, by have := Hlen.out; have := Hmeas.out; omega⟩
         have HM : sdLen w7 w2.heap.size + sdLen w7 (w2.heap.size + 1) < ra.length + rb.length := by rw [sdLen_eq B7 HE6.out, sdLen_eq C7 (E7 _ Heb.out)]; exact Hmeas.out
         have HI := Lib.hid HI
         have HM := Lib.hid HM
         clear B7 C7 E7 K7 k7 o7
         go_wp2
         exact ⟨HI.out, HM.out⟩
end Go.Proofs.YtmedickofiielaaGreatDoor

namespace Go.Proofs.YtmedickofiielaaGreatDoor
open Go.RowKit Go.Shelf

def OwnErrPost (b : Bool) (l : List Sp) (w : World) (e : Ending) (w' : World) : Prop :=
 ∃ v, e = .returned (.tuple #[v, .int .i64 (if b then 0 else 1)]) ∧ w'.ownsRow w.heap.size 120 2 v (if b then l else []).length (spCells (if b then l else [])) ∧ Below w.heap.size w w'
theorem OwnErrPost.no {b : Bool} {l : List Sp} {w w' : World} (h : b = false) (hb : Below w.heap.size w w') : OwnErrPost b l w (.returned (.tuple #[.slice none 0 0, .int .i64 1])) w' :=
 ⟨_, by rw [h]; rfl, by rw [h]; exact World.ownsRow_nil _ _ _ _, hb⟩
theorem OwnErrPost.yes {b : Bool} {l : List Sp} {w w' : World} {v : Value} (h : b = true) (ho : w'.ownsRow w.heap.size 120 2 v l.length (spCells l)) (hb : Below w.heap.size w w') : OwnErrPost b l w (.returned (.tuple #[v, .int .i64 0])) w' :=
 ⟨_, by rw [h]; rfl, by rw [h]; exact ho, hb⟩
set_option maxRecDepth 100000 in
set_option maxHeartbeats 4000000 in
theorem spTold_any (f : Bool → Bool → Bool) (g : FuncId) (hg : ∀ args W, (callFunc g args).run Tryz.prog W = .ok (.enter g args) W) (hW : ∀ x y w, Calls Tryz.prog g #[.bool x, .bool y] w fun e w' => e = .returned (.bool (f x y)) ∧ w = w') (h0 : f false false = false)
  (u v : Value) (xs ys : List Sp) (w : World) (h : SpAt w u xs) (h' : SpAt w v ys) (hx : xs.length ≤ 1000000) (hy : ys.length ≤ 1000000) (wx : sWf xs) (wy : sWf ys) :
  Calls Tryz.prog 62 #[u, v, .func (.func g) #[] #[]] w (OwnErrPost (sMay xs && sMay ys) (sMade (fun j => f (sMark xs j) (sMark ys j)) 20000) w) := by
 have m1 := spMay_any u xs w h (by omega) wx
 have m2 := fun W (q : SpAt W v ys) => spMay_any v ys W q (by omega) wy
 have m3 := fun W (q : SpAt W u xs) (q' : SpAt W v ys) (gx : sGood xs) (gy : sGood ys) => spWalk_any f g hg hW h0 u v xs ys W q q' hx hy gx gy
 have H := Lib.hid h
 have H' := Lib.hid h'
 obtain ⟨_, _, rfl, _⟩ := id h
 obtain ⟨_, _, rfl, _⟩ := id h'
 obtain ⟨b, hb⟩ : ∃ b, (sMay xs && sMay ys) = b := ⟨_, rfl⟩
 rw [hb]
 clear h h' hW h0 hx hy wx wy
 cases hmx : sMay xs with
 | false =>
  have hbf : b = false := by rw [← hb, hmx]; rfl
  have HB := Lib.hid hbf
  rw [hmx] at m1
  clear hb hbf hmx m2 m3 hg
  go_enter Tryz.func62, Tryz.ntmps62
  go_wp2_with fail
  refine m1.mono ?_
  rintro e w1 ⟨rfl, hb1⟩
  go_wp2
  go_ret2
  exact OwnErrPost.no HB.out hb1
 | true =>
  rw [hmx] at m1
  cases hmy : sMay ys with
  | false =>
   have hbf : b = false := by rw [← hb, hmx, hmy]; rfl
   have HB := Lib.hid hbf
   rw [hmy] at m2
   clear hb hbf hmx hmy m3 hg
   go_enter Tryz.func62, Tryz.ntmps62
   go_wp2_with fail
   refine m1.mono ?_
   clear m1
   rintro e w1 ⟨rfl, hb1⟩
   have m2 := m2 w1 (H'.out.below hb1)
   go_wp2_with fail
   refine m2.mono ?_
   rintro e w2 ⟨rfl, hb2⟩
   have hB := hb1.trans (hb2.mono hb1.size)
   go_wp2
   go_ret2
   exact OwnErrPost.no HB.out hB
  | true =>
   have hbf : b = true := by rw [← hb, hmx, hmy]; rfl
   have HB := Lib.hid hbf
   have m3 := fun W q q' => m3 W q q' ((sMay_good xs).1 hmx) ((sMay_good ys).1 hmy)
   rw [hmy] at m2
   clear hb hbf hmx hmy hg
   go_enter Tryz.func62, Tryz.ntmps62
   go_wp2_with fail
   refine m1.mono ?_
   clear m1
   rintro e w1 ⟨rfl, hb1⟩
   have m2 := m2 w1 (H'.out.below hb1)
   go_wp2_with fail
   refine m2.mono ?_
   clear m2
   rintro e w2 ⟨rfl, hb2⟩
   have hB := hb1.trans (hb2.mono hb1.size)
   have m3 := m3 w2 (H.out.below hB) (H'.out.below hB)
   go_wp2_with fail
   refine m3.mono ?_
   clear m3
   rintro e w3 ⟨v3, rfl, ho3, hb3⟩
   have HO := Lib.hid (ownsRow_low ho3 hB.size)
   have HB3 := Lib.hid (hB.trans (hb3.mono hB.size))
   clear ho3 hb3
   go_wp2
   go_ret2
   exact OwnErrPost.yes HB.out HO.out HB3.out
set_option maxRecDepth 100000 in
set_option maxHeartbeats 4000000 in
theorem spLess_own (u v : Value) (xs ys : List Sp) (w : World) (h : SpAt w u xs) (h' : SpAt w v ys) (hx : xs.length ≤ 1000000) (hy : ys.length ≤ 1000000) (wx : sWf xs) (wy : sWf ys) :
  Calls Tryz.prog 38 #[u, v] w (OwnErrPost (sMay xs && sMay ys) (twoL 2 xs ys) w) := by
 have hT := spTold_any (twoB 2) 63 (enters_of Tryz.func63 (by kernel_rfl) rfl) want2_any rfl u v xs ys w h h' hx hy wx wy
 rw [show sMade (fun j => twoB 2 (sMark xs j) (sMark ys j)) 20000 = twoL 2 xs ys from rfl] at hT
 obtain ⟨_, _, rfl, _⟩ := id h
 obtain ⟨_, _, rfl, _⟩ := id h'
 obtain ⟨b, hb⟩ : ∃ b, (sMay xs && sMay ys) = b := ⟨_, rfl⟩
 obtain ⟨l, hl⟩ : ∃ l, twoL 2 xs ys = l := ⟨_, rfl⟩
 rw [hb, hl] at hT ⊢
 clear hb hl h h' hx hy wx wy
 go_enter Tryz.func38, Tryz.ntmps38
 go_wp2_with fail
 refine hT.mono ?_
 clear hT
 rintro e w1 ⟨v1, rfl, ho, hb1⟩
 have HO := Lib.hid ho
 obtain ⟨c, hc⟩ : ∃ c : Int, (if b = true then 0 else 1) = c := ⟨_, rfl⟩
 rw [hc]
 have HC := Lib.hid hc
 clear ho hc
 go_wp2
 go_ret2
 exact ⟨v1, by rw [HC.out]; rfl, HO.out, hb1⟩
end Go.Proofs.YtmedickofiielaaGreatDoor

namespace Go.Proofs.YtmedickofiielaaGreatDoor
open Go.RowKit

def OwnOpenPost (xs : List Sp) (p n : Int) (w : World) (e : Ending) (w' : World) : Prop := OpenPost xs p n w e w' ∧ ∀ v, e = .returned (.tuple #[v, .int .i64 0]) → w'.ownsRow w.heap.size 120 2 v (opL xs p n).length (spCells (opL xs p n))
theorem OwnOpenPost.no {xs : List Sp} {p n : Int} {w w' : World} {c : Int} (h : opC xs p n = c) (hc : c ≠ 0) (hb : Below w.heap.size w w') : OwnOpenPost xs p n w (.returned (.tuple #[.slice none 0 0, .int .i64 c])) w' :=
 ⟨OpenPost.no h hc hb, fun v e => by simp at e; exact absurd e.2 hc⟩
theorem OwnOpenPost.yes {xs : List Sp} {p n : Int} {w w' : World} {v : Value} (h : opC xs p n = 0) (hv : w'.ownsRow w.heap.size 120 2 v (opL xs p n).length (spCells (opL xs p n))) (hb : Below w.heap.size w w') : OwnOpenPost xs p n w (.returned (.tuple #[v, .int .i64 0])) w' :=
 ⟨OpenPost.yes h (SpAt.of_own hv) hb, fun u e => by simp at e; exact e ▸ hv⟩
theorem OwnOpenPost.zero {xs : List Sp} {p n : Int} {w w' : World} {e : Ending} (hop : opC xs p n = 0) (h : OwnOpenPost xs p n w e w') : ∃ v, e = .returned (.tuple #[v, .int .i64 0]) ∧ w'.ownsRow w.heap.size 120 2 v (opL xs p n).length (spCells (opL xs p n)) ∧ Below w.heap.size w w' := by
 obtain ⟨h1, h2⟩ := h
 unfold OpenPost at h1
 rw [hop] at h1
 obtain ⟨v, rfl, _, hb⟩ := h1
 exact ⟨v, rfl, h2 v rfl, hb⟩
end Go.Proofs.YtmedickofiielaaGreatDoor
