/- Texts of this proof, joined. -/
import Derived.Test.YtmedickofiielaaGSpPut
import Derived.RangeFuncNested
import Derived.RangeFuncBound
import Derived.RangeFuncCalls
import Derived.RangeFuncLeaves
import Derived.RangeFuncBox
import Derived.Shelf.Abstract
import Derived.Shelf.RegionOpen
import Derived.WalkKit
import Derived.WalkSpells
import Derived.OwnWalkIn
import Derived.TacticsInMore
import Derived.LoopNIn
import Derived.LoopIn
import Derived.Lib.Hide
import Derived.Lib.PathFns
import Derived.Outline
import Derived.Test.YtmedickofiielaaGReads64
import Derived.Maps.AppendAt
import Derived.Test.YtmedickofiielaaGNameEq
namespace Go.Proofs.Ytmedickofiielaa
open Go.RowKit Go.Shelf
attribute [local go_sem] Oper.semAt_some

abbrev encE (p : Edge) : Array Value := #[.int .i64 p.1, .bool p.2]
def KS (n₀ : Nat) (W W' : World) : Prop := Below n₀ W W' ∧ ∀ (i : Nat) (c : Array Value) (fr : Nat × Nat), W.heap[i]? = some (.cells c 76 fr) → W'.heap[i]? = some (.cells c 76 fr)
theorem ks_t {n₀ : Nat} {X Y Z : World} (h : KS n₀ X Y) (k : KS n₀ Y Z) : KS n₀ X Z := ⟨h.1.trans k.1, fun i c fr q => k.2 i c fr (h.2 i c fr q)⟩
theorem ks_b {n₀ : Nat} {w : World} (hn : n₀ ≤ w.heap.size) (W : World) (l : Nat) (o o' : Obj) (hl : w.heap.size ≤ l) (h : W.heap[l]? = some o) (hc : o.isCells = false) (hw : o.isWalk = false) : KS n₀ W (W.putObj l o') := by
 refine ⟨belowK_b hn W l o o' hl h hc hw, fun i c fr q => ?_⟩
 by_cases e : i = l
 ·subst e
  rw [q] at h
  cases h
  cases hc
 ·rw [World.putObj_heap_other (by omega)]
  exact q
theorem KS.refl (n₀ : Nat) (W : World) : KS n₀ W W := ⟨Below.refl _ _, fun _ _ _ q => q⟩
theorem KS.set {n₀ B : Nat} {W : World} {t : TypeId} {v u : Value} (hB : Boxed W B t v) (ht : t ≠ 76) (hn : n₀ ≤ B) : KS n₀ W (W.setCell ⟨B, 0, none⟩ u) := by
 refine ⟨(Below.refl n₀ W).setCell (p := ⟨B, 0, none⟩) hn u, fun i c fr q => ?_⟩
 by_cases e : i = B
 ·subst e
  rw [show W.heap[i]? = _ from hB] at q
  cases q
  exact absurd rfl ht
 ·rw [Below.heap_setCell _ _ _ _ e]
  exact q
theorem KS.alloc {n₀ : Nat} {W : World} (hn : n₀ ≤ W.heap.size) (o : Obj) : KS n₀ W (W.alloc o) :=
 ⟨(Below.refl n₀ W).alloc hn o, fun i c fr q => by rw [Below.heap_alloc _ _ _ (Array.getElem?_eq_some_iff.1 q).1]; exact q⟩

set_option maxRecDepth 100000 in
set_option maxHeartbeats 2000000 in
theorem edges1_in (n : Nat) (hn : 1 ≤ n) (l B n₀ : Nat) (v : Value) (xs : List Sp) (hx : xs.length ≤ 2000000) (w₀ : World) (h₀ : n₀ = w₀.heap.size) (hR : SpAt w₀ v xs) (J Jx : List Edge → World → Prop)
  (hY : ∀ pre x W, J pre W → pre.length < xs.length * 2 + 1 → YieldAt Fence.wide (n - 1) Try.prog l (encE x) W fun e W' =>
   (e = .returned (.bool true) ∧ J (pre ++ [x]) W' ∧ KS n₀ W W') ∨ (e = .returned (.bool false) ∧ Jx (pre ++ [x]) W'))
  (W : World) (hb0 : Below n₀ w₀ W) (hJ : AbidesFrom W.heap.size J) (hB : W.cell? ⟨B, 0, none⟩ = some v) (h0 : J [] W) :
  CallsIn Fence.wide n Try.prog 45 #[.func (.yield l) #[] #[], .pointer (some ⟨B, 0, none⟩)] W fun e W' => (∃ v, e = .returned v) ∧
   ((∃ ys, ys = edL xs ∧ J ys W') ∨ (∃ pre, pre <+: edL xs ∧ Jx pre W')) := by
 have hRw := fun W' (h : Below n₀ w₀ W') => hR.below (h₀ ▸ h)
 have hE := fun s W => spEnd_any s W
 obtain ⟨ao, cap, rfl, _⟩ := id hR
 obtain ⟨N, hN⟩ : ∃ N, xs.length = N := ⟨_, rfl⟩
 rw [hN] at hB hx hY
 have HN := Lib.hid hN
 refine callsIn_of_wp Try.func45 rfl trivial ?_ rfl
 simp only [Try.ntmps45, List.size_toArray, List.length_cons, List.length_nil, Nat.reduceAdd, Nat.reduceSub, Array.replicate_succ, Array.replicate_zero, List.push_toArray, List.append_toArray, List.nil_append, List.cons_append]
 gi_wp2
 gi_loopw [7] (fun p wr => ∃ k : Nat, p = .int .i64 k ∧ k ≤ N ∧ J (edL (xs.take k)) wr ∧ Below n₀ w₀ wr)
  (fun p _ => N - (intOf p).toNat)
 case atStart => exact ⟨0, rfl, Nat.zero_le _, by rw [List.take_zero]; exact h0, hb0⟩
 case round =>
  obtain ⟨k, rfl, hk, hJs, hbw⟩ := hrel
  by_cases hlt : k < N
  ·have hkx : k < xs.length := by omega
   obtain ⟨b, off, cap', hv, c0, c1⟩ := (hRw _ hbw).at hkx
   cases hv
   have hnx := edL_take hkx
   have hgrow : ∀ w1, Below wr.heap.size wr w1 → wr.grownBy w1 none := fun w1 hb => ⟨hb.os, hb.tape, hb.output, hb.size, fun i hi _ => hb.block i hi⟩
   have hJ1 : ∀ w1, Below wr.heap.size wr w1 → J (edL (xs.take k)) w1 := fun w1 hb => hJ _ wr w1 none hJs (hgrow w1 hb) (fun r e => by cases e)
   have hpre := edL_length (xs.take k)
   rw [List.length_take] at hpre
   obtain ⟨p, hp⟩ : ∃ p, (xs.getD k (0, 0)).1 = p := ⟨_, rfl⟩
   obtain ⟨q, hq⟩ : ∃ q, (xs.getD k (0, 0)).2 = q := ⟨_, rfl⟩
   obtain ⟨E, hEE⟩ : ∃ E, spEnd (xs.getD k (0, 0)) = E := ⟨_, rfl⟩
   have hE := fun W => hE (xs.getD k (0, 0)) W
   rw [hp, hq, hEE] at hE
   rw [hp, hEE] at hnx
   rw [hp] at c0
   rw [hq] at c1
   have Hnx := Lib.hid hnx
   have HJ1 := Lib.hid hJ1
   have HJs := Lib.hid hJs
   have HbW := Lib.hid hbw
   have HRw := Lib.hid hRw
   have HR := Lib.hid hR
   have hki : (0 : Int) ≤ (k : Int) ∧ (k : Int) < (N : Int) := ⟨by omega, by omega⟩
   clear hnx hJ1 hgrow hp hq hEE hRw hR hJs hbw hN
   have hb1 : Below wr.heap.size wr (wr.alloc (.cells #[.int .i64 p, .int .i64 q] 76)) := (Below.refl _ wr).alloc (Nat.le_refl _) _
   have hbox : (wr.alloc (.cells #[.int .i64 p, .int .i64 q] 76)).heap[wr.heap.size]? = some (.cells #[.int .i64 p, .int .i64 q] 76 (0, 0)) := World.alloc_heap_new wr _
   have hw1 : Below n₀ w₀ (wr.alloc (.cells #[.int .i64 p, .int .i64 q] 76)) := HbW.out.trans (hb1.mono (by have := HbW.out.size; omega))
   obtain ⟨fn, tmps, assign, body, hy, hRnd⟩ := hY (edL (xs.take k)) (p, true) _ (HJ1.out _ hb1) (by omega)
   dsimp only [encE] at hy
   gi_wp2
   try (rw [hy]; gi_wp2)
   refine hRnd.mono ?_
   clear hy hRnd hb1
   rintro e W3 (⟨rfl, hJ3, hk3⟩ | ⟨rfl, hJx3⟩)
   ·have hw3 : Below n₀ w₀ W3 := hw1.trans hk3.1
    have hbx3 := hk3.2 _ _ _ hbox
    have d0 : W3.cell? ⟨wr.heap.size, 0, none⟩ = some (.int .i64 p) := by simp [World.cell?, hbx3]
    have d1 : W3.cell? ⟨wr.heap.size, 1, none⟩ = some (.int .i64 q) := by simp [World.cell?, hbx3]
    have hgrow : ∀ w1, Below W3.heap.size W3 w1 → W3.grownBy w1 none := fun w1 hb => ⟨hb.os, hb.tape, hb.output, hb.size, fun i hi _ => hb.block i hi⟩
    have hb4 : Below W3.heap.size W3 (W3.alloc (.cells #[.int .i64 p, .int .i64 q] 76)) := (Below.refl _ W3).alloc (Nat.le_refl _) _
    have hJ4 : J (edL (xs.take k) ++ [(p, true)]) (W3.alloc (.cells #[.int .i64 p, .int .i64 q] 76)) := hJ _ W3 _ none hJ3 (hgrow _ hb4) (fun r e => by cases e)
    have hw4 : Below n₀ w₀ (W3.alloc (.cells #[.int .i64 p, .int .i64 q] 76)) := hw3.trans (hb4.mono (by have := hw3.size; omega))
    obtain ⟨fn2, tmps2, assign2, body2, hy2, hRnd2⟩ := hY (edL (xs.take k) ++ [(p, true)]) (E, false) _ hJ4 (by simp; omega)
    dsimp only [encE] at hy2
    have HW4 := Lib.hid hw4
    clear hw4 hJ4 hJ3 hk3 hbx3 hbox hw3 hw1 hb4 hgrow hJ
    gi_wp2_with (refine ⟨trivial, ?_⟩; gi_at_call 46; refine (callsIn_wide.2 (hE _)).mono ?_; clear hE; rintro e _ ⟨rfl, rfl⟩)
    try (rw [hy2]; gi_wp2)
    refine hRnd2.mono ?_
    clear hy2 hRnd2
    rintro e W5 (⟨rfl, hJ5, hk5⟩ | ⟨rfl, hJx5⟩)
    ·have hw5 : Below n₀ w₀ W5 := HW4.out.trans hk5.1
     rw [List.append_assoc, show [((p, true) : Edge)] ++ [(E, false)] = [(p, true), (E, false)] from rfl, ← Hnx.out] at hJ5
     gi_wp2
     go_roundw
     case rel => exact ⟨k + 1, by go_num, by omega, hJ5, hw5⟩
     case measure => simp [intOf]; omega
    ·gi_wp2
     refine bodyPost_ret (results_none rfl _ _ _) rfl ?_
     obtain ⟨t, ht⟩ := edL_part xs (k + 1)
     exact ⟨⟨_, rfl⟩, .inr ⟨_, ⟨t, by rw [← ht, Hnx.out]; simp⟩, hJx5⟩⟩
   ·gi_wp2_with (refine ⟨fun _ h => (by cases h <;> exact trivial), ?_⟩)
    refine bodyPost_ret (results_none rfl _ _ _) rfl ?_
    obtain ⟨t, ht⟩ := edL_part xs (k + 1)
    exact ⟨⟨_, rfl⟩, .inr ⟨_, ⟨(E, false) :: t, by rw [← ht, Hnx.out]; simp⟩, hJx3⟩⟩
  ·obtain rfl : k = N := by omega
   have hall : edL (xs.take k) = edL xs := by rw [List.take_of_length_le (by omega)]
   rw [hall] at hJs
   gi_wp2
   go_end0
   exact ⟨⟨_, rfl⟩, .inl ⟨_, rfl, hJs⟩⟩

theorem edges_stops (n : Nat) (hn : 1 ≤ n) (B : Nat) (v : Value) (xs : List Sp) (hx : xs.length ≤ 2000000) (w₀ : World) (hR : SpAt w₀ v xs) (w : World) (hb0 : Below w₀.heap.size w₀ w) (hBw : B < w.heap.size) (hB : w.cell? ⟨B, 0, none⟩ = some v) :
  SeqStopsK Fence.wide n Try.prog 45 #[.pointer (some ⟨B, 0, none⟩)] encE (KS w₀.heap.size) (fun ys => ys = edL xs) (fun pre => pre <+: edL xs) (xs.length * 2 + 1) w := fun l J Jx W hW hJ _ hY h0 =>
 edges1_in n hn l B w₀.heap.size v xs hx w₀ rfl hR J Jx hY W (hb0.trans (hW.mono hb0.size)) hJ ((hW.cell (p := ⟨B, 0, none⟩) hBw).trans hB) h0

set_option maxHeartbeats 1000000 in
theorem edges_any (ao : Option Addr) (m c : Nat) (w : World) :
  Calls Try.prog 29 #[.slice ao m c] w fun e w' => e = .returned (.func (.func 45) #[] #[.pointer (some ⟨w.heap.size, 0, none⟩)]) ∧ w' = w.alloc (.cells #[.slice ao m c] 24) := by
 go_enter Try.func29, Try.ntmps29
 go_wp2
 go_ret
 exact ⟨rfl, rfl⟩
end Go.Proofs.Ytmedickofiielaa

namespace Go.Proofs.Ytmedickofiielaa
open Go.RowKit Go.Shelf
attribute [local go_sem] Oper.semAt_some

theorem boxed_turn {W W' : World} {row : Option Nat} {B : Nat} {t : TypeId} {v : Value} (h : Boxed W B t v) (hg : W.grownBy W' row) (hr : ∀ r, row = some r → ∃ o : Obj, W.heap[r]? = some o ∧ o.isCells = false) : Boxed W' B t v :=
 h.kept hg (fun e => by obtain ⟨o, ho, hc⟩ := hr B e.symm; rw [show W.heap[B]? = _ from h] at ho; cases ho; cases hc)
theorem boxed_far {W : World} {B C : Nat} {t : TypeId} {v : Value} (u : Value) (h : Boxed W B t v) (hne : B ≠ C) : Boxed (W.setCell ⟨C, 0, none⟩ u) B t v := by
 show (W.setCell ⟨C, 0, none⟩ u).heap[B]? = _
 rw [Below.heap_setCell _ _ _ _ hne]
 exact h
set_option maxRecDepth 100000 in
set_option maxHeartbeats 4000000 in
theorem spMay_any (v : Value) (xs : List Sp) (w : World) (h : SpAt w v xs) (hx : xs.length ≤ 2000000) (hwf : sWf xs) :
  Calls Try.prog 14 #[v] w fun e W' => e = .returned (.bool (sMay xs)) ∧ Below w.heap.size w W' := by
 rw [← edOk_sMay hwf]
 have H := Lib.hid h
 obtain ⟨ao, cap, rfl, _⟩ := h
 obtain ⟨n, hn⟩ : ∃ n, xs.length = n := ⟨_, rfl⟩
 rw [hn] at H ⊢
 have hst := edges_stops 4 (by decide) (w.heap.size + 2) _ xs hx w H.out
 rw [hn] at hst
 clear hn
 refine (callsIn_wide (n := 5)).1 ?_
 refine callsIn_of_wp_marks Try.func14 rfl trivial ?_ rfl
 simp only [Try.ntmps14, List.size_toArray, List.length_cons, List.length_nil, Nat.reduceAdd, Nat.reduceSub, Array.replicate_succ, Array.replicate_zero, List.push_toArray, List.append_toArray, List.nil_append, List.cons_append]
 gi_wp2_with (refine ⟨trivial, ?_⟩; gi_at_call 29; refine (callsIn_wide.2 (edges_any _ _ _ _)).mono ?_; rintro e w1 ⟨rfl, rfl⟩)
 have b0 := Boxed.new w 4 (.bool false)
 have b1 := Boxed.new (w.alloc (.cells #[.bool false] 4)) 3 (.int .i64 (-1))
 have b2 := Boxed.new ((w.alloc (.cells #[.bool false] 4)).alloc (.cells #[.int .i64 (-1)] 3)) 24 (.slice ao n cap)
 have hB0 : Below w.heap.size w (((w.alloc (.cells #[.bool false] 4)).alloc (.cells #[.int .i64 (-1)] 3)).alloc (.cells #[.slice ao n cap] 24)) := (((Below.refl _ w).alloc (Nat.le_refl _) _).alloc (by simp) _).alloc (by simp; omega) _
 have b0' := (b0.alloc (.cells #[.int .i64 (-1)] 3)).alloc (.cells #[.slice ao n cap] 24)
 have b1' := b1.alloc (.cells #[.slice ao n cap] 24)
 rw [World.size_alloc] at b1 b1' b2
 rw [World.size_alloc] at b2
 obtain ⟨w3, hw3⟩ : ∃ X, (((w.alloc (.cells #[.bool false] 4)).alloc (.cells #[.int .i64 (-1)] 3)).alloc (.cells #[.slice ao n cap] 24)) = X := ⟨_, rfl⟩
 have hsz : w3.heap.size = w.heap.size + 3 := by rw [← hw3]; simp
 rw [hw3] at b0' b1' b2 hB0 ⊢
 have hst := hst w3 hB0 (by omega) b2.cell
 clear hw3 b0 b1
 refine wpIn_rangeFunc_ownF rfl (by decide) (gf := 45) (lb := #[.pointer (some ⟨w.heap.size + 2, 0, none⟩)]) rfl trivial (enters_of Try.func45 (by kernel_rfl) rfl)
  hst (fun h k => ks_t h k) (ks_b (by omega)) (Below.refl _ _) (fun _ => rfl)
  (fun pre W => (edOk (-1) pre = true ∧ Boxed W w.heap.size 4 (.bool false) ∧ Boxed W (w.heap.size + 1) 3 (.int .i64 (edLast (-1) pre))) ∧ Below w.heap.size w W)
  (fun c pre W => (c = .ret ∧ edOk (-1) pre = false ∧ Boxed W w.heap.size 4 (.bool false)) ∧ Below w.heap.size w W)
  (OwnFrom.and (Own.from (fun s A B row hs hg hr => ⟨hs.1, boxed_turn hs.2.1 hg hr, boxed_turn hs.2.2 hg hr⟩) _) (ownFrom_below (Nat.le_refl _) (by omega)))
  (fun c => OwnFrom.and (Own.from (fun s A B row hs hg hr => ⟨hs.1, hs.2.1, boxed_turn hs.2.2 hg hr⟩) _) (ownFrom_below (Nat.le_refl _) (by omega)))
  ⟨⟨rfl, b0', b1'⟩, hB0⟩
  (fun x => { tmps := #[.slice ao n cap, undef, .pointer (some ⟨w.heap.size, 0, none⟩), .pointer (some ⟨w.heap.size + 1, 0, none⟩), .int .i64 x.1, .slice ao n cap, .func (.func 45) #[] #[.pointer (some ⟨w.heap.size + 2, 0, none⟩)], .int .i64 x.1, .bool x.2, undef, undef, undef, undef, undef, undef, undef, undef], defers := [] }) ?assign ?body ?done ?stop
 case assign =>
  intro l x W K hK
  gi_wp2
  exact hK
 case body =>
  rintro l pre x W ⟨⟨hp, c0, c1⟩, hB⟩ _
  obtain ⟨L, hL⟩ : ∃ L, edLast (-1) pre = L := ⟨_, rfl⟩
  have hsn := edOk_snoc (e := x) hp
  rw [hL] at c1 hsn
  have d0 := c0.cell
  have f0 := c0.frozen
  have d1 := c1.cell
  have f1 := c1.frozen
  obtain ⟨a, bg⟩ := x
  dsimp only at hsn ⊢
  by_cases hok : L < a ∧ a ≤ 20000
  ·rw [decide_eq_true hok] at hsn
   have e1 : ¬ a ≤ L := by omega
   have e2 : ¬ (20000 : Int) < a := by omega
   have Hsn := Lib.hid hsn
   clear hsn hp
   gi_wp2
   exact ⟨KeepsOthers.setCell _ _ _, KS.set c1 (by decide) (by omega), ⟨Hsn.out, boxed_far _ c0 (by omega), by rw [edLast_snoc]; exact c1.set _⟩, hB.setCell (p := ⟨w.heap.size + 1, 0, none⟩) (by show _ ≤ w.heap.size + 1; omega) _⟩
  ·rw [decide_eq_false hok] at hsn
   have Hsn := Lib.hid hsn
   clear hsn hp
   rcases (show a ≤ L ∨ (¬ a ≤ L ∧ (20000 : Int) < a) by omega) with e1 | ⟨e1, e2⟩
   all_goals
    gi_wp2
    exact ⟨KeepsOthers.setCell _ _ _, ⟨rfl, Hsn.out, c0.set _⟩, hB.setCell (p := ⟨w.heap.size, 0, none⟩) (Nat.le_refl _) _⟩
 case done =>
  rintro D ys W hD rfl ⟨⟨hne, c0, c1⟩, hB⟩ hK
  have d0 := c0.cell
  have f0 := c0.frozen
  gi_wp2
  have hK' := (KeepsOthers.setCell W ⟨w.heap.size, 0, none⟩ (.bool true)).same D _ hK rfl
  refine ⟨by simp, .inl ⟨_, _, rfl, run_takeDeferred hK', ?_⟩⟩
  have hc5 := cell_kept (c0.set (.bool true)).cell (grownBy_putObj' _ D (.deferred none)) (fun r e => by cases e; exact ⟨_, hK', rfl⟩)
  refine ⟨.bool true, ?_, by rw [hne], (hB.setCell (p := ⟨w.heap.size, 0, none⟩) (Nat.le_refl _) _).trans (belowK_b (w := w) (Nat.le_refl _) _ D _ _ (by omega) hK' rfl rfl)⟩
  simp [results, Try.f14, go_sem, hc5]
 case stop =>
  rintro D c pre W hD hpre ⟨⟨rfl, hno, c0⟩, hB⟩ hK
  gi_wp2
  refine ⟨by simp, .inl ⟨_, _, rfl, run_takeDeferred hK, ?_⟩⟩
  have hc5 := cell_kept c0.cell (grownBy_putObj' _ D (.deferred none)) (fun r e => by cases e; exact ⟨_, hK, rfl⟩)
  have hf : edOk (-1) (edL xs) = false := by
   cases hz : edOk (-1) (edL xs) with
   | false => rfl
   | true =>
    obtain ⟨t, ht⟩ := hpre
    rw [← ht] at hz
    rw [edOk_part hz] at hno
    cases hno
  refine ⟨.bool false, ?_, by rw [hf], hB.trans (belowK_b (w := w) (Nat.le_refl _) W D _ _ (by omega) hK rfl rfl)⟩
  simp [results, Try.f14, go_sem, hc5]
end Go.Proofs.Ytmedickofiielaa

namespace Go.Proofs.Ytmedickofiielaa
open Go.RowKit Go.Shelf
attribute [local go_sem] Oper.semAt_some

theorem edSum_none (p : Int) {W : World} {B : Nat} (h : Boxed W B 3 (.int .i64 0)) : Boxed W B 3 (.int .i64 (wrap64 (edSum p []))) := by
 rw [show edSum p [] = 0 from rfl, show wrap64 0 = 0 by unfold wrap64; omega]
 exact h
set_option maxRecDepth 100000 in
set_option maxHeartbeats 4000000 in
theorem spAhead_any (v : Value) (xs : List Sp) (p : Int) (w : World) (h : SpAt w v xs) (hx : xs.length ≤ 2000000) (hwf : sWf xs) :
  Calls Try.prog 31 #[v, .int .i64 p] w fun e W' => e = .returned (.int .i64 (if sMay xs then (cntTo (sMark xs) (min 20000 p.toNat) : Nat) else 0)) ∧ Below w.heap.size w W' := by
 have hMay := fun W (hW : SpAt W v xs) => spMay_any v xs W hW hx hwf
 have H := Lib.hid h
 obtain ⟨ao, cap, rfl, _⟩ := h
 have r0 := H.out.below ((Below.refl w.heap.size w).alloc (Nat.le_refl _) (.cells #[.int .i64 p] 3))
 have hMay := hMay _ r0
 obtain ⟨n, hn⟩ : ∃ n, xs.length = n := ⟨_, rfl⟩
 rw [hn] at H hMay ⊢
 have hst := fun m W (hW : SpAt W (.slice ao n cap) xs) => edges_stops 3 (by decide) m _ xs hx W hW
 rw [hn] at hst
 clear hn r0
 have p0 := Boxed.new w 3 (.int .i64 p)
 have hP0 : Below w.heap.size w (w.alloc (.cells #[.int .i64 p] 3)) := (Below.refl _ w).alloc (Nat.le_refl _) _
 cases hm : sMay xs with
 | false =>
  rw [hm] at hMay
  refine (callsIn_wide (n := 4)).1 ?_
  refine callsIn_of_wp_marks Try.func31 rfl trivial ?_ rfl
  simp only [Try.ntmps31, List.size_toArray, List.length_cons, List.length_nil, Nat.reduceAdd, Nat.reduceSub, Array.replicate_succ, Array.replicate_zero, List.push_toArray, List.append_toArray, List.nil_append, List.cons_append]
  gi_wp2_with (refine ⟨trivial, ?_⟩; gi_at_call 14; refine (callsIn_wide.2 hMay).mono ?_; rintro e w1 ⟨rfl, hb1⟩)
  have hb := hP0.trans (hb1.mono (by simp))
  exact ⟨_, results_tmp rfl _ _ _, rfl, hb⟩
 | true =>
  rw [hm] at hMay
  have hG := (sMay_good xs).1 hm
  refine (callsIn_wide (n := 4)).1 ?_
  refine callsIn_of_wp_marks Try.func31 rfl trivial ?_ rfl
  simp only [Try.ntmps31, List.size_toArray, List.length_cons, List.length_nil, Nat.reduceAdd, Nat.reduceSub, Array.replicate_succ, Array.replicate_zero, List.push_toArray, List.append_toArray, List.nil_append, List.cons_append]
  gi_wp2_with (refine ⟨trivial, ?_⟩; first | (gi_at_call 14; refine (callsIn_wide.2 hMay).mono ?_; clear hMay; rintro e w1 ⟨rfl, hb1⟩) | (gi_at_call 29; refine (callsIn_wide.2 (edges_any _ _ _ _)).mono ?_; rintro e _ ⟨rfl, rfl⟩))
  have hw1 : Below w.heap.size w w1 := hP0.trans (hb1.mono (by simp))
  have r1 := H.out.below hw1
  have p1 : Boxed w1 w.heap.size 3 (.int .i64 p) := by
   show w1.heap[w.heap.size]? = _
   rw [hb1.block _ (by simp)]
   exact p0
  have hsz1 : w.heap.size < w1.heap.size := p1.lt
  have b0 := Boxed.new w1 3 (.int .i64 0)
  have b2 := Boxed.new (w1.alloc (.cells #[.int .i64 0] 3)) 24 (.slice ao n cap)
  have hB0 : Below w1.heap.size w1 ((w1.alloc (.cells #[.int .i64 0] 3)).alloc (.cells #[.slice ao n cap] 24)) := ((Below.refl _ w1).alloc (Nat.le_refl _) _).alloc (by simp) _
  have b0' := b0.alloc (.cells #[.slice ao n cap] 24)
  have p2 := (p1.alloc (.cells #[.int .i64 0] 3)).alloc (.cells #[.slice ao n cap] 24)
  rw [World.size_alloc] at b2
  obtain ⟨w3, hw3⟩ : ∃ X, ((w1.alloc (.cells #[.int .i64 0] 3)).alloc (.cells #[.slice ao n cap] 24)) = X := ⟨_, rfl⟩
  have hsz : w3.heap.size = w1.heap.size + 2 := by rw [← hw3]; simp
  rw [hw3] at b0' b2 hB0 p2 ⊢
  have hB3 : Below w.heap.size w w3 := hw1.trans (hB0.mono (by omega))
  have hst := hst (w1.heap.size + 1) w1 r1 w3 hB0 (by omega) b2.cell
  clear hw3 b0 p0 p1 r1
  refine wpIn_rangeFunc_ownF rfl (by decide) (gf := 45) (lb := #[.pointer (some ⟨w1.heap.size + 1, 0, none⟩)]) rfl trivial (enters_of Try.func45 (by kernel_rfl) rfl)
   hst (fun h k => ks_t h k) (ks_b (by omega)) (Below.refl _ _) (fun _ => rfl)
   (fun pre W => (Boxed W w.heap.size 3 (.int .i64 p) ∧ Boxed W w1.heap.size 3 (.int .i64 (wrap64 (edSum p pre)))) ∧ Below w.heap.size w W)
   (fun c pre W => (False) ∧ Below w.heap.size w W)
   (OwnFrom.and (Own.from (fun s A B row hs hg hr => ⟨boxed_turn hs.1 hg hr, boxed_turn hs.2 hg hr⟩) _) (ownFrom_below (Nat.le_refl _) (by omega)))
   (fun c => OwnFrom.and (Own.from (fun s A B row hs hg hr => hs.elim) _) (ownFrom_below (Nat.le_refl _) (by omega)))
   ⟨⟨p2, edSum_none p b0'⟩, hB3⟩
   (fun x => { tmps := #[.slice ao n cap, .int .i64 p, undef, .pointer (some ⟨w.heap.size, 0, none⟩), .int .i64 0, .pointer (some ⟨w1.heap.size, 0, none⟩), .int .i64 x.1, .bool x.2, .slice ao n cap, .bool true, .bool false, .slice ao n cap, .func (.func 45) #[] #[.pointer (some ⟨w1.heap.size + 1, 0, none⟩)], .int .i64 x.1, .bool x.2, undef, undef, undef, undef, undef, undef, undef, undef, undef, undef, undef, undef], defers := [] }) ?assign ?body ?done ?stop
  case assign =>
   intro l x W K hK
   gi_wp2
   exact hK
  case body =>
   rintro l pre x W ⟨⟨c0, c1⟩, hB⟩ _
   have hsn := edSum_snoc p pre x
   obtain ⟨L, hL⟩ : ∃ L, edSum p pre = L := ⟨_, rfl⟩
   rw [hL] at c1 hsn
   have d0 := c0.cell
   have f0 := c0.frozen
   have d1 := c1.cell
   have f1 := c1.frozen
   obtain ⟨a, bg⟩ := x
   dsimp only at hsn ⊢
   have hwr : ∀ z : Int, wrap64 (wrap64 L + z) = wrap64 (L + z) := fun z => by unfold wrap64; omega
   have hwr' : ∀ z : Int, wrap64 (wrap64 L - z) = wrap64 (L + -z) := fun z => by unfold wrap64; omega
   have Hwr := Lib.hid hwr
   have Hwr' := Lib.hid hwr'
   obtain ⟨m, hm2, hm3⟩ : ∃ m, min a p = m ∧ ((p < a ∧ m = p) ∨ (¬ p < a ∧ m = a)) := ⟨_, rfl, by omega⟩
   rw [hm2] at hsn
   have Hsn := Lib.hid hsn
   clear hsn hwr hwr' hm2
   rcases hm3 with ⟨h1, rfl⟩ | ⟨h1, rfl⟩
   all_goals
    cases bg
    all_goals
     gi_wp2
     refine ⟨KeepsOthers.setCell _ _ _, KS.set c1 (by decide) (by omega), ⟨boxed_far _ c0 (by omega), ?_⟩, hB.setCell (p := ⟨w1.heap.size, 0, none⟩) (by show w.heap.size ≤ w1.heap.size; omega) _⟩
     have hq := Hsn.out
     simp only [Bool.false_eq_true, if_false, if_true] at hq
     rw [hq]
     first
      | (rw [← Hwr.out]; exact c1.set _)
      | (rw [← Hwr'.out]; exact c1.set _)
  case done =>
   rintro D ys W hD rfl ⟨⟨_, c1⟩, hB⟩ hK
   have hsum := edSum_all hG p
   rw [hsum] at c1
   have hle := cntTo_le (sMark xs) (min 20000 p.toNat)
   obtain ⟨C, hC⟩ : ∃ C, cntTo (sMark xs) (min 20000 p.toNat) = C := ⟨_, rfl⟩
   rw [hC] at c1 hle
   have hwc : wrap64 (C : Int) = C := by unfold wrap64; omega
   rw [hwc] at c1
   have d1 := c1.cell
   have HC := Lib.hid hC
   clear hC hsum
   gi_wp2
   refine ⟨by simp, .inl ⟨_, _, rfl, run_takeDeferred hK, ?_⟩⟩
   have q := HC.out
   subst q
   exact ⟨_, results_tmp rfl _ _ _, rfl, hB.trans (belowK_b (w := w) (Nat.le_refl _) W D _ _ (by omega) hK rfl rfl)⟩
  case stop =>
   rintro D c pre W hD hpre ⟨hno, _⟩ hK
   exact hno.elim
set_option maxRecDepth 100000 in
set_option maxHeartbeats 2000000 in
theorem spTotal_any (v : Value) (xs : List Sp) (w : World) (h : SpAt w v xs) (hx : xs.length ≤ 2000000) (hwf : sWf xs) :
  Calls Try.prog 104 #[v] w fun e W' => e = .returned (.int .i64 (if sMay xs then (cntTo (sMark xs) 20000 : Nat) else 0)) ∧ Below w.heap.size w W' := by
 have hA := spAhead_any v xs 20000 w h hx hwf
 rw [show min 20000 (Int.toNat 20000) = 20000 from rfl] at hA
 obtain ⟨ao, cap, rfl, _⟩ := h
 generalize (if sMay xs = true then ((cntTo (sMark xs) 20000 : Nat) : Int) else 0) = z at hA ⊢
 go_enter Try.func104, Try.ntmps104
 go_wp2_with (go_at_call 31; refine hA.mono ?_; clear hA; rintro e w1 ⟨rfl, hb⟩)
 go_ret
 exact ⟨rfl, hb⟩
end Go.Proofs.Ytmedickofiielaa

namespace Go.Proofs.Ytmedickofiielaa
open Go.RowKit

end Go.Proofs.Ytmedickofiielaa

namespace Go.Proofs.Ytmedickofiielaa
open Go.RowKit Go.Shelf
attribute [local go_sem] Oper.semAt_some

end Go.Proofs.Ytmedickofiielaa

namespace Go.Proofs.Ytmedickofiielaa
open Go.RowKit

end Go.Proofs.Ytmedickofiielaa

namespace Go.Proofs.Ytmedickofiielaa
open Go.RowKit Go.Shelf

def OwnErrPost (b : Bool) (l : List Sp) (w : World) (e : Ending) (w' : World) : Prop :=
 ∃ v, e = .returned (.tuple #[v, .int .i64 (if b then 0 else 1)]) ∧ w'.ownsRow w.heap.size 76 2 v (if b then l else []).length (spCells (if b then l else [])) ∧ Below w.heap.size w w'
theorem OwnErrPost.no {b : Bool} {l : List Sp} {w w' : World} (h : b = false) (hb : Below w.heap.size w w') : OwnErrPost b l w (.returned (.tuple #[.slice none 0 0, .int .i64 1])) w' :=
 ⟨_, by rw [h]; rfl, by rw [h]; exact World.ownsRow_nil _ _ _ _, hb⟩
theorem OwnErrPost.yes {b : Bool} {l : List Sp} {w w' : World} {v : Value} (h : b = true) (ho : w'.ownsRow w.heap.size 76 2 v l.length (spCells l)) (hb : Below w.heap.size w w') : OwnErrPost b l w (.returned (.tuple #[v, .int .i64 0])) w' :=
 ⟨_, by rw [h]; rfl, by rw [h]; exact ho, hb⟩
end Go.Proofs.Ytmedickofiielaa

namespace Go.Proofs.Ytmedickofiielaa
open Go.RowKit

def OwnOpenPost (xs : List Sp) (p n : Int) (w : World) (e : Ending) (w' : World) : Prop := OpenPost xs p n w e w' ∧ ∀ v, e = .returned (.tuple #[v, .int .i64 0]) → w'.ownsRow w.heap.size 76 2 v (opL xs p n).length (spCells (opL xs p n))
theorem OwnOpenPost.no {xs : List Sp} {p n : Int} {w w' : World} {c : Int} (h : opC xs p n = c) (hc : c ≠ 0) (hb : Below w.heap.size w w') : OwnOpenPost xs p n w (.returned (.tuple #[.slice none 0 0, .int .i64 c])) w' :=
 ⟨OpenPost.no h hc hb, fun v e => by simp at e; exact absurd e.2 hc⟩
theorem OwnOpenPost.yes {xs : List Sp} {p n : Int} {w w' : World} {v : Value} (h : opC xs p n = 0) (hv : w'.ownsRow w.heap.size 76 2 v (opL xs p n).length (spCells (opL xs p n))) (hb : Below w.heap.size w w') : OwnOpenPost xs p n w (.returned (.tuple #[v, .int .i64 0])) w' :=
 ⟨OpenPost.yes h (SpAt.of_own hv) hb, fun u e => by simp at e; exact e ▸ hv⟩
theorem OwnOpenPost.zero {xs : List Sp} {p n : Int} {w w' : World} {e : Ending} (hop : opC xs p n = 0) (h : OwnOpenPost xs p n w e w') : ∃ v, e = .returned (.tuple #[v, .int .i64 0]) ∧ w'.ownsRow w.heap.size 76 2 v (opL xs p n).length (spCells (opL xs p n)) ∧ Below w.heap.size w w' := by
 obtain ⟨h1, h2⟩ := h
 unfold OpenPost at h1
 rw [hop] at h1
 obtain ⟨v, rfl, _, hb⟩ := h1
 exact ⟨v, rfl, h2 v rfl, hb⟩
end Go.Proofs.Ytmedickofiielaa
