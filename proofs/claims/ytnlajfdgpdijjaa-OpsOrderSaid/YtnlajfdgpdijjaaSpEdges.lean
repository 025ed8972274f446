/- spans.edges: the iterator's contract, for whatever loop body that turns no cell of a span. -/
import Derived.Test.YtnlajfdgpdijjaaSpPut
import Derived.RangeFuncNested
import Derived.RangeFuncBound
import Derived.RangeFuncCalls
import Derived.RangeFuncLeaves
import Derived.RangeFuncBox
import Derived.Shelf.Abstract
import Derived.Shelf.RegionOpen
import Derived.WalkKit
import Derived.WalkSpells
import Derived.OwnWalkIn
import Derived.TacticsInMore
import Derived.LoopNIn
import Derived.LoopIn
import Derived.Lib.Hide
import Derived.Lib.PathFns
import Derived.Outline
namespace Go.Proofs.Ytnlajfdgpdijjaa
open Go.RowKit Go.Shelf
attribute [local go_sem] Oper.semAt_some

abbrev encE (p : Edge) : Array Value := #[.int .i64 p.1, .bool p.2]
/-- What a round keeps: what lay below n₀, and every span's cells. -/
def KS (n₀ : Nat) (W W' : World) : Prop := Below n₀ W W' ∧ ∀ (i : Nat) (c : Array Value) (fr : Nat × Nat), W.heap[i]? = some (.cells c 69 fr) → W'.heap[i]? = some (.cells c 69 fr)
theorem ks_t {n₀ : Nat} {X Y Z : World} (h : KS n₀ X Y) (k : KS n₀ Y Z) : KS n₀ X Z := ⟨h.1.trans k.1, fun i c fr q => k.2 i c fr (h.2 i c fr q)⟩
theorem ks_b {n₀ : Nat} {w : World} (hn : n₀ ≤ w.heap.size) (W : World) (l : Nat) (o o' : Obj) (hl : w.heap.size ≤ l) (h : W.heap[l]? = some o) (hc : o.isCells = false) (hw : o.isWalk = false) : KS n₀ W (W.putObj l o') := by
  refine ⟨belowK_b hn W l o o' hl h hc hw, fun i c fr q => ?_⟩
  by_cases e : i = l
  · subst e
    rw [q] at h
    cases h
    cases hc
  · rw [World.putObj_heap_other (by omega)]
    exact q
theorem KS.refl (n₀ : Nat) (W : World) : KS n₀ W W := ⟨Below.refl _ _, fun _ _ _ q => q⟩
theorem KS.set {n₀ B : Nat} {W : World} {t : TypeId} {v u : Value} (hB : Boxed W B t v) (ht : t ≠ 69) (hn : n₀ ≤ B) : KS n₀ W (W.setCell ⟨B, 0, none⟩ u) := by
  refine ⟨(Below.refl n₀ W).setCell (p := ⟨B, 0, none⟩) hn u, fun i c fr q => ?_⟩
  by_cases e : i = B
  · subst e
    rw [show W.heap[i]? = _ from hB] at q
    cases q
    exact absurd rfl ht
  · rw [Below.heap_setCell _ _ _ _ e]
    exact q
theorem KS.alloc {n₀ : Nat} {W : World} (hn : n₀ ≤ W.heap.size) (o : Obj) : KS n₀ W (W.alloc o) :=
  ⟨(Below.refl n₀ W).alloc hn o, fun i c fr q => by rw [Below.heap_alloc _ _ _ (Array.getElem?_eq_some_iff.1 q).1]; exact q⟩

set_option maxRecDepth 100000 in
set_option maxHeartbeats 2000000 in
theorem edges1_in (n : Nat) (hn : 1 ≤ n) (l B n₀ : Nat) (v : Value) (xs : List Sp) (hx : xs.length ≤ 2000000) (w₀ : World) (h₀ : n₀ = w₀.heap.size) (hR : SpAt w₀ v xs) (J Jx : List Edge → World → Prop)
    (hY : ∀ pre x W, J pre W → pre.length < xs.length * 2 + 1 → YieldAt Fence.wide (n - 1) Try.prog l (encE x) W fun e W' =>
      (e = .returned (.bool true) ∧ J (pre ++ [x]) W' ∧ KS n₀ W W') ∨ (e = .returned (.bool false) ∧ Jx (pre ++ [x]) W'))
    (W : World) (hb0 : Below n₀ w₀ W) (hJ : AbidesFrom W.heap.size J) (hB : W.cell? ⟨B, 0, none⟩ = some v) (h0 : J [] W) :
    CallsIn Fence.wide n Try.prog 105 #[.func (.yield l) #[] #[], .pointer (some ⟨B, 0, none⟩)] W fun e W' => (∃ v, e = .returned v) ∧
      ((∃ ys, ys = edL xs ∧ J ys W') ∨ (∃ pre, pre <+: edL xs ∧ Jx pre W')) := by
  have hRw := fun W' (h : Below n₀ w₀ W') => hR.below (h₀ ▸ h)
  have hE := fun s W => spEnd_any s W
  obtain ⟨ao, cap, rfl, _⟩ := id hR
  obtain ⟨N, hN⟩ : ∃ N, xs.length = N := ⟨_, rfl⟩
  rw [hN] at hB hx hY
  have HN := Lib.hid hN
  refine callsIn_of_wp Try.func105 rfl trivial ?_ rfl
  simp only [Try.ntmps105, List.size_toArray, List.length_cons, List.length_nil, Nat.reduceAdd, Nat.reduceSub, Array.replicate_succ, Array.replicate_zero, List.push_toArray, List.append_toArray, List.nil_append, List.cons_append]
  gi_wp2
  gi_loopw [7] (fun p wr => ∃ k : Nat, p = .int .i64 k ∧ k ≤ N ∧ J (edL (xs.take k)) wr ∧ Below n₀ w₀ wr)
    (fun p _ => N - (intOf p).toNat)
  case atStart => exact ⟨0, rfl, Nat.zero_le _, by rw [List.take_zero]; exact h0, hb0⟩
  case round =>
    obtain ⟨k, rfl, hk, hJs, hbw⟩ := hrel
    by_cases hlt : k < N
    · have hkx : k < xs.length := by omega
      obtain ⟨b, off, cap', hv, c0, c1⟩ := (hRw _ hbw).at hkx
      cases hv
      have hnx := edL_take hkx
      have hgrow : ∀ w1, Below wr.heap.size wr w1 → wr.grownBy w1 none := fun w1 hb => ⟨hb.os, hb.tape, hb.output, hb.size, fun i hi _ => hb.block i hi⟩
      have hJ1 : ∀ w1, Below wr.heap.size wr w1 → J (edL (xs.take k)) w1 := fun w1 hb => hJ _ wr w1 none hJs (hgrow w1 hb) (fun r e => by cases e)
      have hpre := edL_length (xs.take k)
      rw [List.length_take] at hpre
      obtain ⟨p, hp⟩ : ∃ p, (xs.getD k (0, 0)).1 = p := ⟨_, rfl⟩
      obtain ⟨q, hq⟩ : ∃ q, (xs.getD k (0, 0)).2 = q := ⟨_, rfl⟩
      obtain ⟨E, hEE⟩ : ∃ E, spEnd (xs.getD k (0, 0)) = E := ⟨_, rfl⟩
      have hE := fun W => hE (xs.getD k (0, 0)) W
      rw [hp, hq, hEE] at hE
      rw [hp, hEE] at hnx
      rw [hp] at c0
      rw [hq] at c1
      have Hnx := Lib.hid hnx
      have HJ1 := Lib.hid hJ1
      have HJs := Lib.hid hJs
      have HbW := Lib.hid hbw
      have HRw := Lib.hid hRw
      have HR := Lib.hid hR
      have hki : (0 : Int) ≤ (k : Int) ∧ (k : Int) < (N : Int) := ⟨by omega, by omega⟩
      clear hnx hJ1 hgrow hp hq hEE hRw hR hJs hbw hN
      have hb1 : Below wr.heap.size wr (wr.alloc (.cells #[.int .i64 p, .int .i64 q] 69)) := (Below.refl _ wr).alloc (Nat.le_refl _) _
      have hbox : (wr.alloc (.cells #[.int .i64 p, .int .i64 q] 69)).heap[wr.heap.size]? = some (.cells #[.int .i64 p, .int .i64 q] 69 (0, 0)) := World.alloc_heap_new wr _
      have hw1 : Below n₀ w₀ (wr.alloc (.cells #[.int .i64 p, .int .i64 q] 69)) := HbW.out.trans (hb1.mono (by have := HbW.out.size; omega))
      obtain ⟨fn, tmps, assign, body, hy, hRnd⟩ := hY (edL (xs.take k)) (p, true) _ (HJ1.out _ hb1) (by omega)
      dsimp only [encE] at hy
      gi_wp2
      try (rw [hy]; gi_wp2)
      refine hRnd.mono ?_
      clear hy hRnd hb1
      rintro e W3 (⟨rfl, hJ3, hk3⟩ | ⟨rfl, hJx3⟩)
      · have hw3 : Below n₀ w₀ W3 := hw1.trans hk3.1
        have hbx3 := hk3.2 _ _ _ hbox
        have d0 : W3.cell? ⟨wr.heap.size, 0, none⟩ = some (.int .i64 p) := by simp [World.cell?, hbx3]
        have d1 : W3.cell? ⟨wr.heap.size, 1, none⟩ = some (.int .i64 q) := by simp [World.cell?, hbx3]
        have hgrow : ∀ w1, Below W3.heap.size W3 w1 → W3.grownBy w1 none := fun w1 hb => ⟨hb.os, hb.tape, hb.output, hb.size, fun i hi _ => hb.block i hi⟩
        have hb4 : Below W3.heap.size W3 (W3.alloc (.cells #[.int .i64 p, .int .i64 q] 69)) := (Below.refl _ W3).alloc (Nat.le_refl _) _
        have hJ4 : J (edL (xs.take k) ++ [(p, true)]) (W3.alloc (.cells #[.int .i64 p, .int .i64 q] 69)) := hJ _ W3 _ none hJ3 (hgrow _ hb4) (fun r e => by cases e)
        have hw4 : Below n₀ w₀ (W3.alloc (.cells #[.int .i64 p, .int .i64 q] 69)) := hw3.trans (hb4.mono (by have := hw3.size; omega))
        obtain ⟨fn2, tmps2, assign2, body2, hy2, hRnd2⟩ := hY (edL (xs.take k) ++ [(p, true)]) (E, false) _ hJ4 (by simp; omega)
        dsimp only [encE] at hy2
        have HW4 := Lib.hid hw4
        clear hw4 hJ4 hJ3 hk3 hbx3 hbox hw3 hw1 hb4 hgrow hJ
        gi_wp2_with (refine ⟨trivial, ?_⟩; gi_at_call 106; refine (callsIn_wide.2 (hE _)).mono ?_; clear hE; rintro e _ ⟨rfl, rfl⟩)
        try (rw [hy2]; gi_wp2)
        refine hRnd2.mono ?_
        clear hy2 hRnd2
        rintro e W5 (⟨rfl, hJ5, hk5⟩ | ⟨rfl, hJx5⟩)
        · have hw5 : Below n₀ w₀ W5 := HW4.out.trans hk5.1
          rw [List.append_assoc, show [((p, true) : Edge)] ++ [(E, false)] = [(p, true), (E, false)] from rfl, ← Hnx.out] at hJ5
          gi_wp2
          go_roundw
          case rel => exact ⟨k + 1, by go_num, by omega, hJ5, hw5⟩
          case measure => simp [intOf]; omega
        · gi_wp2
          refine bodyPost_ret (results_none rfl _ _ _) rfl ?_
          obtain ⟨t, ht⟩ := edL_part xs (k + 1)
          exact ⟨⟨_, rfl⟩, .inr ⟨_, ⟨t, by rw [← ht, Hnx.out]; simp⟩, hJx5⟩⟩
      · gi_wp2_with (refine ⟨fun _ h => (by cases h <;> exact trivial), ?_⟩)
        refine bodyPost_ret (results_none rfl _ _ _) rfl ?_
        obtain ⟨t, ht⟩ := edL_part xs (k + 1)
        exact ⟨⟨_, rfl⟩, .inr ⟨_, ⟨(E, false) :: t, by rw [← ht, Hnx.out]; simp⟩, hJx3⟩⟩
    · obtain rfl : k = N := by omega
      have hall : edL (xs.take k) = edL xs := by rw [List.take_of_length_le (by omega)]
      rw [hall] at hJs
      gi_wp2
      go_end0
      exact ⟨⟨_, rfl⟩, .inl ⟨_, rfl, hJs⟩⟩

theorem edges_stops (n : Nat) (hn : 1 ≤ n) (B : Nat) (v : Value) (xs : List Sp) (hx : xs.length ≤ 2000000) (w₀ : World) (hR : SpAt w₀ v xs) (w : World) (hb0 : Below w₀.heap.size w₀ w) (hBw : B < w.heap.size) (hB : w.cell? ⟨B, 0, none⟩ = some v) :
    SeqStopsK Fence.wide n Try.prog 105 #[.pointer (some ⟨B, 0, none⟩)] encE (KS w₀.heap.size) (fun ys => ys = edL xs) (fun pre => pre <+: edL xs) (xs.length * 2 + 1) w := fun l J Jx W hW hJ _ hY h0 =>
  edges1_in n hn l B w₀.heap.size v xs hx w₀ rfl hR J Jx hY W (hb0.trans (hW.mono hb0.size)) hJ ((hW.cell (p := ⟨B, 0, none⟩) hBw).trans hB) h0

set_option maxHeartbeats 1000000 in
theorem edges_any (ao : Option Addr) (m c : Nat) (w : World) :
    Calls Try.prog 104 #[.slice ao m c] w fun e w' => e = .returned (.func (.func 105) #[] #[.pointer (some ⟨w.heap.size, 0, none⟩)]) ∧ w' = w.alloc (.cells #[.slice ao m c] 24) := by
  go_enter Try.func104, Try.ntmps104
  go_wp2
  go_ret
  exact ⟨rfl, rfl⟩
end Go.Proofs.Ytnlajfdgpdijjaa
