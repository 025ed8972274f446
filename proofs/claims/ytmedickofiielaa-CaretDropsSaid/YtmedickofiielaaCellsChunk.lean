/- A row in parts of 128 at most: the iterator. -/
import Derived.Test.YtmedickofiielaaGCellsBlk
import Derived.BigRegionIn
namespace Go.Proofs.Ytmedickofiielaa
open Go.RowKit Go.Shelf
attribute [local go_sem] Oper.semAt_some

def chN (N : Nat) : Nat := (N + 127) / 128
def chL (N k : Nat) : Nat := min 128 (N - 128 * k)
def frK (n k : Nat) : List (Fin n) := (List.finRange n).take k
theorem frK_next (n k : Nat) (h : k < n) : frK n (k + 1) = frK n k ++ [⟨k, h⟩] := by
 unfold frK
 rw [List.take_add_one]
 congr 1
 simp [h]
theorem frK_length (n k : Nat) (h : k ≤ n) : (frK n k).length = k := by simp [frK, h]
theorem frK_pre (n k : Nat) : frK n k <+: List.finRange n := List.take_prefix _ _
theorem frK_all (n : Nat) : frK n n = List.finRange n := by unfold frK; rw [List.take_of_length_le (by simp)]
abbrev encK (ao : Option Addr) (N : Nat) (x : Fin (chN N)) : Array Value := #[.slice (ao.map fun a => a.add (128 * x.val * 5)) (chL N x.val) (chL N x.val)]
theorem chN_lt {N k : Nat} : k < chN N ↔ 128 * k < N := by unfold chN; omega

set_option maxRecDepth 100000 in
set_option maxHeartbeats 4000000 in
theorem chunk1_in (n : Nat) (hn : 1 ≤ n) (l Bs Bn n₀ m₁ : Nat) (ao : Option Addr) (N cap : Nat) (hao : 0 < N → ∃ b off, ao = some ⟨b, off, none⟩) (hN : N ≤ 1000000) (hcap : N ≤ cap) (J Jx : List (Fin (chN N)) → World → Prop)
  (hY : ∀ pre x W, J pre W → pre.length < chN N → YieldAt Fence.wide (n - 1) Try.prog l (encK ao N x) W fun e W' =>
   (e = .returned (.bool true) ∧ J (pre ++ [x]) W' ∧ KF n₀ m₁ W W') ∨ (e = .returned (.bool false) ∧ Jx (pre ++ [x]) W'))
  (W : World) (hJ : AbidesFrom W.heap.size J) (hBs : W.heap[Bs]? = some (.cells #[.slice ao N cap] 36 (0, 0))) (hBn : W.heap[Bn]? = some (.cells #[.int .i64 128] 3 (0, 0))) (hm : m₁ ≤ Bs) (hm2 : m₁ ≤ Bn) (h0 : J [] W) :
  CallsIn Fence.wide n Try.prog 50 #[.func (.yield l) #[] #[], .pointer (some ⟨Bs, 0, none⟩), .pointer (some ⟨Bn, 0, none⟩)] W fun e W' => (∃ v, e = .returned v) ∧
   ((∃ ys, ys = List.finRange (chN N) ∧ J ys W') ∨ (∃ pre, pre <+: List.finRange (chN N) ∧ Jx pre W')) := by
 refine callsIn_of_wp Try.func50 rfl trivial ?_ rfl
 simp only [Try.ntmps50, List.size_toArray, List.length_cons, List.length_nil, Nat.reduceAdd, Nat.reduceSub, Array.replicate_succ, Array.replicate_zero, List.push_toArray, List.append_toArray, List.nil_append, List.cons_append]
 gi_wp2
 gi_loopw [4] (fun i wr => ∃ k : Nat, i = .int .i64 ((128 * k : Nat) : Int) ∧ k ≤ chN N ∧ J (frK (chN N) k) wr ∧ wr.heap[Bs]? = some (.cells #[.slice ao N cap] 36 (0, 0)) ∧ wr.heap[Bn]? = some (.cells #[.int .i64 128] 3 (0, 0)))
  (fun i _ => N + 128 - (intOf i).toNat)
 case atStart => exact ⟨0, rfl, Nat.zero_le _, h0, hBs, hBn⟩
 case round =>
  obtain ⟨k, rfl, hk, hJs, hbs, hbn⟩ := hrel
  by_cases hlt : k < chN N
  ·have hlt2 := chN_lt.1 hlt
   obtain ⟨b, off, rfl⟩ := hao (by omega)
   have hnx := frK_next (chN N) k hlt
   obtain ⟨fn, tmps, assign, body, hy, hRnd⟩ := hY (frK (chN N) k) ⟨k, hlt⟩ _ (hJ _ wr wr.drew none hJs ⟨rfl, rfl, rfl, Nat.le_refl _, fun _ _ _ => rfl⟩ (fun r e => by cases e)) (by rw [frK_length _ _ (Nat.le_of_lt hlt)]; exact hlt)
   dsimp only [encK, Option.map] at hy
   simp only [Addr.add_lit] at hy
   have q0 := box_cell hbs 0
   have q1 := box_cell hbn 0
   obtain ⟨I, hI⟩ : ∃ I, 128 * k = I := ⟨_, rfl⟩
   obtain ⟨E, hE⟩ : ∃ E, chL N k = E := ⟨_, rfl⟩
   have hE2 : min 128 (N - I) = E := by rw [← hI]; exact hE
   have hE3 : E ≤ 128 ∧ 1 ≤ E ∧ I + E ≤ N := by omega
   rw [hI] at hlt2 hy ⊢
   rw [hE] at hy
   have hw1 : IntKind.i64.wrap ((I : Int) + (E : Int)) = ((I + E : Nat) : Int) := by rw [IntWalk.i64_in _ (by omega)]; omega
   have hw2 : IntKind.i64.wrap ((I : Int) + 128) = ((I + 128 : Nat) : Int) := by rw [IntWalk.i64_in _ (by omega)]; omega
   have hlt3 : (I : Int) < (N : Int) := by omega
   have Hnx := Lib.hid hnx
   have HI := Lib.hid (And.intro hI (And.intro hbs hbn))
   have HIF := Lib.hid (show (if ((N - I : Nat) : Int) < 128 then ((N - I : Nat) : Int) else 128) = (E : Int) by split <;> omega)
   clear hnx hJs hI hE hE2
   gi_wp2
   gi_region
   rw [HIF.out]
   clear q0 q1
   have q0 := box_cell (w := wr.drew) HI.out.2.1 0
   have hs1 : IntKind.i64.wrap (I : Int) = I := IntWalk.i64_in _ (by omega)
   have hx0 : (0 : Int) ≤ (I : Int) := by omega
   have hx1 : ((I : Int)) ≤ ((I + E : Nat) : Int) := by omega
   have hx2 : ((I + E : Nat) : Int) ≤ (cap : Int) := by omega
   gi_wp2
   try (rw [hy]; gi_wp2)
   refine hRnd.mono ?_
   clear hy hRnd
   rintro e W3 (⟨rfl, hJ3, hk3⟩ | ⟨rfl, hJx3⟩)
   ·have hbs3 := hk3.2 _ _ _ _ hm (by unfold RowT; decide) (show wr.drew.heap[Bs]? = _ from HI.out.2.1)
    have hbn3 := hk3.2 _ _ _ _ hm2 (by unfold RowT; decide) (show wr.drew.heap[Bn]? = _ from HI.out.2.2)
    have z0 := box_cell hbn3 0
    have H3 := Lib.hid (And.intro hbs3 (And.intro hbn3 hJ3))
    clear hbs3 hbn3 hJ3 hk3 q0
    gi_wp2
    go_roundw
    case rel =>
     obtain ⟨h1, h2, h3⟩ := H3.out
     refine ⟨k + 1, ?_, hlt, by rw [Hnx.out]; exact h3, h1, h2⟩
     rw [show 128 * (k + 1) = I + 128 by have := HI.out.1; omega]
     exact congrArg (Value.int .i64) (by push_cast; rfl)
    case measure => simp [intOf]; omega
   ·gi_wp2
    refine bodyPost_ret (results_none rfl _ _ _) rfl ?_
    refine ⟨⟨_, rfl⟩, .inr ⟨_, ?_, hJx3⟩⟩
    rw [← Hnx.out]
    exact frK_pre _ _
  ·obtain rfl : k = chN N := by omega
   rw [frK_all] at hJs
   have hge : ¬ ((128 * chN N : Nat) : Int) < (N : Int) := by unfold chN; omega
   have q0 := box_cell hbs 0
   clear hbs hbn
   gi_wp2
   go_end0
   exact ⟨⟨_, rfl⟩, .inl hJs⟩
theorem chunk_stops (n : Nat) (hn : 1 ≤ n) (Bs Bn n₀ m₁ : Nat) (ao : Option Addr) (N cap : Nat) (hao : 0 < N → ∃ b off, ao = some ⟨b, off, none⟩) (hN : N ≤ 1000000) (hcap : N ≤ cap) (w : World) (hBs : w.heap[Bs]? = some (.cells #[.slice ao N cap] 36 (0, 0))) (hBn : w.heap[Bn]? = some (.cells #[.int .i64 128] 3 (0, 0))) (hm : m₁ ≤ Bs) (hm2 : m₁ ≤ Bn) :
  SeqStopsK Fence.wide n Try.prog 50 #[.pointer (some ⟨Bs, 0, none⟩), .pointer (some ⟨Bn, 0, none⟩)] (encK ao N) (KF n₀ m₁) (fun ys => ys = List.finRange (chN N)) (fun pre => pre <+: List.finRange (chN N)) (chN N) w := fun l J Jx W hW hJ _ hY h0 =>
 chunk1_in n hn l Bs Bn n₀ m₁ ao N cap hao hN hcap J Jx hY W hJ ((hW.block _ (box_lt hBs)).trans hBs) ((hW.block _ (box_lt hBn)).trans hBn) hm hm2 h0
set_option maxHeartbeats 1000000 in
theorem chunk_any (ao : Option Addr) (N cap : Nat) (w : World) :
  Calls Try.prog 38 #[.slice ao N cap, .int .i64 128] w fun e w' => e = .returned (.func (.func 50) #[] #[.pointer (some ⟨w.heap.size, 0, none⟩), .pointer (some ⟨w.heap.size + 1, 0, none⟩)]) ∧ w' = (w.alloc (.cells #[.slice ao N cap] 36)).alloc (.cells #[.int .i64 128] 3) := by
 go_enter Try.func38, Try.ntmps38
 go_wp2
 go_ret
 exact ⟨rfl, rfl⟩
end Go.Proofs.Ytmedickofiielaa
