/- Texts of this proof, joined. -/
import Derived.Test.YtmedickofiielaaGPlain
import Derived.Test.YtmedickofiielaaShelf
import Derived.RangeFuncNested
import Derived.RangeFuncBound
import Derived.RangeFuncCalls
import Derived.RangeFuncLeaves
import Derived.Shelf.Abstract
import Derived.Shelf.RegionOpen
import Derived.WalkKit
import Derived.WalkSpells
import Derived.OwnWalkIn
import Derived.TacticsInMore
import Derived.LoopNIn
import Derived.LoopIn
import Derived.Lib.Hide
import Derived.Lib.PathFns
import Derived.Outline
import Derived.RangeFuncBox
import Derived.Laws.RangeString
import Derived.Laws.RangeAny
import Derived.Maps.AppendAt
namespace Go.Proofs.Ytmedickofiielaa
open Go.RowKit Go.Shelf
attribute [local go_sem] Oper.semAt_some

abbrev encP (p : Nat × Int) : Array Value := #[.int .i64 p.1, .int .i32 p.2]
def Kp (n₀ B : Nat) (W W' : World) : Prop := Below n₀ W W' ∧ W'.cell? ⟨B, 0, none⟩ = W.cell? ⟨B, 0, none⟩

theorem decodeGo_at (s : ByteArray) (k : Nat) (hk : k < s.size) : Lib.decodeGo (s.extract k s.size) = Lib.decodeL (s.data.toList.drop k) := by
 have e := Lib.size_eq s
 have h : s.extract k s.size = ⟨(s.data.toList.drop k).toArray⟩ := by
  rw [Lib.extract_eq, List.take_of_length_le]
  rw [List.length_drop]; omega
 rw [h]
 unfold Lib.decodeGo
 rw [if_neg]
 ·rfl
 ·rw [Lib.size_eq]
  simp only [List.length_drop]
  omega

def DecAt (s : ByteArray) (w : World) : Prop := ∀ W, Below w.heap.size w W → ∀ k, k < s.size →
 Calls Try.prog 96 #[.string (s.extract k s.size)] W fun e w' => e = .returned (.tuple #[.int .i32 (Lib.decodeGo (s.extract k s.size)).1, .int .i64 (Lib.decodeGo (s.extract k s.size)).2]) ∧ Below W.heap.size W w'
theorem DecAt.below {s : ByteArray} {w w' : World} (h : DecAt s w) (hb : Below w.heap.size w w') : DecAt s w' := fun W hW => h W (hb.trans (hW.mono hb.size))
set_option maxRecDepth 100000 in
set_option maxHeartbeats 1000000 in
theorem along1_in (n : Nat) (hn : 1 ≤ n) (l B n₀ : Nat) (s : ByteArray) (hs : s.size ≤ maxLen) (w₀ : World) (hT : DecAt s w₀) (h₀ : n₀ = w₀.heap.size) (J Jx : List (Nat × Int) → World → Prop)
  (hY : ∀ pre x W, J pre W → pre.length < s.size + 1 → YieldAt Fence.wide (n - 1) Try.prog l (encP x) W fun e W' =>
   (e = .returned (.bool true) ∧ J (pre ++ [x]) W' ∧ Kp n₀ B W W') ∨ (e = .returned (.bool false) ∧ Jx (pre ++ [x]) W'))
  (W : World) (hb0 : Below n₀ w₀ W) (hJ : AbidesFrom W.heap.size J) (hB : W.cell? ⟨B, 0, none⟩ = some (.string s)) (h0 : J [] W) :
  CallsIn Fence.wide n Try.prog 95 #[.func (.yield l) #[] #[], .pointer (some ⟨B, 0, none⟩)] W fun e W' => (∃ v, e = .returned v) ∧
   ((∃ ys, ys = itL 0 s.data.toList ∧ J ys W') ∨ (∃ pre, pre <+: itL 0 s.data.toList ∧ Jx pre W')) := by
 unfold maxLen at hs
 refine callsIn_of_wp Try.func95 rfl trivial ?_ rfl
 simp only [Try.ntmps95, List.size_toArray, List.length_cons, List.length_nil, Nat.reduceAdd, Nat.reduceSub, Array.replicate_succ, Array.replicate_zero, List.push_toArray, List.append_toArray, List.nil_append, List.cons_append]
 gi_wp2
 gi_loopw [3] (fun p wr => ∃ (k : Nat) (pre : List (Nat × Int)), p = .int .i64 k ∧ k ≤ s.size ∧ pre.length ≤ k ∧ pre ++ itL k (s.data.toList.drop k) = itL 0 s.data.toList ∧ J pre wr ∧ Below n₀ w₀ wr ∧ wr.cell? ⟨B, 0, none⟩ = some (.string s))
  (fun p _ => s.size - (intOf p).toNat)
 case atStart => exact ⟨0, [], rfl, Nat.zero_le _, Nat.zero_le _, rfl, h0, hb0, hB⟩
 case round =>
  obtain ⟨k, pre, rfl, hk, hpk, hit, hJs, hbw, hBr⟩ := hrel
  by_cases hlt : k < s.size
  ·have hne : s.data.toList.drop k ≠ [] := by
    intro e
    have h1 := congrArg List.length e
    have h2 := Lib.size_eq s
    rw [List.length_drop, List.length_nil] at h1
    omega
   have hg := decodeGo_at s k hlt
   have cD := hT wr (h₀ ▸ hbw) k hlt
   rw [hg] at cD
   have hgrow : ∀ w1, Below wr.heap.size wr w1 → wr.grownBy w1 none := fun w1 hb => ⟨hb.os, hb.tape, hb.output, hb.size, fun i hi _ => hb.block i hi⟩
   have hJ1 : ∀ w1, Below wr.heap.size wr w1 → J pre w1 := fun w1 hb => hJ pre wr w1 none hJs (hgrow w1 hb) (fun r e => by cases e)
   have hBlt : B < wr.heap.size := by
    rcases Nat.lt_or_ge B wr.heap.size with h' | h'
    ·exact h'
    ·simp [World.cell?, Array.getElem?_eq_none h'] at hBr
   have hB1 : ∀ w1, Below wr.heap.size wr w1 → w1.cell? ⟨B, 0, none⟩ = some (.string s) := fun w1 hb => (hb.cell (p := ⟨B, 0, none⟩) hBlt).trans hBr
   have hsz := hbw.size
   cases hbad : badL (s.data.toList.drop k) with
   | true =>
    have he : Lib.decodeL (s.data.toList.drop k) = (65533, 1) := by
     have := of_decide_eq_true hbad
     exact Prod.ext this.1 this.2
    rw [he] at cD
    rw [itL_bad k _ hne hbad] at hit
    clear hg he hbad hgrow hJ hbw
    gi_wp2_with (refine ⟨trivial, ?_⟩; gi_at_call 96; refine (callsIn_wide.2 cD).mono ?_; clear cD; rintro e w1 ⟨rfl, hb1⟩)
    have hJ2 := hJ1 w1 hb1
    obtain ⟨fn, tmps, assign, body, hy, hR⟩ := hY pre (k, -1) w1 hJ2 (by omega)
    dsimp only [encP] at hy
    gi_wp2
    rw [hy]
    gi_wp2
    refine hR.mono ?_
    rintro e W3 (⟨rfl, hJ3, hk3⟩ | ⟨rfl, hJx3⟩)
    ·gi_wp2
     refine bodyPost_ret (results_none rfl _ _ _) rfl ?_
     exact ⟨⟨_, rfl⟩, .inl ⟨_, hit, hJ3⟩⟩
    ·gi_wp2
     refine bodyPost_ret (results_none rfl _ _ _) rfl ?_
     exact ⟨⟨_, rfl⟩, .inr ⟨_, ⟨[], by rw [List.append_nil]; exact hit⟩, hJx3⟩⟩
   | false =>
    obtain ⟨hR1, hK1, hK2, hK3⟩ := decodeL_bound _ hne hbad
    rw [itL_step k _ hne hbad] at hit
    have hnb : ¬ ((Lib.decodeL (s.data.toList.drop k)).1 = 65533 ∧ (Lib.decodeL (s.data.toList.drop k)).2 = 1) := of_decide_eq_false hbad
    have hsl := Lib.size_eq s
    rw [List.length_drop] at hK3
    rw [List.drop_drop] at hit
    generalize (Lib.decodeL (s.data.toList.drop k)).1 = R at *
    generalize (Lib.decodeL (s.data.toList.drop k)).2 = K at *
    clear hg hbad hgrow hJ
    have hnb' : (((R : Int) == 65533) = false) ∨ (((R : Int) == 65533) = true ∧ ((K : Int) == 1) = false) := by
     by_cases h1 : R = 65533
     ·exact .inr ⟨beq_iff_eq.2 (by omega), beq_eq_false_iff_ne.2 (fun h2 => hnb ⟨h1, by omega⟩)⟩
     ·exact .inl (beq_eq_false_iff_ne.2 (by omega))
    have hKs : k + K ≤ s.size := by omega
    clear hnb hsl
    have hit' : (pre ++ [(k, (R : Int))]) ++ itL (k + K) (s.data.toList.drop (k + K)) = itL 0 s.data.toList := by rw [← hit]; simp
    have hpre : ∃ t, (pre ++ [(k, (R : Int))]) ++ t = itL 0 s.data.toList := ⟨_, hit'⟩
    have Hit := Lib.hid hit'
    have Hpre := Lib.hid hpre
    clear hit hit' hpre
    rcases hnb' with h1 | ⟨h1, h2⟩
    all_goals
     gi_wp2_with (refine ⟨trivial, ?_⟩; gi_at_call 96; refine (callsIn_wide.2 cD).mono ?_; clear cD; rintro e w1 ⟨rfl, hb1⟩)
     have hJ2 := hJ1 w1 hb1
     obtain ⟨fn, tmps, assign, body, hy, hR⟩ := hY pre (k, (R : Int)) w1 hJ2 (by omega)
     dsimp only [encP] at hy
     gi_wp2
     rw [hy]
     gi_wp2
     refine hR.mono ?_
     rintro e W3 (⟨rfl, hJ3, hk3⟩ | ⟨rfl, hJx3⟩)
     ·have hB3 : W3.cell? ⟨B, 0, none⟩ = some (.string s) := hk3.2.trans (hB1 w1 hb1)
      have hbw3 : Below n₀ w₀ W3 := (hbw.trans (hb1.mono (by omega))).trans hk3.1
      clear hB1 hJ1
      gi_wp2
      go_roundw
      case rel => exact ⟨k + K, _, by go_num, hKs, by simp; omega, Hit.out, hJ3, hbw3, hB3⟩
      case measure => simp [intOf]; omega
     ·gi_wp2
      refine bodyPost_ret (results_none rfl _ _ _) rfl ?_
      exact ⟨⟨_, rfl⟩, .inr ⟨_, Hpre.out, hJx3⟩⟩
  ·have hd : s.data.toList.drop k = [] := by
    rw [List.drop_eq_nil_iff, ← Lib.size_eq]
    omega
   rw [hd, itL_nil, List.append_nil] at hit
   gi_wp2
   go_end0
   exact ⟨⟨_, rfl⟩, .inl ⟨pre, hit, hJs⟩⟩

theorem kp_t {n₀ B : Nat} {X Y Z : World} (h : Kp n₀ B X Y) (k : Kp n₀ B Y Z) : Kp n₀ B X Z := ⟨h.1.trans k.1, k.2.trans h.2⟩
theorem kp_b {n₀ B : Nat} {w : World} (hn : n₀ ≤ w.heap.size) (hB : B < w.heap.size) (W : World) (l : Nat) (o o' : Obj) (hl : w.heap.size ≤ l) (h : W.heap[l]? = some o) (hc : o.isCells = false) (hw : o.isWalk = false) : Kp n₀ B W (W.putObj l o') :=
 ⟨belowK_b hn W l o o' hl h hc hw, World.cell?_of_block (World.putObj_heap_other (by show B ≠ l; omega))⟩

theorem along_stopsD (n : Nat) (hn : 1 ≤ n) (B : Nat) (s : ByteArray) (hs : s.size ≤ maxLen) (w₀ : World) (hT : DecAt s w₀) (w : World) (hb0 : Below w₀.heap.size w₀ w) (hBw : B < w.heap.size) (hB : w.cell? ⟨B, 0, none⟩ = some (.string s)) :
  SeqStopsK Fence.wide n Try.prog 95 #[.pointer (some ⟨B, 0, none⟩)] encP (Kp w₀.heap.size B) (fun ys => ys = itL 0 s.data.toList) (fun pre => pre <+: itL 0 s.data.toList) (s.size + 1) w := fun l J Jx W hW hJ _ hY h0 =>
 along1_in n hn l B w₀.heap.size s hs w₀ hT rfl J Jx hY W (hb0.trans (hW.mono hb0.size)) hJ ((hW.cell (p := ⟨B, 0, none⟩) hBw).trans hB) h0
set_option maxHeartbeats 1000000 in
theorem along_any (s : ByteArray) (w : World) :
  Calls Try.prog 94 #[.string s] w fun e w' => e = .returned (.func (.func 95) #[] #[.pointer (some ⟨w.heap.size, 0, none⟩)]) ∧ w' = w.alloc (.cells #[.string s] 9) := by
 go_enter Try.func94, Try.ntmps94
 go_wp2
 go_ret
 exact ⟨rfl, rfl⟩
end Go.Proofs.Ytmedickofiielaa

namespace Go.Proofs.Ytmedickofiielaa
open Go.RowKit Go.Shelf
attribute [local go_sem] Oper.semAt_some

theorem cell_of_box_l {W : World} {B : Nat} {v : Value} {t : TypeId} (h : W.heap[B]? = some (.cells #[v] t (0, 0))) : W.cell? ⟨B, 0, none⟩ = some v ∧ W.frozen? ⟨B, 0, none⟩ = false := by
 constructor <;> simp [World.cell?, World.frozen?, h]
theorem cell_new_l (W : World) (v : Value) (t : TypeId) : (W.alloc (.cells #[v] t)).cell? ⟨W.heap.size, 0, none⟩ = some v ∧ (W.alloc (.cells #[v] t)).frozen? ⟨W.heap.size, 0, none⟩ = false :=
 cell_of_box_l (World.alloc_heap_new W _)
theorem cell_alloc_l {W : World} {a : Addr} {v : Value} (o : Obj) (h : W.cell? a = some v) : (W.alloc o).cell? a = some v := cell_kept h (World.grownBy_alloc W o none) (fun r e => by cases e)
theorem frozen_alloc_l {W : World} {a : Addr} {v : Value} (o : Obj) (h : W.cell? a = some v) (hf : W.frozen? a = false) : (W.alloc o).frozen? a = false := (frozen_kept h (World.grownBy_alloc W o none) (fun r e => by cases e)).trans hf

def mayB (l : List UInt8) : Bool := (runesL l).isSome

set_option maxRecDepth 100000 in
set_option maxHeartbeats 2000000 in
theorem may_anyD (s : ByteArray) (hs : s.size ≤ maxLen) (w : World) (hT : DecAt s w) :
  Calls Try.prog 93 #[.string s] w fun e W' => e = .returned (.bool (mayB s.data.toList)) ∧ Below w.heap.size w W' := by
 refine (callsIn_wide (n := 5)).1 ?_
 refine callsIn_of_wp_marks Try.func93 rfl trivial ?_ rfl
 simp only [Try.ntmps93, List.size_toArray, List.length_cons, List.length_nil, Nat.reduceAdd, Nat.reduceSub, Array.replicate_succ, Array.replicate_zero, List.push_toArray, List.append_toArray, List.nil_append, List.cons_append]
 gi_wp2_with (refine ⟨trivial, ?_⟩; gi_at_call 94; refine (callsIn_wide.2 (along_any s _)).mono ?_; rintro e w1 ⟨rfl, rfl⟩)
 have c0 := cell_new_l w (.bool false) 4
 have c1 := cell_new_l (w.alloc (.cells #[.bool false] 4)) (.string s) 9
 rw [World.size_alloc] at c1
 have hB0 : Below w.heap.size w ((w.alloc (.cells #[.bool false] 4)).alloc (.cells #[.string s] 9)) := ((Below.refl _ w).alloc (Nat.le_refl _) _).alloc (by simp) _
 refine wpIn_rangeFunc_ownF rfl (by decide) (gf := 95) (lb := #[.pointer (some ⟨w.heap.size + 1, 0, none⟩)]) rfl trivial (enters_of Try.func95 (by kernel_rfl) rfl)
  (along_stopsD 4 (by decide) (w.heap.size + 1) s hs w hT _ hB0 (by simp) c1.1) (fun h k => kp_t h k) (kp_b (by simp; omega) (by simp)) (Below.refl _ _) (fun _ => rfl)
  (fun pre W => ((∀ p ∈ pre, p.2 ≠ -1) ∧ W.cell? ⟨w.heap.size, 0, none⟩ = some (.bool false) ∧ W.frozen? ⟨w.heap.size, 0, none⟩ = false) ∧ Below w.heap.size w W)
  (fun c pre W => (c = .ret ∧ (∃ p ∈ pre, p.2 = -1) ∧ W.cell? ⟨w.heap.size, 0, none⟩ = some (.bool false)) ∧ Below w.heap.size w W)
  (OwnFrom.and (Own.from (fun s A B row hs hg hr => ⟨hs.1, cell_kept hs.2.1 hg hr, (frozen_kept hs.2.1 hg hr).trans hs.2.2⟩) _) (ownFrom_below (Nat.le_refl _) (by simp; omega)))
  (fun c => OwnFrom.and (Own.from (fun s A B row hs hg hr => ⟨hs.1, hs.2.1, cell_kept hs.2.2 hg hr⟩) _) (ownFrom_below (Nat.le_refl _) (by simp; omega)))
  ⟨⟨by simp, cell_alloc_l _ c0.1, frozen_alloc_l _ c0.1 c0.2⟩, hB0⟩
  (fun x => { tmps := #[.string s, undef, .pointer (some ⟨w.heap.size, 0, none⟩), undef, .int .i32 x.2, .string s, .func (.func 95) #[] #[.pointer (some ⟨w.heap.size + 1, 0, none⟩)], .int .i64 x.1, .int .i32 x.2, undef, undef], defers := [] }) ?assign ?body ?done ?stop
 case assign =>
  intro l x W K hK
  gi_wp2
  exact hK
 case body =>
  rintro l pre x W ⟨⟨hp, hc, hf⟩, hB⟩ _
  have hcb : ∀ v, (W.setCell ⟨w.heap.size, 0, none⟩ v).cell? ⟨w.heap.size + 1, 0, none⟩ = W.cell? ⟨w.heap.size + 1, 0, none⟩ := fun v => World.cell?_of_block (Below.heap_setCell _ _ _ _ (by simp))
  by_cases hx : x.2 = -1
  ·have hx' : (x.2 == -1) = true := beq_iff_eq.2 hx
   gi_wp2
   exact ⟨KeepsOthers.setCell _ _ _, ⟨rfl, ⟨x, by simp, hx⟩, World.cell?_setCell_same' _ _ _ (by rw [hc]; rfl)⟩, hB.setCell (p := ⟨w.heap.size, 0, none⟩) (Nat.le_refl _) _⟩
  ·have hx' : (x.2 == -1) = false := beq_eq_false_iff_ne.2 hx
   gi_wp2
   exact ⟨KeepsOthers.refl _, ⟨Below.refl _ _, rfl⟩, ⟨fun y hy => (List.mem_append.1 hy).elim (hp y) (fun e => by simp at e; subst e; exact hx), hc, hf⟩, hB⟩
 case done =>
  rintro D ys W hD rfl ⟨⟨hne, hcr, hfr⟩, hB⟩ hK
  gi_wp2
  have hK' := (KeepsOthers.setCell W ⟨w.heap.size, 0, none⟩ (.bool true)).same D _ hK rfl
  refine ⟨by simp, .inl ⟨_, _, rfl, run_takeDeferred hK', ?_⟩⟩
  have hc5 := cell_kept (World.cell?_setCell_same' W ⟨w.heap.size, 0, none⟩ (.bool true) (by rw [hcr]; rfl)) (grownBy_putObj' _ D (.deferred none)) (fun r e => by cases e; exact ⟨_, hK', rfl⟩)
  refine ⟨.bool true, ?_, by rw [show mayB s.data.toList = true from (itL_may _).1 hne], (hB.setCell (p := ⟨w.heap.size, 0, none⟩) (Nat.le_refl _) _).trans (belowK_b (w := w) (Nat.le_refl _) _ D _ _ (by simp at hD; omega) hK' rfl rfl)⟩
  simp [results, Try.f93, go_sem, hc5]
 case stop =>
  rintro D c pre W hD hpre ⟨⟨rfl, ⟨p, hp, hp2⟩, hcr⟩, hB⟩ hK
  gi_wp2
  refine ⟨by simp, .inl ⟨_, _, rfl, run_takeDeferred hK, ?_⟩⟩
  have hc5 := cell_kept hcr (grownBy_putObj' _ D (.deferred none)) (fun r e => by cases e; exact ⟨_, hK, rfl⟩)
  have hno : mayB s.data.toList = false := Bool.eq_false_iff.2 fun h => (itL_may _).2 h p (hpre.subset hp) hp2
  refine ⟨.bool false, ?_, by rw [hno], hB.trans (belowK_b (w := w) (Nat.le_refl _) W D _ _ (by simp at hD; omega) hK rfl rfl)⟩
  simp [results, Try.f93, go_sem, hc5]
end Go.Proofs.Ytmedickofiielaa

namespace Go.Proofs.Ytmedickofiielaa
open Go.RowKit Go.Shelf

def lenL (l : List UInt8) : Int := match runesL l with | some rs => rs.length | none => -1
theorem lenL_some {l : List UInt8} {rs : List Int} (h : runesL l = some rs) : lenL l = rs.length := by rw [lenL, h]
theorem lenL_none {l : List UInt8} (h : runesL l = none) : lenL l = -1 := by rw [lenL, h]
theorem ret_intL {k : IntKind} {a b : Int} (h : a = b) : Ending.returned (.int k a) = .returned (.int k b) := by rw [h]

theorem decode_pos (s : ByteArray) (pos : Nat) : Utf8.decode s pos = Lib.decodeL (s.data.toList.drop pos) := by
 have g : ∀ i, s.get! i = s.data.toList.getD i 0 := fun i => get!_list s.data.toList i
 rw [Lib.decode_at, decodeL_eq, g, g, g, g, List.length_drop, ← Lib.size_eq]
 simp

set_option maxRecDepth 100000 in
set_option maxHeartbeats 1000000 in
theorem len_anyD (s : ByteArray) (hs : s.size ≤ maxLen) (w : World) (hT : DecAt s w) :
  Calls Try.prog 91 #[.string s] w fun e W' => e = .returned (.int .i64 (lenL s.data.toList)) ∧ Below w.heap.size w W' := by
 have hM := may_anyD s hs w hT
 unfold maxLen at hs
 cases hr : runesL s.data.toList with
 | none =>
  rw [show mayB s.data.toList = false by unfold mayB; rw [hr]; rfl] at hM
  rw [lenL_none hr]
  clear hr
  go_enter Try.func91, Try.ntmps91
  go_wp2_with (go_at_call 93; refine hM.mono ?_; rintro e w1 ⟨rfl, hb⟩)
  go_ret
  exact ⟨rfl, hb⟩
 | some rs =>
  rw [show mayB s.data.toList = true by unfold mayB; rw [hr]; rfl] at hM
  rw [lenL_some hr]
  have hlen : rs.length ≤ s.size := by
   have h1 := itF_length s.data.toList.length 0 s.data.toList (Nat.le_refl _)
   rw [itF_some _ 0 _ rs (Nat.le_refl _) hr, ← Lib.size_eq] at h1
   have h2 := congrArg List.length (placesL_snd 0 rs)
   rw [List.length_map] at h2
   omega
  go_enter Try.func91, Try.ntmps91
  go_wp2_with (go_at_call 93; refine hM.mono ?_; rintro e w1 ⟨rfl, hb⟩)
  go_loopw [3] (fun n w' => ∃ (pos acc : Nat) (rest : List Int), w' = w1.iter s pos ∧ n = .int .i64 acc ∧ acc + rest.length = rs.length ∧ runesL (s.data.toList.drop pos) = some rest) (fun _ w' => s.size - w'.iterPos w1.heap.size)
  case atStart => exact ⟨0, 0, rs, rfl, rfl, by simp, hr⟩
  case round =>
   obtain ⟨pos, acc, rest, rfl, rfl, hc, hrest⟩ := hrel
   by_cases hp : pos < s.size
   ·have hnx : ∀ ty, (Instr.next (.pointer (some ⟨w1.heap.size, 0, none⟩)) true ty).run Try.prog (w1.iter s pos) = _ := fun ty => run_next_any w1 s pos ty hp
    rw [decode_pos] at hnx
    have hne : s.data.toList.drop pos ≠ [] := by
     intro e
     have h1 := congrArg List.length e
     have h2 := Lib.size_eq s
     rw [List.length_drop, List.length_nil] at h1
     omega
    have hbad : badL (s.data.toList.drop pos) = false := by
     cases hb' : badL (s.data.toList.drop pos) with
     | false => rfl
     | true => rw [runesL_bad _ hne hb'] at hrest; cases hrest
    obtain ⟨hR1, hK1, _, _⟩ := decodeL_bound _ hne hbad
    rw [runesL_step _ hne hbad, List.drop_drop] at hrest
    generalize (Lib.decodeL (s.data.toList.drop pos)).1 = R at *
    generalize (Lib.decodeL (s.data.toList.drop pos)).2 = K at *
    cases hr2 : runesL (s.data.toList.drop (pos + K)) with
    | none => rw [hr2] at hrest; cases hrest
    | some r2 =>
     rw [hr2] at hrest
     obtain rfl : (R : Int) :: r2 = rest := by simpa using hrest
     have hc' : acc + 1 + r2.length = rs.length := by rw [List.length_cons] at hc; omega
     have Hr := Lib.hid hr2
     have Hc := Lib.hid hc'
     have hacc : acc < rs.length := by omega
     clear hr2 hc hc' hrest hr hbad hne
     go_wp2
     go_roundw
     case rel => exact ⟨pos + K, acc + 1, r2, rfl, by go_num, Hc.out, Hr.out⟩
     case measure => simp; omega
   ·have hnx : ∀ ty, (Instr.next (.pointer (some ⟨w1.heap.size, 0, none⟩)) true ty).run Try.prog (w1.iter s pos) = _ := fun ty => run_next_end w1 s pos ty hp
    have hd : s.data.toList.drop pos = [] := by
     rw [List.drop_eq_nil_iff, ← Lib.size_eq]
     omega
    rw [hd, runesL_nil] at hrest
    obtain rfl : [] = rest := by simpa using hrest
    have hacc : acc = rs.length := by simpa using hc
    have Hacc := Lib.hid hacc
    clear hacc hc hrest hd hr
    go_wp2
    go_ret
    exact ⟨ret_intL (by rw [Hacc.out]), hb.trans ((Below.refl _ _).alloc hb.size _)⟩
def LenAt (s : ByteArray) (w : World) : Prop := ∀ W, Below w.heap.size w W → Calls Try.prog 91 #[.string s] W fun e W' => e = .returned (.int .i64 (lenL s.data.toList)) ∧ Below W.heap.size W W'
theorem LenAt.below {s : ByteArray} {w w' : World} (h : LenAt s w) (hb : Below w.heap.size w w') : LenAt s w' := fun W hW => h W (hb.trans (hW.mono hb.size))
end Go.Proofs.Ytmedickofiielaa

namespace Go.Proofs.Ytmedickofiielaa
open Go.RowKit Go.Shelf

theorem decAt_xy (w : World) : DecAt ⟨#[120, 121]⟩ w := by
 intro W _ k hk
 rcases (show k = 0 ∨ k = 1 from by have : (⟨#[120, 121]⟩ : ByteArray).size = 2 := rfl; omega) with rfl | rfl
 ·exact (Try.utf8_DecodeRuneInString_ascii _ 120 W (by decide) (by decide)).mono fun e w' ⟨h1, h2⟩ => ⟨h1, by rw [h2]; exact Below.refl _ _⟩
 ·exact (Try.utf8_DecodeRuneInString_ascii _ 121 W (by decide) (by decide)).mono fun e w' ⟨h1, h2⟩ => ⟨h1, by rw [h2]; exact Below.refl _ _⟩
theorem lenAt_xy (w : World) : LenAt ⟨#[120, 121]⟩ w := fun W _ => len_anyD _ (by decide) W (decAt_xy W)
end Go.Proofs.Ytmedickofiielaa

namespace Go.Proofs.Ytmedickofiielaa
open Go.RowKit Go.Shelf
attribute [local go_sem] Oper.semAt_some

end Go.Proofs.Ytmedickofiielaa
