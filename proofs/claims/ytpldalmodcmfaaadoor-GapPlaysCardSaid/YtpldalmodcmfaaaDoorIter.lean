/- along: the iterator's contract, for whatever loop body. -/
import Derived.Test.YtpldalmodcmfaaaDoorPlain
import Derived.Test.YtpldalmodcmfaaaDoorShelf
import Derived.RangeFuncNested
import Derived.RangeFuncBound
import Derived.RangeFuncCalls
import Derived.RangeFuncLeaves
import Derived.Shelf.Abstract
import Derived.Shelf.RegionOpen
import Derived.WalkKit
import Derived.WalkSpells
import Derived.OwnWalkIn
import Derived.TacticsInMore
import Derived.LoopNIn
import Derived.LoopIn
import Derived.Lib.Hide
import Derived.Lib.PathFns
import Derived.Outline
namespace Go.Proofs.YtpldalmodcmfaaaDoor
open Go.RowKit Go.Shelf
attribute [local go_sem] Oper.semAt_some

abbrev encP (p : Nat × Int) : Array Value := #[.int .i64 p.1, .int .i32 p.2]
/-- What a round keeps: what lay below n₀, and the box of the text. -/
def Kp (n₀ B : Nat) (W W' : World) : Prop := Below n₀ W W' ∧ W'.cell? ⟨B, 0, none⟩ = W.cell? ⟨B, 0, none⟩

theorem decodeGo_at (s : ByteArray) (k : Nat) (hk : k < s.size) : Lib.decodeGo (s.extract k s.size) = Lib.decodeL (s.data.toList.drop k) := by
  have e := Lib.size_eq s
  have h : s.extract k s.size = ⟨(s.data.toList.drop k).toArray⟩ := by
    rw [Lib.extract_eq, List.take_of_length_le]
    rw [List.length_drop]; omega
  rw [h]
  unfold Lib.decodeGo
  rw [if_neg]
  · rfl
  · rw [Lib.size_eq]
    simp only [List.length_drop]
    omega

set_option maxRecDepth 100000 in
set_option maxHeartbeats 1000000 in
theorem along1_in (n : Nat) (hn : 1 ≤ n) (l B n₀ : Nat) (s : ByteArray) (hs : s.size ≤ maxLen) (w₀ : World) (hT : Lib.Utf8Tabs 0 1 w₀) (h₀ : n₀ = w₀.heap.size) (J Jx : List (Nat × Int) → World → Prop)
    (hY : ∀ pre x W, J pre W → pre.length < s.size + 1 → YieldAt Fence.wide (n - 1) Tryd.prog l (encP x) W fun e W' =>
      (e = .returned (.bool true) ∧ J (pre ++ [x]) W' ∧ Kp n₀ B W W') ∨ (e = .returned (.bool false) ∧ Jx (pre ++ [x]) W'))
    (W : World) (hb0 : Below n₀ w₀ W) (hJ : AbidesFrom W.heap.size J) (hB : W.cell? ⟨B, 0, none⟩ = some (.string s)) (h0 : J [] W) :
    CallsIn Fence.wide n Tryd.prog 67 #[.func (.yield l) #[] #[], .pointer (some ⟨B, 0, none⟩)] W fun e W' => (∃ v, e = .returned v) ∧
      ((∃ ys, ys = itL 0 s.data.toList ∧ J ys W') ∨ (∃ pre, pre <+: itL 0 s.data.toList ∧ Jx pre W')) := by
  unfold maxLen at hs
  refine callsIn_of_wp Tryd.func67 rfl trivial ?_ rfl
  simp only [Tryd.ntmps67, List.size_toArray, List.length_cons, List.length_nil, Nat.reduceAdd, Nat.reduceSub, Array.replicate_succ, Array.replicate_zero, List.push_toArray, List.append_toArray, List.nil_append, List.cons_append]
  gi_wp2
  gi_loopw [3] (fun p wr => ∃ (k : Nat) (pre : List (Nat × Int)), p = .int .i64 k ∧ k ≤ s.size ∧ pre.length ≤ k ∧ pre ++ itL k (s.data.toList.drop k) = itL 0 s.data.toList ∧ J pre wr ∧ Below n₀ w₀ wr ∧ wr.cell? ⟨B, 0, none⟩ = some (.string s))
    (fun p _ => s.size - (intOf p).toNat)
  case atStart => exact ⟨0, [], rfl, Nat.zero_le _, Nat.zero_le _, rfl, h0, hb0, hB⟩
  case round =>
    obtain ⟨k, pre, rfl, hk, hpk, hit, hJs, hbw, hBr⟩ := hrel
    by_cases hlt : k < s.size
    · have hne : s.data.toList.drop k ≠ [] := by
        intro e
        have h1 := congrArg List.length e
        have h2 := Lib.size_eq s
        rw [List.length_drop, List.length_nil] at h1
        omega
      have hg := decodeGo_at s k hlt
      have hTr := Utf8Tabs_below hT (h₀ ▸ hbw)
      have cD := Tryd.utf8_DecodeRuneInString (s.extract k s.size) wr hTr
      rw [hg] at cD
      have hgrow : ∀ w1, Below wr.heap.size wr w1 → wr.grownBy w1 none := fun w1 hb => ⟨hb.os, hb.tape, hb.output, hb.size, fun i hi _ => hb.block i hi⟩
      have hJ1 : ∀ w1, Below wr.heap.size wr w1 → J pre w1 := fun w1 hb => hJ pre wr w1 none hJs (hgrow w1 hb) (fun r e => by cases e)
      have hBlt : B < wr.heap.size := by
        rcases Nat.lt_or_ge B wr.heap.size with h' | h'
        · exact h'
        · simp [World.cell?, Array.getElem?_eq_none h'] at hBr
      have hB1 : ∀ w1, Below wr.heap.size wr w1 → w1.cell? ⟨B, 0, none⟩ = some (.string s) := fun w1 hb => (hb.cell (p := ⟨B, 0, none⟩) hBlt).trans hBr
      have hsz := hbw.size
      cases hbad : badL (s.data.toList.drop k) with
      | true =>
        have he : Lib.decodeL (s.data.toList.drop k) = (65533, 1) := by
          have := of_decide_eq_true hbad
          exact Prod.ext this.1 this.2
        rw [he] at cD
        rw [itL_bad k _ hne hbad] at hit
        clear hg hTr he hbad hgrow hJ hbw
        gi_wp2_with (refine ⟨trivial, ?_⟩; gi_at_call 68; refine (callsIn_wide.2 cD).mono ?_; clear cD; rintro e w1 ⟨rfl, hb1⟩)
        have hJ2 := hJ1 w1 hb1
        obtain ⟨fn, tmps, assign, body, hy, hR⟩ := hY pre (k, -1) w1 hJ2 (by omega)
        dsimp only [encP] at hy
        gi_wp2
        rw [hy]
        gi_wp2
        refine hR.mono ?_
        rintro e W3 (⟨rfl, hJ3, hk3⟩ | ⟨rfl, hJx3⟩)
        · gi_wp2
          refine bodyPost_ret (results_none rfl _ _ _) rfl ?_
          exact ⟨⟨_, rfl⟩, .inl ⟨_, hit, hJ3⟩⟩
        · gi_wp2
          refine bodyPost_ret (results_none rfl _ _ _) rfl ?_
          exact ⟨⟨_, rfl⟩, .inr ⟨_, ⟨[], by rw [List.append_nil]; exact hit⟩, hJx3⟩⟩
      | false =>
        obtain ⟨hR1, hK1, hK2, hK3⟩ := decodeL_bound _ hne hbad
        rw [itL_step k _ hne hbad] at hit
        have hnb : ¬ ((Lib.decodeL (s.data.toList.drop k)).1 = 65533 ∧ (Lib.decodeL (s.data.toList.drop k)).2 = 1) := of_decide_eq_false hbad
        have hsl := Lib.size_eq s
        rw [List.length_drop] at hK3
        rw [List.drop_drop] at hit
        generalize (Lib.decodeL (s.data.toList.drop k)).1 = R at *
        generalize (Lib.decodeL (s.data.toList.drop k)).2 = K at *
        clear hg hTr hbad hgrow hJ
        have hnb' : (((R : Int) == 65533) = false) ∨ (((R : Int) == 65533) = true ∧ ((K : Int) == 1) = false) := by
          by_cases h1 : R = 65533
          · exact .inr ⟨beq_iff_eq.2 (by omega), beq_eq_false_iff_ne.2 (fun h2 => hnb ⟨h1, by omega⟩)⟩
          · exact .inl (beq_eq_false_iff_ne.2 (by omega))
        have hKs : k + K ≤ s.size := by omega
        clear hnb hsl
        have hit' : (pre ++ [(k, (R : Int))]) ++ itL (k + K) (s.data.toList.drop (k + K)) = itL 0 s.data.toList := by rw [← hit]; simp
        have hpre : ∃ t, (pre ++ [(k, (R : Int))]) ++ t = itL 0 s.data.toList := ⟨_, hit'⟩
        have Hit := Lib.hid hit'
        have Hpre := Lib.hid hpre
        clear hit hit' hpre
        rcases hnb' with h1 | ⟨h1, h2⟩
        all_goals
          gi_wp2_with (refine ⟨trivial, ?_⟩; gi_at_call 68; refine (callsIn_wide.2 cD).mono ?_; clear cD; rintro e w1 ⟨rfl, hb1⟩)
          have hJ2 := hJ1 w1 hb1
          obtain ⟨fn, tmps, assign, body, hy, hR⟩ := hY pre (k, (R : Int)) w1 hJ2 (by omega)
          dsimp only [encP] at hy
          gi_wp2
          rw [hy]
          gi_wp2
          refine hR.mono ?_
          rintro e W3 (⟨rfl, hJ3, hk3⟩ | ⟨rfl, hJx3⟩)
          · have hB3 : W3.cell? ⟨B, 0, none⟩ = some (.string s) := hk3.2.trans (hB1 w1 hb1)
            have hbw3 : Below n₀ w₀ W3 := (hbw.trans (hb1.mono (by omega))).trans hk3.1
            clear hB1 hJ1
            gi_wp2
            go_roundw
            case rel => exact ⟨k + K, _, by go_num, hKs, by simp; omega, Hit.out, hJ3, hbw3, hB3⟩
            case measure => simp [intOf]; omega
          · gi_wp2
            refine bodyPost_ret (results_none rfl _ _ _) rfl ?_
            exact ⟨⟨_, rfl⟩, .inr ⟨_, Hpre.out, hJx3⟩⟩
    · have hd : s.data.toList.drop k = [] := by
        rw [List.drop_eq_nil_iff, ← Lib.size_eq]
        omega
      rw [hd, itL_nil, List.append_nil] at hit
      gi_wp2
      go_end0
      exact ⟨⟨_, rfl⟩, .inl ⟨pre, hit, hJs⟩⟩

theorem kp_t {n₀ B : Nat} {X Y Z : World} (h : Kp n₀ B X Y) (k : Kp n₀ B Y Z) : Kp n₀ B X Z := ⟨h.1.trans k.1, k.2.trans h.2⟩
theorem kp_b {n₀ B : Nat} {w : World} (hn : n₀ ≤ w.heap.size) (hB : B < w.heap.size) (W : World) (l : Nat) (o o' : Obj) (hl : w.heap.size ≤ l) (h : W.heap[l]? = some o) (hc : o.isCells = false) (hw : o.isWalk = false) : Kp n₀ B W (W.putObj l o') :=
  ⟨belowK_b hn W l o o' hl h hc hw, World.cell?_of_block (World.putObj_heap_other (by show B ≠ l; omega))⟩

theorem along_stops (n : Nat) (hn : 1 ≤ n) (B : Nat) (s : ByteArray) (hs : s.size ≤ maxLen) (w₀ : World) (hT : Lib.Utf8Tabs 0 1 w₀) (w : World) (hb0 : Below w₀.heap.size w₀ w) (hBw : B < w.heap.size) (hB : w.cell? ⟨B, 0, none⟩ = some (.string s)) :
    SeqStopsK Fence.wide n Tryd.prog 67 #[.pointer (some ⟨B, 0, none⟩)] encP (Kp w₀.heap.size B) (fun ys => ys = itL 0 s.data.toList) (fun pre => pre <+: itL 0 s.data.toList) (s.size + 1) w := fun l J Jx W hW hJ _ hY h0 =>
  along1_in n hn l B w₀.heap.size s hs w₀ hT rfl J Jx hY W (hb0.trans (hW.mono hb0.size)) hJ ((hW.cell (p := ⟨B, 0, none⟩) hBw).trans hB) h0

set_option maxHeartbeats 1000000 in
theorem along_any (s : ByteArray) (w : World) :
    Calls Tryd.prog 59 #[.string s] w fun e w' => e = .returned (.func (.func 67) #[] #[.pointer (some ⟨w.heap.size, 0, none⟩)]) ∧ w' = w.alloc (.cells #[.string s] 9) := by
  go_enter Tryd.func59, Tryd.ntmps59
  go_wp2
  go_ret
  exact ⟨rfl, rfl⟩
end Go.Proofs.YtpldalmodcmfaaaDoor
