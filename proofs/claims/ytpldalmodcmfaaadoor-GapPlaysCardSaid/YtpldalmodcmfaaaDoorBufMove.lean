/- A buffer's move: the gap is brought to a place. -/
import Derived.Test.YtpldalmodcmfaaaDoorBufFrame
import Derived.StillTailTactics
import Derived.WideShapes
namespace Go.Proofs.YtpldalmodcmfaaaDoor
open Go.RowKit Go.WideShapes

theorem infoI32B : (Tryd.prog.info? 21).map (·.size) = some 1 := by kernel_rfl
theorem int_eqB {k : IntKind} {a b : Int} (h : a = b) : Value.int k a = .int k b := by rw [h]
theorem map_getD (l : List Int) (j : Nat) (h : j < l.length) : (l.map (Value.int .i32))[j]? = some (.int .i32 (l.getD j 0)) := by simp [List.getD, h]

theorem ints_splice {w : World} {e : TypeId} {k : IntKind} {v : Value} {A A' cs : List Int} {off : Nat} (h : w.ownsRow 0 e 1 v A.length (splice (A.map (Value.int k)) off (cs.map (Value.int k)))) (hfit : off + cs.length ≤ A.length) (hA : splice A off cs = A') : Ints w e k v A' := by
  have e1 : splice (A.map (Value.int k)) off (cs.map (Value.int k)) = A'.map (Value.int k) := by rw [← hA]; simp [splice]
  have e2 : A'.length = A.length := by rw [← hA, length_splice _ _ _ hfit]
  unfold Ints
  rw [← e1, e2]
  exact h
theorem move_ahead_list (zs gs ys : List Int) (a : Nat) (ha : a < zs.length) :
    splice (zs ++ (gs ++ ys)) (a + gs.length) (zs.drop a) = (zs ++ ys).take a ++ (((zs ++ (gs ++ ys)).take (a + gs.length)).drop a ++ (zs ++ ys).drop a) := by
  unfold splice
  have e1 : a + gs.length + (zs.drop a).length = zs.length + gs.length := by rw [List.length_drop]; omega
  rw [e1]
  have e2 : (zs ++ (gs ++ ys)).drop (zs.length + gs.length) = ys := by rw [← List.append_assoc, ← List.length_append, List.drop_left]
  rw [e2]
  have e3 : (zs ++ ys).take a = ((zs ++ (gs ++ ys)).take (a + gs.length)).take a := by
    rw [List.take_take, Nat.min_eq_left (by omega), List.take_append_of_le_length (by omega), List.take_append_of_le_length (by omega)]
  rw [e3, ← List.append_assoc (List.take a _), List.take_append_drop, List.drop_append_of_le_length (by omega)]

theorem move_end {S : Nat → Prop} {N r B : Nat} {va f t : Value} {zs' ys' gs' : List Int} {w w4 : World} (hF : Fs S N B va f t (lfs 0 zs') (bks ys') w4) (hI : Ints w4 21 .i32 va (zs' ++ (gs' ++ ys'))) (hM : Mine S N va) (hK : Keep S N w w4) (hl : zs'.length + gs'.length + ys'.length ≤ 20000) (hr : r ≤ gs'.length)
    (a b : Int) (ha : a = zs'.length) (hb : b = (zs'.length + gs'.length : Nat)) :
    Bf S N r B zs' ys' ((w4.setCell ⟨B, 1, none⟩ (.int .i64 a)).setCell ⟨B, 2, none⟩ (.int .i64 b)) ∧ Keep S N w ((w4.setCell ⟨B, 1, none⟩ (.int .i64 a)).setCell ⟨B, 2, none⟩ (.int .i64 b)) := by
  subst ha hb
  exact ⟨⟨va, gs', (hF.set 1 _ (by omega)).set 2 _ (by omega), (hF.set 1 _ (by omega)).arr (hF.arr hI 1 _) 2 _, hM, hl, hr⟩, (hK.setCell hF.mem.1 _).setCell hF.mem.1 _⟩

set_option maxRecDepth 100000 in
set_option maxHeartbeats 4000000 in
theorem bmove_ahead {S : Nat → Prop} {N r B : Nat} {zs ys : List Int} {w : World} (h : Bf S N r B zs ys w) (at' : Nat) (hat : at' < zs.length) :
    Calls Tryd.prog 45 #[.pointer (some ⟨B, 0, none⟩), .int .i64 at'] w fun e w' => e = .returned (.tuple #[]) ∧ Bf S N r B ((zs ++ ys).take at') ((zs ++ ys).drop at') w' ∧ Keep S N w w' := by
  have hL := fun q => blen_any (h.drewN q)
  have hle := h.le
  obtain ⟨va, gs, hF, hI, hM, hl, hr⟩ := h
  obtain ⟨hSB, hN, hBw⟩ := hF.mem
  have el : (zs ++ (gs ++ ys)).length = zs.length + (gs.length + ys.length) := by simp
  rcases hI.2 with ⟨_, hn0⟩ | ⟨g, cap, cur, rfl, _, _, hc, hm, _⟩
  · rw [el] at hn0; omega
  have hMv := fun q => fs_move_to zs ys at' (w.drewN q) (by omega) (by omega) (hF.out hI)
  rw [el] at hc
  have HI := Lib.hid hI
  have HF := Lib.hid hF
  have HM := Lib.hid hM
  have HEl := Lib.hid el
  clear hI hF hM el
  unfold maxLen at hm
  go_enter Tryd.func45, Tryd.ntmps45
  go_wp2
  go_region_held (fun _ => True) (trivial) (first | (go_at_call 14; refine (hL _).mono ?_; clear hL; rintro e _ ⟨rfl, q, rfl⟩) | (go_at_call 60; refine (hMv _).mono ?_; clear hMv; rintro e w1 ⟨rfl, hF1, hK1⟩))
  have hI1 : Ints w1 21 .i32 (.slice (some ⟨g, 0, none⟩) (zs ++ (gs ++ ys)).length cap) (zs ++ (gs ++ ys)) := HI.out.out (S := S) (N := N) hK1.undraw
  obtain ⟨c0, c1, c2, hfz⟩ := hF1.box
  rw [HEl.out] at c0
  have hW := width_at (B := B) (w := w1) c1 c2 (by omega)
  have hK : Keep S N w w1 := Keep.back hK1.undraw hN
  have HK := Lib.hid hK
  have HF1 := Lib.hid hF1
  have HI1 := Lib.hid hI1
  obtain ⟨f, hf⟩ : ∃ f, zs.length = f := ⟨_, rfl⟩
  obtain ⟨G, hG⟩ : ∃ G, gs.length = G := ⟨_, rfl⟩
  obtain ⟨y, hy⟩ : ∃ y, ys.length = y := ⟨_, rfl⟩
  rw [hf] at hat hl hc
  rw [hG] at hl hc hW hr
  rw [hy] at hl hc
  simp only [hf, hG, hy] at c0 c1 c2
  have Hf := Lib.hid hf
  have HG := Lib.hid hG
  have Hy := Lib.hid hy
  clear hK1 hF1 hI1 hf hG hy hle
  have k1 : (at' : Int) < (f : Int) := by omega
  have e1 : IntKind.i64.wrap ((at' : Int) + (G : Int)) = ((at' + G : Nat) : Int) := by rw [show ((at' : Int) + (G : Int)) = ((at' + G : Nat) : Int) by omega]; exact IntWalk.i64_in _ (by omega)
  have k2 : ((at' + G : Nat) : Int) ≤ ((f + (G + y) : Nat) : Int) := by omega
  have k3 : (at' : Int) ≤ (f : Int) := by omega
  have k4 : (f : Int) ≤ (cap : Int) := by omega
  have k5 : ((at' + G : Nat) : Int) ≤ (cap : Int) := by omega
  have k6 : (0 : Int) ≤ (at' : Int) + (G : Int) := by omega
  have k7 : (at' : Int) + (G : Int) ≤ (f : Int) + ((G : Int) + (y : Int)) := by omega
  have tn : ((at' : Int) + (G : Int)).toNat = at' + G := by omega
  have n1 : ¬ cap = at' + G := by omega
  have n2 : ¬ cap = at' := by omega
  go_wp2_with (go_at_call 32; refine hW.mono ?_; clear hW; rintro e w2 ⟨rfl, q2, hq2⟩; have d0 : w2.cell? ⟨B, 0, none⟩ = some (.slice (some ⟨g, 0, none⟩) (f + (G + y)) cap) := by { rw [hq2]; exact c0 }; have d1 : w2.cell? ⟨B, 1, none⟩ = some (.int .i64 f) := by { rw [hq2]; exact c1 }; have Hq2 := Lib.hid hq2; clear hq2 c0 c1 c2 hfz)
  go_still_tail 18, (by kernel_rfl)
  change wpList _ _ _ _ _ w2.drew
  have hI3 : Ints w2.drew 21 .i32 (.slice (some ⟨g, 0, none⟩) (zs ++ (gs ++ ys)).length cap) (zs ++ (gs ++ ys)) := by rw [Hq2.out]; exact HI1.out
  have hF3 : Fs (Out S N (Value.slice (some ⟨g, 0, none⟩) (zs ++ (gs ++ ys)).length cap).ownBlock) w.heap.size B (.slice (some ⟨g, 0, none⟩) (zs ++ (gs ++ ys)).length cap) (.int .i64 zs.length) (.int .i64 (zs.length + gs.length : Nat)) (lfs 0 ((zs ++ ys).take at')) (bks ((zs ++ ys).drop at')) w2.drew := by rw [Hq2.out]; exact HF1.out
  have hK3 : Keep S N w w2.drew := by rw [Hq2.out]; exact (HK.out.drewN q2).drewN 1
  generalize w2.drew = w3 at hI3 hF3 hK3 ⊢
  have hF3' : Fs S N B (.slice (some ⟨g, 0, none⟩) (zs ++ (gs ++ ys)).length cap) (.int .i64 zs.length) (.int .i64 (zs.length + gs.length : Nat)) (lfs 0 ((zs ++ ys).take at')) (bks ((zs ++ ys).drop at')) w3 := hF3.back hN
  have hN3 : N ≤ w3.heap.size := hF3'.mem.2.1
  have hcl : ((zs.drop at').map (Value.int .i32)).length = f - at' := by rw [List.length_map, List.length_drop, Hf.out]
  have el := HEl.out
  rw [Hf.out, HG.out, Hy.out] at el
  refine wpList_copy_row rfl (.tmp 27) (.tmp 37) 29 29 rfl 21 Tryd.underlying29 infoI32B (some ⟨g, at' + G, none⟩) (some ⟨g, at', none⟩) (f + (G + y) - (at' + G)) (cap - (at' + G)) (f - at') (cap - at') rfl rfl _ _ _ hI3 (at' + G) ((zs.drop at').map (Value.int .i32)) ?cn ?cfit ?cpos ?cone ?_
  case cn => rw [hcl]; show _ = min _ _; omega
  case cfit => rw [hcl, el]; omega
  case cone => intro x hx; obtain ⟨z, _, rfl⟩ := List.mem_map.1 hx; rfl
  case cpos =>
    intro _
    refine ⟨fun g' cap' e => by cases e; rfl, ⟨g, at', none⟩, rfl, fun j x hj => ?_⟩
    have hjl : j < (zs.drop at').length := by
      rcases Nat.lt_or_ge j (zs.drop at').length with h' | h'
      · exact h'
      · rw [List.getElem?_eq_none (by rw [List.length_map]; exact h')] at hj; cases hj
    have hz := hjl
    rw [List.length_drop, Hf.out] at hz
    rw [add_plain, Ints.cell hI3 (at' + j) (by rw [el]; omega), ← hj, map_getD _ _ hjl]
    congr 2
    have e4 : (at' + j) < zs.length := by rw [Hf.out]; omega
    simp [List.getD, List.getElem?_append_left e4]
  intro w4 hH hg4
  have hF4 := hF3'.grown hI3 hg4
  obtain ⟨d0', d1', d2', hfz4⟩ := hF4.box
  have f1 := hfz4 1
  have f2 := hfz4 2
  have HH := Lib.hid hH
  have HF4 := Lib.hid hF4
  have HK4 := Lib.hid (hK3.grown hg4 hN3 HM.out)
  clear hH hF4 hfz4 hcl hI3 hF3 hF3' hK3 hg4 el hN3
  simp only [Hf.out, HG.out] at d1' d2'
  go_wp2
  go_end0
  refine ⟨rfl, move_end (gs' := (((zs ++ (gs ++ ys)).take (at' + gs.length)).drop at')) HF4.out ?_ HM.out HK4.out ?_ ?_ _ _ ?_ ?_⟩
  · refine ints_splice HH.out.out ?_ ?_
    · rw [List.length_drop, Hf.out, HEl.out, Hf.out, HG.out, Hy.out]; omega
    · rw [← HG.out]; exact move_ahead_list zs gs ys at' (by rw [Hf.out]; exact hat)
  · simp only [List.length_take, List.length_drop, List.length_append, Hf.out, HG.out, Hy.out]; omega
  · simp only [List.length_take, List.length_drop, List.length_append, Hf.out, HG.out, Hy.out]; omega
  · simp only [List.length_take, List.length_append, Hf.out, Hy.out]; omega
  · simp only [List.length_take, List.length_drop, List.length_append, Hf.out, HG.out, Hy.out]; omega
end Go.Proofs.YtpldalmodcmfaaaDoor
