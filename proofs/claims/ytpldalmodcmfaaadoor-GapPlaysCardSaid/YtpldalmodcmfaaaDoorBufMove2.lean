/- A buffer's move: the gap is brought to a place behind. -/
import Derived.Test.YtpldalmodcmfaaaDoorBufMove
namespace Go.Proofs.YtpldalmodcmfaaaDoor
open Go.RowKit Go.WideShapes

theorem move_behind_list (zs gs ys : List Int) (a : Nat) (ha : zs.length ≤ a) (ha2 : a ≤ zs.length + ys.length) :
    splice (zs ++ (gs ++ ys)) zs.length (ys.take (a - zs.length)) = (zs ++ ys).take a ++ (((zs ++ (gs ++ ys)).drop a).take gs.length ++ (zs ++ ys).drop a) := by
  unfold splice
  have e1 : zs.length + (ys.take (a - zs.length)).length = a := by rw [List.length_take]; omega
  rw [e1, List.take_left]
  have e2 : (zs ++ ys).take a = zs ++ ys.take (a - zs.length) := by rw [List.take_append, List.take_of_length_le ha]
  have e3 : (zs ++ ys).drop a = ((zs ++ (gs ++ ys)).drop a).drop gs.length := by
    rw [List.drop_drop, List.drop_append, List.drop_append, List.drop_append, List.drop_of_length_le ha, List.drop_of_length_le (by omega : zs.length ≤ a + gs.length), List.drop_of_length_le (by omega : gs.length ≤ a + gs.length - zs.length)]
    simp only [List.nil_append]
    congr 1
    omega
  rw [e3, List.take_append_drop, e2, List.append_assoc]

set_option maxRecDepth 100000 in
set_option maxHeartbeats 4000000 in
theorem bmove_nil {S : Nat → Prop} {N B : Nat} {w : World} (hF : Fs S N B (.slice none 0 0) (.int .i64 (([] : List Int).length : Int)) (.int .i64 ((([] : List Int).length + ([] : List Int).length : Nat) : Int)) (lfs 0 []) (bks []) w) (hI : Ints w 21 .i32 (.slice none 0 0) []) :
    Calls Tryd.prog 45 #[.pointer (some ⟨B, 0, none⟩), .int .i64 0] w fun e w' => e = .returned (.tuple #[]) ∧ Bf S N 0 B [] [] w' ∧ Keep S N w w' := by
  have h : Bf S N 0 B [] [] w := ⟨_, [], hF, hI, Mine.nil _ _, by simp, Nat.le_refl _⟩
  have hL := fun q => blen_any (h.drewN q)
  have hMv := fun q => fs_move_to [] [] 0 (w.drewN q) (by simp) (by simp) hF
  clear hF hI h
  have z0 : IntKind.i64.wrap 0 = 0 := by decide
  go_enter Tryd.func45, Tryd.ntmps45
  go_wp2
  go_region_held (fun _ => True) (trivial) (first | (go_at_call 14; refine (hL _).mono ?_; clear hL; rintro e _ ⟨rfl, q, rfl⟩) | (go_at_call 60; refine (hMv _).mono ?_; clear hMv; rintro e w1 ⟨rfl, hF1, hK1⟩))
  obtain ⟨c0, c1, c2, hfz⟩ := hF1.box
  have hW := width_at (B := B) (w := w1) (f := 0) (t := 0) c1 c2 (by omega)
  have HK := Lib.hid hK1.undraw
  have HF1 := Lib.hid hF1
  clear hK1 hF1
  go_wp2_with (go_at_call 32; refine hW.mono ?_; clear hW; rintro e w2 ⟨rfl, q2, hq2⟩; have d0 : w2.cell? ⟨B, 0, none⟩ = some (.slice none 0 0) := by { rw [hq2]; exact c0 }; have d1 : w2.cell? ⟨B, 1, none⟩ = some (.int .i64 0) := by { rw [hq2]; exact c1 }; have d2 : w2.cell? ⟨B, 2, none⟩ = some (.int .i64 0) := by { rw [hq2]; exact c2 }; have f1 : w2.frozen? ⟨B, 1, none⟩ = false := by { rw [hq2]; exact hfz 1 }; have f2 : w2.frozen? ⟨B, 2, none⟩ = false := by { rw [hq2]; exact hfz 2 }; have Hq2 := Lib.hid hq2; clear hq2 c0 c1 c2 hfz)
  go_still_tail 21, (by kernel_rfl)
  change wpList _ _ _ _ _ w2.drew
  refine wpList_copy_nothing rfl (.tmp 47) (.tmp 59) 29 29 rfl 21 Tryd.underlying29 infoI32B _ _ _ _ _ _ rfl rfl rfl ?_
  go_wp2
  go_end0
  have hF3 : Fs S N B (.slice none 0 0) (.int .i64 0) (.int .i64 0) (lfs 0 []) (bks []) w2.drew := by rw [Hq2.out]; exact HF1.out
  have hK3 : Keep S N w w2.drew := by rw [Hq2.out]; exact (HK.out.drewN q2).drewN 1
  exact ⟨rfl, move_end (zs' := []) (ys' := []) (gs' := []) hF3 (Ints.nil _ _ _) (Mine.nil _ _) hK3 (by simp) (Nat.le_refl _) 0 0 rfl rfl⟩

set_option maxRecDepth 100000 in
set_option maxHeartbeats 4000000 in
theorem bmove_behind {S : Nat → Prop} {N r B : Nat} {zs ys : List Int} {w : World} (h : Bf S N r B zs ys w) (at' : Nat) (hat : zs.length ≤ at') (hat2 : at' ≤ zs.length + ys.length) :
    Calls Tryd.prog 45 #[.pointer (some ⟨B, 0, none⟩), .int .i64 at'] w fun e w' => e = .returned (.tuple #[]) ∧ Bf S N r B ((zs ++ ys).take at') ((zs ++ ys).drop at') w' ∧ Keep S N w w' := by
  have hL := fun q => blen_any (h.drewN q)
  have hle := h.le
  obtain ⟨va, gs, hF, hI, hM, hl, hr⟩ := h
  obtain ⟨hSB, hN, hBw⟩ := hF.mem
  have el : (zs ++ (gs ++ ys)).length = zs.length + (gs.length + ys.length) := by simp
  rcases hI.2 with ⟨rfl, hn0⟩ | ⟨g, cap, cur, rfl, _, _, hc, hm, _⟩
  · rw [el] at hn0
    obtain rfl : zs = [] := List.eq_nil_of_length_eq_zero (by omega)
    obtain rfl : gs = [] := List.eq_nil_of_length_eq_zero (by omega)
    obtain rfl : ys = [] := List.eq_nil_of_length_eq_zero (by omega)
    obtain rfl : at' = 0 := by simp at hat2; exact hat2
    obtain rfl : r = 0 := by simp at hr; exact hr
    exact bmove_nil hF hI
  have hMv := fun q => fs_move_to zs ys at' (w.drewN q) (by omega) (by omega) (hF.out hI)
  rw [el] at hc
  have HI := Lib.hid hI
  have HF := Lib.hid hF
  have HM := Lib.hid hM
  have HEl := Lib.hid el
  clear hI hF hM el
  unfold maxLen at hm
  go_enter Tryd.func45, Tryd.ntmps45
  go_wp2
  go_region_held (fun _ => True) (trivial) (first | (go_at_call 14; refine (hL _).mono ?_; clear hL; rintro e _ ⟨rfl, q, rfl⟩) | (go_at_call 60; refine (hMv _).mono ?_; clear hMv; rintro e w1 ⟨rfl, hF1, hK1⟩))
  have hI1 : Ints w1 21 .i32 (.slice (some ⟨g, 0, none⟩) (zs ++ (gs ++ ys)).length cap) (zs ++ (gs ++ ys)) := HI.out.out (S := S) (N := N) hK1.undraw
  obtain ⟨c0, c1, c2, hfz⟩ := hF1.box
  rw [HEl.out] at c0
  have hW := width_at (B := B) (w := w1) c1 c2 (by omega)
  have hK : Keep S N w w1 := Keep.back hK1.undraw hN
  have HK := Lib.hid hK
  have HF1 := Lib.hid hF1
  have HI1 := Lib.hid hI1
  obtain ⟨f, hf⟩ : ∃ f, zs.length = f := ⟨_, rfl⟩
  obtain ⟨G, hG⟩ : ∃ G, gs.length = G := ⟨_, rfl⟩
  obtain ⟨y, hy⟩ : ∃ y, ys.length = y := ⟨_, rfl⟩
  rw [hf] at hat hat2 hl hc
  rw [hG] at hl hc hW hr
  rw [hy] at hat2 hl hc
  simp only [hf, hG, hy] at c0 c1 c2
  have Hf := Lib.hid hf
  have HG := Lib.hid hG
  have Hy := Lib.hid hy
  clear hK1 hF1 hI1 hf hG hy hle
  have k1 : ¬ ((at' : Int) < (f : Int)) := by omega
  have e1 : IntKind.i64.wrap ((at' : Int) + (G : Int)) = ((at' + G : Nat) : Int) := by rw [show ((at' : Int) + (G : Int)) = ((at' + G : Nat) : Int) by omega]; exact IntWalk.i64_in _ (by omega)
  have k2 : (f : Int) ≤ (f : Int) + ((G : Int) + (y : Int)) := by omega
  have k3 : (0 : Int) ≤ (f : Int) + (G : Int) := by omega
  have k4 : (f : Int) + (G : Int) ≤ (at' : Int) + (G : Int) := by omega
  have k5 : (at' : Int) + (G : Int) ≤ (cap : Int) := by omega
  have k6 : (0 : Int) ≤ (at' : Int) + (G : Int) := by omega
  have tn : ((at' : Int) + (G : Int)).toNat = at' + G := by omega
  have tn2 : ((f : Int) + (G : Int)).toNat = f + G := by omega
  go_wp2_with (go_at_call 32; refine hW.mono ?_; clear hW; rintro e w2 ⟨rfl, q2, hq2⟩; have d0 : w2.cell? ⟨B, 0, none⟩ = some (.slice (some ⟨g, 0, none⟩) (f + (G + y)) cap) := by { rw [hq2]; exact c0 }; have d1 : w2.cell? ⟨B, 1, none⟩ = some (.int .i64 f) := by { rw [hq2]; exact c1 }; have d2 : w2.cell? ⟨B, 2, none⟩ = some (.int .i64 (f + G : Nat)) := by { rw [hq2]; exact c2 }; have Hq2 := Lib.hid hq2; clear hq2 c0 c1 c2 hfz)
  go_still_tail 21, (by kernel_rfl)
  change wpList _ _ _ _ _ w2.drew
  have hI3 : Ints w2.drew 21 .i32 (.slice (some ⟨g, 0, none⟩) (zs ++ (gs ++ ys)).length cap) (zs ++ (gs ++ ys)) := by rw [Hq2.out]; exact HI1.out
  have hF3 : Fs (Out S N (Value.slice (some ⟨g, 0, none⟩) (zs ++ (gs ++ ys)).length cap).ownBlock) w.heap.size B (.slice (some ⟨g, 0, none⟩) (zs ++ (gs ++ ys)).length cap) (.int .i64 zs.length) (.int .i64 (zs.length + gs.length : Nat)) (lfs 0 ((zs ++ ys).take at')) (bks ((zs ++ ys).drop at')) w2.drew := by rw [Hq2.out]; exact HF1.out
  have hK3 : Keep S N w w2.drew := by rw [Hq2.out]; exact (HK.out.drewN q2).drewN 1
  generalize w2.drew = w3 at hI3 hF3 hK3 ⊢
  have hF3' : Fs S N B (.slice (some ⟨g, 0, none⟩) (zs ++ (gs ++ ys)).length cap) (.int .i64 zs.length) (.int .i64 (zs.length + gs.length : Nat)) (lfs 0 ((zs ++ ys).take at')) (bks ((zs ++ ys).drop at')) w3 := hF3.back hN
  have hN3 : N ≤ w3.heap.size := hF3'.mem.2.1
  have hcl : ((ys.take (at' - f)).map (Value.int .i32)).length = at' - f := by rw [List.length_map, List.length_take, Hy.out]; omega
  have el := HEl.out
  rw [Hf.out, HG.out, Hy.out] at el
  refine wpList_copy_row rfl (.tmp 47) (.tmp 59) 29 29 rfl 21 Tryd.underlying29 infoI32B _ _ _ _ _ _ rfl rfl _ _ _ hI3 f ((ys.take (at' - f)).map (Value.int .i32)) ?cn ?cfit ?cpos ?cone ?_
  case cn => rw [hcl]; show _ = min _ _; omega
  case cfit => rw [hcl, el]; omega
  case cone => intro x hx; obtain ⟨z, _, rfl⟩ := List.mem_map.1 hx; rfl
  case cpos =>
    intro hc0
    rw [hcl] at hc0
    have n1 : ¬ cap = f := by omega
    have n2 : ¬ cap = f + G := by omega
    refine ⟨fun g' cap' e => by cases e; rw [if_neg n1], ⟨g, f + G, none⟩, by rw [if_neg n2], fun j x hj => ?_⟩
    have hjl : j < (ys.take (at' - f)).length := by
      rcases Nat.lt_or_ge j (ys.take (at' - f)).length with h' | h'
      · exact h'
      · rw [List.getElem?_eq_none (by rw [List.length_map]; exact h')] at hj; cases hj
    have hz := hjl
    rw [List.length_take, Hy.out] at hz
    rw [add_plain, Ints.cell hI3 (f + G + j) (by rw [el]; omega), ← hj, map_getD _ _ hjl]
    congr 2
    have hj2 : j < at' - f := by omega
    rw [List.getD_eq_getElem?_getD, List.getD_eq_getElem?_getD, List.getElem?_append_right (by rw [Hf.out]; omega), List.getElem?_append_right (by rw [Hf.out, HG.out]; omega), List.getElem?_take, if_pos hj2]
    congr 2
    rw [Hf.out, HG.out]; omega
  intro w4 hH hg4
  have hF4 := hF3'.grown hI3 hg4
  obtain ⟨d0', d1', d2', hfz4⟩ := hF4.box
  have f1 := hfz4 1
  have f2 := hfz4 2
  have HH := Lib.hid hH
  have HF4 := Lib.hid hF4
  have HK4 := Lib.hid (hK3.grown hg4 hN3 HM.out)
  clear hH hF4 hfz4 hcl hI3 hF3 hF3' hK3 hg4 el hN3
  simp only [Hf.out, HG.out] at d1' d2'
  go_wp2
  all_goals
    go_end0
    refine ⟨rfl, move_end (gs' := (((zs ++ (gs ++ ys)).drop at').take gs.length)) HF4.out ?_ HM.out HK4.out ?_ ?_ _ _ ?_ ?_⟩
    · refine ints_splice HH.out.out ?_ ?_
      · rw [List.length_take, HEl.out, Hf.out, HG.out, Hy.out]; omega
      · rw [← Hf.out]; exact move_behind_list zs gs ys at' (by rw [Hf.out]; exact hat) (by rw [Hf.out, Hy.out]; exact hat2)
    · simp only [List.length_take, List.length_drop, List.length_append, Hf.out, HG.out, Hy.out]; omega
    · simp only [List.length_take, List.length_drop, List.length_append, Hf.out, HG.out, Hy.out]; omega
    · simp only [List.length_take, List.length_append, Hf.out, Hy.out]; omega
    · simp only [List.length_take, List.length_drop, List.length_append, Hf.out, HG.out, Hy.out]; omega

theorem bmove_any {S : Nat → Prop} {N r B : Nat} {zs ys : List Int} {w : World} (h : Bf S N r B zs ys w) (at' : Nat) (hat : at' ≤ zs.length + ys.length) :
    Calls Tryd.prog 45 #[.pointer (some ⟨B, 0, none⟩), .int .i64 at'] w fun e w' => e = .returned (.tuple #[]) ∧ Bf S N r B ((zs ++ ys).take at') ((zs ++ ys).drop at') w' ∧ Keep S N w w' := by
  rcases Nat.lt_or_ge at' zs.length with h' | h'
  · exact bmove_ahead h at' h'
  · exact bmove_behind h at' h' hat
end Go.Proofs.YtpldalmodcmfaaaDoor
