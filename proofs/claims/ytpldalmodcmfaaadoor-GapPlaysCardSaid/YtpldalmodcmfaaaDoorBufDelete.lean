/- A buffer's Delete. -/
import Derived.Test.YtpldalmodcmfaaaDoorBufInsert
namespace Go.Proofs.YtpldalmodcmfaaaDoor
open Go.RowKit Go.WideShapes

theorem bks_sorted (ys : List Int) : (bks ys).Pairwise (· < ·) := by
  unfold bks
  rw [List.pairwise_reverse, List.pairwise_map]
  exact (lfs_sorted 0 ys).imp (by intro a b h; omega)

set_option maxRecDepth 100000 in
set_option maxHeartbeats 4000000 in
theorem bdelete_no {S : Nat → Prop} {N B : Nat} {zs ys : List Int} {w : World} (h : Bf S N 0 B zs ys w) (a n : Int) (hn : hasB (zs.length + ys.length) a n = false) :
    Calls Tryd.prog 29 #[.pointer (some ⟨B, 0, none⟩), .int .i64 a, .int .i64 n] w (InsPost S N B (zs ++ ys, 3) w) := by
  have hH := has_any h a n
  rw [hn] at hH
  have H := Lib.hid h
  clear h hn
  go_enter Tryd.func29, Tryd.ntmps29
  go_wp2_with (go_at_call 38; refine hH.mono ?_; clear hH; rintro e _ ⟨rfl, q, rfl⟩)
  go_ret
  exact ⟨rfl, zs, ys, rfl, H.out.drewN _, (Keep.refl _ _ _).drewN _⟩

theorem fs_leave_to {S : Nat → Prop} {N B : Nat} {a0 a1 a2 : Value} (ah X2 : List Int) (n : Nat) (w : World) (hn : n ≤ X2.length) (h : Fs S N B a0 a1 a2 ah (bks X2) w) :
    Calls Tryd.prog 47 #[.pointer (some ⟨B, 3, none⟩), .int .i64 ((X2.length - n : Nat) : Int)] w fun e w' => e = .returned (.tuple #[]) ∧ Fs S N B a0 a1 a2 ah (bks (X2.drop n)) w' ∧ Keep S N w w' := by
  refine (fs_leave ah (bks X2) ((X2.length - n : Nat) : Int) w (bks_sorted X2) h).mono ?_
  rintro e w' ⟨rfl, k, hF, hK, h1, h2⟩
  have hs : bks X2 = bks (X2.drop n) ++ backs (((X2.take n).length : Int) + (X2.drop n).length) (lfs 0 (X2.take n)) := by
    rw [← bks_append, List.take_append_drop]
  have hl1 : (X2.take n).length = n := by rw [List.length_take]; omega
  have hl2 : (X2.drop n).length = X2.length - n := List.length_drop
  obtain ⟨e1, _⟩ := parted (m := ((X2.length - n : Nat) : Int) + 1) (List.take_append_drop k (bks X2)).symm hs h1 h2 (fun p hp => by
    have := bks_range _ p hp
    rw [hl2] at this
    omega) (fun p hp => by
    simp only [backs, List.mem_reverse, List.mem_map] at hp
    obtain ⟨q, hq, rfl⟩ := hp
    have := lfs_range 0 _ q hq
    omega)
  rw [e1] at hF
  exact ⟨rfl, hF, hK⟩

theorem Keep.undraw1 {S : Nat → Prop} {N : Nat} {a b : World} (h : Keep S N a.drew b) : Keep S N a b := ⟨h.os, h.tape, h.output, h.size, h.block⟩
set_option maxRecDepth 100000 in
set_option maxHeartbeats 1000000 in
theorem bdelete_ok {S : Nat → Prop} {N B : Nat} {zs ys : List Int} {w : World} (h : Bf S N 0 B zs ys w) (a n : Nat) (hn : a + n ≤ zs.length + ys.length) :
    Calls Tryd.prog 29 #[.pointer (some ⟨B, 0, none⟩), .int .i64 a, .int .i64 n] w (InsPost S N B ((zs ++ ys).take a ++ (zs ++ ys).drop (a + n), 0) w) := by
  have hH := has_any h a n
  rw [show hasB (zs.length + ys.length) a n = true from decide_eq_true ⟨by omega, by omega, by omega, by omega⟩] at hH
  obtain ⟨X1, hX1⟩ : ∃ X1, (zs ++ ys).take a = X1 := ⟨_, rfl⟩
  obtain ⟨X2, hX2⟩ : ∃ X2, (zs ++ ys).drop a = X2 := ⟨_, rfl⟩
  have hX3 : (zs ++ ys).drop (a + n) = X2.drop n := by rw [← hX2, List.drop_drop]
  have hl1 : X1.length = a := by rw [← hX1, List.length_take, List.length_append]; omega
  have hl2 : n ≤ X2.length := by rw [← hX2, List.length_drop, List.length_append]; omega
  have hMv2 := fun q => bmove_any (h.drewN q) a (by omega)
  rw [hX3, hX1]
  simp only [hX1, hX2] at hMv2
  have Hl1 := Lib.hid hl1
  clear h hX1 hX2 hX3 hl1
  go_enter Tryd.func29, Tryd.ntmps29
  go_wp2_with (go_at_call 38; refine hH.mono ?_; clear hH; rintro e _ ⟨rfl, q, rfl⟩)
  go_wp2_with (go_at_call 45; refine (hMv2 _).mono ?_; clear hMv2; rintro e w1 ⟨rfl, h1, hk1⟩; obtain ⟨va, gs, hF, hI, hM, hl, hr⟩ := id h1; have hbx := hF.box; have c0 := hbx.1; have c2 := hbx.2.2.1; have f2 := hbx.2.2.2 2; have hsh := Ints.shape hI; have HF := Lib.hid hF; have HI := Lib.hid hI; have HM := Lib.hid hM; have HK := Lib.hid hk1.undraw; clear hF hI hM hbx h1 hk1)
  obtain ⟨ao, cap, rfl, hcc, hcm, _⟩ := hsh
  have el : (X1 ++ (gs ++ X2)).length = X1.length + (gs.length + X2.length) := by simp
  rw [el] at c0
  have hF3 := HF.out.set 2 (.int .i64 (((X1.length : Int) + (gs.length : Int)) + (n : Int))) (by omega)
  have hI3 := HF.out.arr HI.out 2 (.int .i64 (((X1.length : Int) + (gs.length : Int)) + (n : Int)))
  have hLv : ∀ (r : Int), r = ((X2.length - n : Nat) : Int) → Calls Tryd.prog 47 #[.pointer (some ⟨B, 3, none⟩), .int .i64 r] (w1.setCell ⟨B, 2, none⟩ (.int .i64 (((X1.length : Int) + (gs.length : Int)) + (n : Int)))).drew _ := fun r hr => by
    subst hr
    exact fs_leave_to _ X2 n (w1.setCell ⟨B, 2, none⟩ (.int .i64 (((X1.length : Int) + (gs.length : Int)) + (n : Int)))).drew hl2 (hF3.out hI3)
  have d0 : (w1.setCell ⟨B, 2, none⟩ (.int .i64 (((X1.length : Int) + (gs.length : Int)) + (n : Int)))).cell? ⟨B, 0, none⟩ = some (.slice ao (X1.length + (gs.length + X2.length)) cap) := by rw [← el]; exact hF3.box.1
  have d2 := hF3.box.2.2.1
  have HF3 := Lib.hid hF3
  have HI3 := Lib.hid hI3
  have El := Lib.hid el
  clear hF3 hI3 el c0 c2 f2
  go_region_held (fun W => W.cell? ⟨B, 0, none⟩ = some (.slice ao (X1.length + (gs.length + X2.length)) cap) ∧ W.cell? ⟨B, 2, none⟩ = some (.int .i64 (((X1.length : Int) + (gs.length : Int)) + (n : Int)))) (first | exact ⟨d0, d2⟩ | exact ⟨e0, e2⟩ | assumption) (first | (go_at_call 47; refine (hLv _ (by rw [IntWalk.i64_in _ (by omega)]; omega)).mono ?_; rintro e w3 ⟨rfl, hF4, hK4⟩; have hb4 := hF4.box; have e0 : w3.cell? ⟨B, 0, none⟩ = some (.slice ao (X1.length + (gs.length + X2.length)) cap) := by { rw [← El.out]; exact hb4.1 }; have e2 := hb4.2.2.1))
  go_wp2
  go_ret
  have hN1 : N ≤ (w1.setCell ⟨B, 2, none⟩ (.int .i64 (((X1.length : Int) + (gs.length : Int)) + (n : Int)))).heap.size := HF3.out.mem.2.1
  have hK5 := hK4.undraw1
  have hI4 := HI3.out.out hK5
  have hF5 := hF4.back hN1
  refine ⟨rfl, X1, X2.drop n, rfl, ⟨.slice ao (X1 ++ (gs ++ X2)).length cap, gs ++ X2.take n, ?_, ?_, HM.out, ?_, Nat.zero_le _⟩, ?_⟩
  · have e8 : ((X1.length + (gs ++ X2.take n).length : Nat) : Int) = ((X1.length : Int) + (gs.length : Int)) + (n : Int) := by rw [List.length_append, List.length_take, Nat.min_eq_left hl2]; omega
    rw [e8]
    exact hF5
  · rw [List.append_assoc gs, List.take_append_drop]; exact hI4
  · rw [List.length_append, List.length_take, List.length_drop, Nat.min_eq_left hl2]; omega
  · exact HK.out.trans (((Keep.refl _ _ w1).setCell HF.out.mem.1 _).trans (hK5.back hN1))
end Go.Proofs.YtpldalmodcmfaaaDoor
