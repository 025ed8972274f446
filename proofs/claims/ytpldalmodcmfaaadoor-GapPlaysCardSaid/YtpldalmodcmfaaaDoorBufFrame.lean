/- How a buffer's box, stacks and array stand over steps that turn one of them. -/
import Derived.Test.YtpldalmodcmfaaaDoorBuf
namespace Go.Proofs.YtpldalmodcmfaaaDoor
open Go.RowKit

theorem Keep.undraw {S : Nat → Prop} {N n : Nat} {a b : World} (h : Keep S N (a.drewN n) b) : Keep S N a b := ⟨h.os, h.tape, h.output, h.size, h.block⟩
/-- The blocks of S and the new ones, but for one. -/
def Out (S : Nat → Prop) (N : Nat) (o : Option Nat) : Nat → Prop := fun k => (S k ∨ N ≤ k) ∧ some k ≠ o

theorem Fs.out {S : Nat → Prop} {N B : Nat} {a0 a1 a2 va : Value} {ah bh A : List Int} {w : World} (h : Fs S N B a0 a1 a2 ah bh w) (hI : Ints w 21 .i32 va A) : Fs (Out S N va.ownBlock) w.heap.size B a0 a1 a2 ah bh w := by
  obtain ⟨v3, v4, hB, h3, h4, m3, m4, hN, hSB⟩ := h
  refine ⟨v3, v4, hB, h3, h4, fun g hg => .inl ⟨m3 g hg, fun e => ?_⟩, fun g hg => .inl ⟨m4 g hg, fun e => ?_⟩, Nat.le_refl _, .inl ⟨hSB, fun e => hI.ne hB (by decide) e.symm⟩⟩
  · obtain ⟨c, hc⟩ := h3.typed g hg
    exact hI.ne hc (by decide) e.symm
  · obtain ⟨c, hc⟩ := h4.typed g hg
    exact hI.ne hc (by decide) e.symm
theorem Fs.back {S : Nat → Prop} {N N' B : Nat} {o : Option Nat} {a0 a1 a2 : Value} {ah bh : List Int} {w : World} (h : Fs (Out S N o) N' B a0 a1 a2 ah bh w) (hN' : N ≤ N') : Fs S N B a0 a1 a2 ah bh w := by
  obtain ⟨v3, v4, hB, h3, h4, m3, m4, hN, hSB⟩ := h
  exact ⟨v3, v4, hB, h3, h4, fun g hg => (m3 g hg).elim (fun q => q.1) (fun q => .inr (by omega)), fun g hg => (m4 g hg).elim (fun q => q.1) (fun q => .inr (by omega)), by omega, hSB.elim (fun q => q.1) (fun q => .inr (by omega))⟩
theorem Keep.back {S : Nat → Prop} {N N' : Nat} {o : Option Nat} {w w' : World} (h : Keep (Out S N o) N' w w') (hN' : N ≤ N') : Keep S N w w' :=
  h.weak hN' fun _ hk q => q.1.elim id fun r => absurd hk (Nat.not_lt.2 r)
theorem Ints.out {S : Nat → Prop} {N : Nat} {w w' : World} {va : Value} {A : List Int} (hI : Ints w 21 .i32 va A) (h : Keep (Out S N va.ownBlock) w.heap.size w w') : Ints w' 21 .i32 va A :=
  hI.of_kept fun g hg => h.block g (by obtain ⟨c, hc⟩ := hI.typed g hg; exact box_lt hc) fun q => q.2 hg.symm

theorem Fs.grown {S : Nat → Prop} {N B : Nat} {a0 a1 a2 va : Value} {ah bh A : List Int} {w w' : World} (h : Fs S N B a0 a1 a2 ah bh w) (hI : Ints w 21 .i32 va A) (hg : w.grownBy w' va.ownBlock) : Fs S N B a0 a1 a2 ah bh w' := by
  obtain ⟨v3, v4, hB, h3, h4, m3, m4, hN, hSB⟩ := h
  refine ⟨v3, v4, (hg.block B (box_lt hB) fun e => hI.ne hB (by decide) e.symm).trans hB, ?_, ?_, m3, m4, by have := hg.size; omega, hSB⟩
  · refine h3.of_kept fun g hgo => ?_
    obtain ⟨c, hc⟩ := h3.typed g hgo
    exact hg.block g (box_lt hc) fun e => hI.ne hc (by decide) e.symm
  · refine h4.of_kept fun g hgo => ?_
    obtain ⟨c, hc⟩ := h4.typed g hgo
    exact hg.block g (box_lt hc) fun e => hI.ne hc (by decide) e.symm
theorem Fs.fresh {S : Nat → Prop} {N B : Nat} {a0 a1 a2 : Value} {ah bh : List Int} {w w' : World} (h : Fs S N B a0 a1 a2 ah bh w) (hg : Below w.heap.size w w') : Fs S N B a0 a1 a2 ah bh w' := by
  obtain ⟨v3, v4, hB, h3, h4, m3, m4, hN, hSB⟩ := h
  refine ⟨v3, v4, (hg.block B (box_lt hB)).trans hB, ?_, ?_, m3, m4, by have := hg.size; omega, hSB⟩
  · refine h3.of_kept fun g hgo => ?_
    obtain ⟨c, hc⟩ := h3.typed g hgo
    exact hg.block g (box_lt hc)
  · refine h4.of_kept fun g hgo => ?_
    obtain ⟨c, hc⟩ := h4.typed g hgo
    exact hg.block g (box_lt hc)
theorem Fs.set {S : Nat → Prop} {N B : Nat} {a0 a1 a2 : Value} {ah bh : List Int} {w : World} (h : Fs S N B a0 a1 a2 ah bh w) (o : Nat) (u : Value) (ho : o < 3) :
    Fs S N B (if o = 0 then u else a0) (if o = 1 then u else a1) (if o = 2 then u else a2) ah bh (w.setCell ⟨B, o, none⟩ u) := by
  obtain ⟨v3, v4, hB, h3, h4, m3, m4, hN, hSB⟩ := h
  refine ⟨v3, v4, ?_, ints_box h3 hB (by decide) _ _, ints_box h4 hB (by decide) _ _, m3, m4, by rw [World.size_setCell]; exact hN, hSB⟩
  rw [box_set hB]
  match o, ho with
  | 0, _ => rfl
  | 1, _ => rfl
  | 2, _ => rfl
theorem Fs.box {S : Nat → Prop} {N B : Nat} {a0 a1 a2 : Value} {ah bh : List Int} {w : World} (h : Fs S N B a0 a1 a2 ah bh w) : w.cell? ⟨B, 0, none⟩ = some a0 ∧ w.cell? ⟨B, 1, none⟩ = some a1 ∧ w.cell? ⟨B, 2, none⟩ = some a2 ∧ ∀ o, w.frozen? ⟨B, o, none⟩ = false := by
  obtain ⟨v3, v4, hB, _⟩ := h
  exact ⟨box_cell hB 0, box_cell hB 1, box_cell hB 2, fun o => box_frozen hB o⟩
theorem Fs.mem {S : Nat → Prop} {N B : Nat} {a0 a1 a2 : Value} {ah bh : List Int} {w : World} (h : Fs S N B a0 a1 a2 ah bh w) : (S B ∨ N ≤ B) ∧ N ≤ w.heap.size ∧ B < w.heap.size := by
  obtain ⟨v3, v4, hB, _, _, _, _, hN, hSB⟩ := h
  exact ⟨hSB, hN, box_lt hB⟩
theorem Fs.arr {S : Nat → Prop} {N B : Nat} {a0 a1 a2 va : Value} {ah bh A : List Int} {w : World} (h : Fs S N B a0 a1 a2 ah bh w) (hI : Ints w 21 .i32 va A) (o : Nat) (u : Value) : Ints (w.setCell ⟨B, o, none⟩ u) 21 .i32 va A := by
  obtain ⟨v3, v4, hB, _⟩ := h
  exact ints_box hI hB (by decide) _ _

/-- The stacks brought to a place. -/
theorem fs_move_to {S : Nat → Prop} {N B : Nat} {a0 a1 a2 : Value} (zs ys : List Int) (at' : Nat) (w : World) (hat : at' ≤ zs.length + ys.length) (hl : zs.length + ys.length ≤ 20000) (h : Fs S N B a0 a1 a2 (lfs 0 zs) (bks ys) w) :
    Calls Tryd.prog 60 #[.pointer (some ⟨B, 3, none⟩), .int .i64 at', .int .i64 (zs.length + ys.length : Nat)] w fun e w' => e = .returned (.tuple #[]) ∧ Fs S N B a0 a1 a2 (lfs 0 ((zs ++ ys).take at')) (bks ((zs ++ ys).drop at')) w' ∧ Keep S N w w' := by
  have hP : lfs 0 (zs ++ ys) = lfs 0 zs ++ lfs zs.length ys := by rw [lfs_append, Int.zero_add]
  have hlen := lfs_length 0 (zs ++ ys)
  rw [List.length_append] at hlen
  have hr := lfs_range 0 (zs ++ ys)
  rw [List.length_append] at hr
  have htk : (lfs 0 (zs ++ ys)).take (lfs 0 zs).length = lfs 0 zs := by rw [hP, List.take_left]
  have hdr : (lfs 0 (zs ++ ys)).drop (lfs 0 zs).length = lfs zs.length ys := by rw [hP, List.drop_left]
  have e : ((zs.length + ys.length : Nat) : Int) = (zs.length : Int) + ys.length := by omega
  have hM := fs_move (lfs 0 (zs ++ ys)) (lfs 0 zs).length at' ((zs.length + ys.length : Nat) : Int) w (by rw [hP, List.length_append]; omega) (by omega) (lfs_sorted 0 _) (fun p hp => by have := hr p hp; omega) (by omega) (by rw [htk, hdr, e, backs_bks]; exact h)
  refine hM.mono ?_
  rintro en w' ⟨rfl, k, hF, hK, h1, h2⟩
  have hs : lfs 0 (zs ++ ys) = lfs 0 ((zs ++ ys).take at') ++ lfs at' ((zs ++ ys).drop at') := by
    have hh := lfs_append 0 ((zs ++ ys).take at') ((zs ++ ys).drop at')
    rw [List.take_append_drop, List.length_take, List.length_append, Nat.min_eq_left hat, Int.zero_add] at hh
    exact hh
  obtain ⟨e1, e2⟩ := parted (m := (at' : Int)) (List.take_append_drop k (lfs 0 (zs ++ ys))).symm hs h1 h2 (fun p hp => by
    have := lfs_range 0 _ p hp
    rw [List.length_take, List.length_append, Nat.min_eq_left hat] at this
    omega) (fun p hp => (lfs_range at' _ p hp).1)
  rw [e1, e2] at hF
  have e3 : ((zs.length + ys.length : Nat) : Int) = (((zs ++ ys).take at').length : Int) + ((zs ++ ys).drop at').length := by
    rw [List.length_take, List.length_drop, List.length_append, Nat.min_eq_left hat]; omega
  have e4 : (at' : Int) = ((zs ++ ys).take at').length := by rw [List.length_take, List.length_append, Nat.min_eq_left hat]
  have e5 : backs ((zs.length + ys.length : Nat) : Int) (lfs at' ((zs ++ ys).drop at')) = bks ((zs ++ ys).drop at') := by
    rw [e3, e4]
    exact backs_bks _ _
  rw [e5] at hF
  exact ⟨rfl, hF, hK⟩
end Go.Proofs.YtpldalmodcmfaaaDoor
