/- A buffer's Insert. -/
import Derived.Test.YtpldalmodcmfaaaDoorBufWiden
import Derived.Test.YtpldalmodcmfaaaDoorBufMove2
import Derived.Test.YtpldalmodcmfaaaDoorSplit
namespace Go.Proofs.YtpldalmodcmfaaaDoor
open Go.RowKit Go.WideShapes

theorem Bf.out {S : Nat → Prop} {N r B : Nat} {zs ys : List Int} {w w1 : World} {v : Value} (h : Bf S N r B zs ys w) (hb : Below w.heap.size w w1) (hv : ∀ g, v.ownBlock = some g → w.heap.size ≤ g) : Bf (Out S N v.ownBlock) w1.heap.size r B zs ys w1 := by
  obtain ⟨va, gs, ⟨v3, v4, hB, h3, h4, m3, m4, hN, hSB⟩, hI, hM, hl, hr⟩ := h
  have ne : ∀ g, g < w.heap.size → some g ≠ v.ownBlock := fun g hg e => by have := hv g e.symm; omega
  have lt : ∀ {e k} {u : Value} {xs : List Int}, Ints w e k u xs → ∀ g, u.ownBlock = some g → g < w.heap.size := fun hi g hg => by
    obtain ⟨c, hc⟩ := hi.typed g hg
    exact box_lt hc
  refine ⟨va, gs, ⟨v3, v4, (hb.block B (box_lt hB)).trans hB, h3.of_kept fun g hg => hb.block g (lt h3 g hg), h4.of_kept fun g hg => hb.block g (lt h4 g hg), fun g hg => .inl ⟨m3 g hg, ne g (lt h3 g hg)⟩, fun g hg => .inl ⟨m4 g hg, ne g (lt h4 g hg)⟩, Nat.le_refl _, .inl ⟨hSB, ne B (box_lt hB)⟩⟩, hI.of_kept fun g hg => hb.block g (lt hI g hg), fun g hg => .inl ⟨hM g hg, ne g (lt hI g hg)⟩, hl, hr⟩
theorem Bf.back {S : Nat → Prop} {N N' r B : Nat} {o : Option Nat} {zs ys : List Int} {w : World} (h : Bf (Out S N o) N' r B zs ys w) (hN : N ≤ N') : Bf S N r B zs ys w := by
  obtain ⟨va, gs, hF, hI, hM, hl, hr⟩ := h
  exact ⟨va, gs, hF.back hN, hI, fun g hg => (hM g hg).elim (fun q => q.1) (fun q => .inr (by omega)), hl, hr⟩
theorem Bf.room {S : Nat → Prop} {N r r' B : Nat} {zs ys : List Int} {w : World} (h : Bf S N r B zs ys w) (hr' : r' ≤ r) : Bf S N r' B zs ys w := by
  obtain ⟨va, gs, hF, hI, hM, hl, hr⟩ := h
  exact ⟨va, gs, hF, hI, hM, hl, by omega⟩
/-- What was made apart stays as it is. -/
theorem ints_apart {S : Nat → Prop} {N : Nat} {w w' : World} {v : Value} {k : IntKind} {e : TypeId} {xs : List Int} (hI : Ints w e k v xs) (h : Keep (Out S N v.ownBlock) w.heap.size w w') : Ints w' e k v xs :=
  hI.of_kept fun g hg => h.block g (by obtain ⟨c, hc⟩ := hI.typed g hg; exact box_lt hc) fun q => q.2 hg.symm

theorem Bf.fresh {S : Nat → Prop} {N r B : Nat} {zs ys : List Int} {w w1 : World} (h : Bf S N r B zs ys w) (hb : Below w.heap.size w w1) : Bf S N r B zs ys w1 := by
  obtain ⟨va, gs, hF, hI, hM, hl, hr⟩ := h
  exact ⟨va, gs, hF.fresh hb, hI.of_kept fun g hg => hb.block g (by obtain ⟨c, hc⟩ := hI.typed g hg; exact box_lt hc), hM, hl, hr⟩
theorem Bf.mem {S : Nat → Prop} {N r B : Nat} {zs ys : List Int} {w : World} (h : Bf S N r B zs ys w) : N ≤ w.heap.size := by
  obtain ⟨va, gs, hF, _⟩ := h
  exact hF.mem.2.1
/-- What Insert makes of the runes, and its answer. -/
def insX (xs : List Int) (a : Int) (o : Option (List Int)) : List Int × Int :=
  match o with
  | none => (xs, 2)
  | some l => if 0 ≤ a ∧ a ≤ xs.length then (if xs.length + l.length ≤ 20000 then (xs.take a.toNat ++ (l ++ xs.drop a.toNat), 0) else (xs, 4)) else (xs, 3)
/-- What Insert leaves. -/
def InsPost (S : Nat → Prop) (N B : Nat) (x : List Int × Int) (w : World) (e : Ending) (w' : World) : Prop :=
  e = .returned (.int .i64 x.2) ∧ ∃ zs' ys', zs' ++ ys' = x.1 ∧ Bf S N 0 B zs' ys' w' ∧ Keep S N w w'

set_option maxRecDepth 100000 in
set_option maxHeartbeats 4000000 in
theorem binsert_text {S : Nat → Prop} {N B : Nat} {zs ys : List Int} {w : World} (h : Bf S N 0 B zs ys w) (a : Int) (s : ByteArray) (hs : s.size ≤ maxLen) (hT : Lib.Utf8Tabs 0 1 w) (hr : runesL s.data.toList = none) :
    Calls Tryd.prog 26 #[.pointer (some ⟨B, 0, none⟩), .int .i64 a, .string s] w (InsPost S N B (zs ++ ys, 2) w) := by
  have hL := len_any s hs w hT
  rw [lenL_none hr] at hL
  have H := Lib.hid h
  clear h hT hr hs
  go_enter Tryd.func26, Tryd.ntmps26
  go_wp2_with (go_at_call 42; refine hL.mono ?_; clear hL; rintro e w1 ⟨rfl, hb⟩)
  go_ret
  exact ⟨rfl, zs, ys, rfl, H.out.fresh hb, Keep.of_below hb H.out.mem⟩

set_option maxRecDepth 100000 in
set_option maxHeartbeats 4000000 in
theorem binsert_range {S : Nat → Prop} {N B : Nat} {zs ys : List Int} {w : World} (h : Bf S N 0 B zs ys w) (a : Int) (s : ByteArray) (hs : s.size ≤ maxLen) (hT : Lib.Utf8Tabs 0 1 w) (l : List Int) (hr : runesL s.data.toList = some l) (ha : ¬ (0 ≤ a ∧ a ≤ (zs.length + ys.length : Nat))) :
    Calls Tryd.prog 26 #[.pointer (some ⟨B, 0, none⟩), .int .i64 a, .string s] w (InsPost S N B (zs ++ ys, 3) w) := by
  have hL := len_any s hs w hT
  rw [lenL_some hr] at hL
  have hH : ∀ w1, Below w.heap.size w w1 → _ := fun w1 hb => has_any (h.fresh hb) a 0
  have hf : hasB (zs.length + ys.length) a 0 = false := decide_eq_false fun q => ha ⟨q.1, q.2.1⟩
  rw [hf] at hH
  have H := Lib.hid h
  have hn0 : ¬ ((l.length : Int) < 0) := by omega
  clear h hT hr hs hf ha
  go_enter Tryd.func26, Tryd.ntmps26
  go_wp2_with (first
    | (go_at_call 42; refine hL.mono ?_; clear hL; rintro e w1 ⟨rfl, hb⟩)
    | (go_at_call 38; refine (hH _ hb).mono ?_; clear hH; rintro e _ ⟨rfl, q, rfl⟩))
  go_ret
  exact ⟨rfl, zs, ys, rfl, (H.out.fresh hb).drewN _, (Keep.of_below hb H.out.mem).drewN _⟩

set_option maxRecDepth 100000 in
set_option maxHeartbeats 4000000 in
theorem binsert_full {S : Nat → Prop} {N B : Nat} {zs ys : List Int} {w : World} (h : Bf S N 0 B zs ys w) (a : Int) (s : ByteArray) (hs : s.size ≤ maxLen) (hT : Lib.Utf8Tabs 0 1 w) (l : List Int) (hr : runesL s.data.toList = some l) (ha : 0 ≤ a ∧ a ≤ (zs.length + ys.length : Nat)) (hfull : 20000 < zs.length + ys.length + l.length) :
    Calls Tryd.prog 26 #[.pointer (some ⟨B, 0, none⟩), .int .i64 a, .string s] w (InsPost S N B (zs ++ ys, 4) w) := by
  have hL := len_any s hs w hT
  rw [lenL_some hr] at hL
  have hH : ∀ w1, Below w.heap.size w w1 → _ := fun w1 hb => has_any (h.fresh hb) a 0
  have hf : hasB (zs.length + ys.length) a 0 = true := decide_eq_true ⟨ha.1, ha.2, by omega, by omega⟩
  rw [hf] at hH
  have hLen : ∀ w1, Below w.heap.size w w1 → ∀ q, _ := fun w1 hb q => blen_any ((h.fresh hb).drewN q)
  have hle := h.le
  have H := Lib.hid h
  obtain ⟨m, hm⟩ : ∃ m, zs.length + ys.length = m := ⟨_, rfl⟩
  simp only [hm] at hLen
  rw [hm] at hfull hle
  have hn0 : ¬ ((l.length : Int) < 0) := by omega
  have hg : (20000 : Int) - (m : Int) < (l.length : Int) := by omega
  clear h hT hr hs hf ha hm
  go_enter Tryd.func26, Tryd.ntmps26
  go_wp2_with (first
    | (go_at_call 42; refine hL.mono ?_; clear hL; rintro e w1 ⟨rfl, hb⟩)
    | (go_at_call 38; refine (hH _ hb).mono ?_; clear hH; rintro e _ ⟨rfl, q, rfl⟩)
    | (go_at_call 14; refine (hLen _ hb _).mono ?_; clear hLen; rintro e _ ⟨rfl, q2, rfl⟩))
  go_ret
  exact ⟨rfl, zs, ys, rfl, (H.out.fresh hb).drewN _, (Keep.of_below hb H.out.mem).drewN _⟩
end Go.Proofs.YtpldalmodcmfaaaDoor
