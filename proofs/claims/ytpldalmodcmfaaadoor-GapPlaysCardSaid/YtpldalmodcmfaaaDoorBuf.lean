/- A buffer: its box, its array with the gap, its line feeds. What only reads it: width, Len, has, at, parts. -/
import Derived.Test.YtpldalmodcmfaaaDoorFeedsWalk
import Derived.Test.YtpldalmodcmfaaaDoorFeedsWalk2
namespace Go.Proofs.YtpldalmodcmfaaaDoor
open Go.RowKit

theorem ret_intB {k : IntKind} {a b : Int} (h : a = b) : Ending.returned (.int k a) = .returned (.int k b) := by rw [h]

/-- The runes ahead of the gap, and those behind it. -/
def Bf (S : Nat → Prop) (N r B : Nat) (zs ys : List Int) (w : World) : Prop :=
  ∃ va gs, Fs S N B va (.int .i64 zs.length) (.int .i64 (zs.length + gs.length : Nat)) (lfs 0 zs) (bks ys) w ∧ Ints w 21 .i32 va (zs ++ (gs ++ ys)) ∧ Mine S N va ∧ zs.length + gs.length + ys.length ≤ 20000 ∧ r ≤ gs.length
theorem Bf.drewN {S : Nat → Prop} {N r B : Nat} {zs ys : List Int} {w : World} (h : Bf S N r B zs ys w) (n : Nat) : Bf S N r B zs ys (w.drewN n) := h

/-- What is in the box, for a walk. -/
theorem Bf.cells {S : Nat → Prop} {N r B : Nat} {zs ys : List Int} {w : World} (h : Bf S N r B zs ys w) :
    ∃ (gs : List Int) (ao : Option Addr) (cap : Nat), zs.length + gs.length + ys.length ≤ 20000 ∧ r ≤ gs.length ∧ zs.length + (gs.length + ys.length) ≤ cap ∧ cap ≤ maxLen ∧
      w.cell? ⟨B, 0, none⟩ = some (.slice ao (zs.length + (gs.length + ys.length)) cap) ∧ w.cell? ⟨B, 1, none⟩ = some (.int .i64 zs.length) ∧ w.cell? ⟨B, 2, none⟩ = some (.int .i64 (zs.length + gs.length : Nat)) ∧
      ((ao = none ∧ cap = 0 ∧ zs.length + (gs.length + ys.length) = 0) ∨ ∃ g, ao = some ⟨g, 0, none⟩ ∧ ∀ j, j < zs.length + (gs.length + ys.length) → w.cell? ⟨g, j, none⟩ = some (.int .i32 ((zs ++ (gs ++ ys)).getD j 0))) := by
  obtain ⟨va, gs, ⟨v3, v4, hB, _⟩, hI, _, hl, hr⟩ := h
  have el : (zs ++ (gs ++ ys)).length = zs.length + (gs.length + ys.length) := by simp
  rcases hI.2 with ⟨rfl, hn⟩ | ⟨g, cap, cur, rfl, _, _, hc, hm, _⟩
  · rw [el] at hn
    refine ⟨gs, none, 0, hl, hr, by omega, by decide, ?_, box_cell hB 1, box_cell hB 2, .inl ⟨rfl, rfl, hn⟩⟩
    rw [box_cell hB 0, hn]; rfl
  · refine ⟨gs, _, cap, hl, hr, by omega, hm, ?_, box_cell hB 1, box_cell hB 2, .inr ⟨g, rfl, fun j hj => hI.cell j (by omega)⟩⟩
    rw [box_cell hB 0, ← el]; rfl

set_option maxRecDepth 100000 in
set_option maxHeartbeats 1000000 in
theorem width_at {B : Nat} {w : World} {f t : Nat} (h1 : w.cell? ⟨B, 1, none⟩ = some (.int .i64 f)) (h2 : w.cell? ⟨B, 2, none⟩ = some (.int .i64 (f + t : Nat))) (hf : f + t ≤ 20000) :
    Calls Tryd.prog 32 #[.pointer (some ⟨B, 0, none⟩)] w fun e w' => e = .returned (.int .i64 t) ∧ ∃ q, w' = w.drewN q := by
  have e1 : IntKind.i64.wrap (((f + t : Nat) : Int) - (f : Int)) = (t : Int) := by rw [show (((f + t : Nat) : Int) - (f : Int)) = (t : Int) by omega]; exact IntWalk.i64_in _ (by omega)
  go_enter Tryd.func32, Tryd.ntmps32
  go_wp2
  go_quiet (fail)
  go_wp2
  go_ret
  exact ⟨ret_intB (by omega), _, rfl⟩

set_option maxRecDepth 100000 in
set_option maxHeartbeats 1000000 in
theorem len_at {B : Nat} {w : World} {f t y cap : Nat} {ao : Option Addr} (h0 : w.cell? ⟨B, 0, none⟩ = some (.slice ao (f + (t + y)) cap)) (h1 : w.cell? ⟨B, 1, none⟩ = some (.int .i64 f)) (h2 : w.cell? ⟨B, 2, none⟩ = some (.int .i64 (f + t : Nat))) (hf : f + t + y ≤ 20000) :
    Calls Tryd.prog 14 #[.pointer (some ⟨B, 0, none⟩)] w fun e w' => e = .returned (.int .i64 (f + y : Nat)) ∧ ∃ q, w' = w.drewN q := by
  have hw := fun q => width_at (B := B) (w := w.drewN q) (f := f) (t := t) h1 h2 (by omega)
  have e1 : IntKind.i64.wrap (((f + (t + y) : Nat) : Int) - (t : Int)) = ((f + y : Nat) : Int) := by rw [show (((f + (t + y) : Nat) : Int) - (t : Int)) = ((f + y : Nat) : Int) by omega]; exact IntWalk.i64_in _ (by omega)
  go_enter Tryd.func14, Tryd.ntmps14
  go_wp2
  go_quiet ((go_at_call 32; exact Calls.quiet_of (hw _)))
  go_wp2
  go_ret
  exact ⟨ret_intB (by omega), _, rfl⟩

theorem width_any {S : Nat → Prop} {N r B : Nat} {zs ys : List Int} {w : World} (h : Bf S N r B zs ys w) :
    ∃ gs : List Int, zs.length + gs.length + ys.length ≤ 20000 ∧ r ≤ gs.length ∧ Calls Tryd.prog 32 #[.pointer (some ⟨B, 0, none⟩)] w fun e w' => e = .returned (.int .i64 gs.length) ∧ ∃ q, w' = w.drewN q := by
  obtain ⟨gs, ao, cap, hl, hr, hc, hm, h0, h1, h2, _⟩ := h.cells
  exact ⟨gs, hl, hr, width_at h1 h2 (by omega)⟩
theorem blen_any {S : Nat → Prop} {N r B : Nat} {zs ys : List Int} {w : World} (h : Bf S N r B zs ys w) :
    Calls Tryd.prog 14 #[.pointer (some ⟨B, 0, none⟩)] w fun e w' => e = .returned (.int .i64 (zs.length + ys.length : Nat)) ∧ ∃ q, w' = w.drewN q := by
  obtain ⟨gs, ao, cap, hl, hr, hc, hm, h0, h1, h2, _⟩ := h.cells
  exact len_at h0 h1 h2 (by omega)
theorem Bf.le {S : Nat → Prop} {N r B : Nat} {zs ys : List Int} {w : World} (h : Bf S N r B zs ys w) : zs.length + ys.length ≤ 20000 := by
  obtain ⟨gs, ao, cap, hl, _⟩ := h.cells
  omega

/-- Is it a place, with n runes from it on? -/
def hasB (len : Nat) (at' n : Int) : Bool := decide (0 ≤ at' ∧ at' ≤ len ∧ 0 ≤ n ∧ n ≤ len - at')
set_option maxRecDepth 100000 in
set_option maxHeartbeats 2000000 in
theorem has_any {S : Nat → Prop} {N r B : Nat} {zs ys : List Int} {w : World} (h : Bf S N r B zs ys w) (at' n : Int) :
    Calls Tryd.prog 38 #[.pointer (some ⟨B, 0, none⟩), .int .i64 at', .int .i64 n] w fun e w' => e = .returned (.bool (hasB (zs.length + ys.length) at' n)) ∧ ∃ q, w' = w.drewN q := by
  have hL := fun q => blen_any (h.drewN q)
  have hL0 := blen_any h
  have hle := h.le
  obtain ⟨m, hm⟩ : ∃ m, zs.length + ys.length = m := ⟨_, rfl⟩
  rw [hm] at hle ⊢
  simp only [hm] at hL hL0
  clear hm h
  by_cases c1 : 0 ≤ at'
  · by_cases c2 : at' ≤ m
    · by_cases c3 : 0 ≤ n
      · have e1 : IntKind.i64.wrap ((m : Int) - at') = m - at' := IntWalk.i64_in _ (by omega)
        by_cases c4 : n ≤ m - at'
        · rw [show hasB m at' n = true from decide_eq_true ⟨c1, c2, c3, c4⟩]
          go_enter Tryd.func38, Tryd.ntmps38
          go_wp2_with (go_at_call 14; (first | refine hL0.mono ?_ | refine (hL _).mono ?_); rintro e _ ⟨rfl, q, rfl⟩)
          go_ret
          exact ⟨rfl, _, rfl⟩
        · rw [show hasB m at' n = false from decide_eq_false fun hh => c4 hh.2.2.2]
          have hd : decide (n ≤ (m : Int) - at') = false := decide_eq_false c4
          go_enter Tryd.func38, Tryd.ntmps38
          go_wp2_with (go_at_call 14; (first | refine hL0.mono ?_ | refine (hL _).mono ?_); rintro e _ ⟨rfl, q, rfl⟩)
          go_ret
          exact ⟨rfl, _, rfl⟩
      · rw [show hasB m at' n = false from decide_eq_false fun hh => c3 hh.2.2.1]
        go_enter Tryd.func38, Tryd.ntmps38
        go_wp2_with (go_at_call 14; (first | refine hL0.mono ?_ | refine (hL _).mono ?_); rintro e _ ⟨rfl, q, rfl⟩)
        go_ret
        exact ⟨rfl, _, rfl⟩
    · rw [show hasB m at' n = false from decide_eq_false fun hh => c2 hh.2.1]
      go_enter Tryd.func38, Tryd.ntmps38
      go_wp2_with (go_at_call 14; (first | refine hL0.mono ?_ | refine (hL _).mono ?_); rintro e _ ⟨rfl, q, rfl⟩)
      go_ret
      exact ⟨rfl, _, rfl⟩
  · rw [show hasB m at' n = false from decide_eq_false fun hh => c1 hh.1]
    go_enter Tryd.func38, Tryd.ntmps38
    go_wp2_with (go_at_call 14; (first | refine hL0.mono ?_ | refine (hL _).mono ?_); rintro e _ ⟨rfl, q, rfl⟩)
    go_ret
    exact ⟨rfl, 0, rfl⟩
end Go.Proofs.YtpldalmodcmfaaaDoor
