/- A slice that reads as a list of ints. -/
import Derived.Test.YtnlajfdgpdijjaaRows
import Derived.WalkKit
import Derived.WalkSpells
import Derived.Lib.Hide
import Derived.Deep.QuietTactic
import Derived.BigQuiet
import Derived.WalkSmall
namespace Go.Proofs.Ytnlajfdgpdijjaa
open Go.RowKit

theorem below_draws {N : Nat} {w X : World} (h : Below N w X) (n : Nat) : Below N w (X.drewN n) := ⟨h.os, h.tape, h.output, h.size, h.block⟩
theorem cell_stays {W W' : World} {p : Addr} {v : Value} (hb : Below W.heap.size W W') (h : W.cell? p = some v) : W'.cell? p = some v := by
  rcases Nat.lt_or_ge p.block W.heap.size with g | g
  · rw [hb.cell g]
    exact h
  · simp [World.cell?, Array.getElem?_eq_none g] at h
/-- A slice of ints reads as xs. -/
def Reads64 (W : World) (v : Value) (xs : List Int) : Prop :=
  ∃ ao cap, v = .slice ao xs.length cap ∧ (xs ≠ [] → ∃ b off, ao = some ⟨b, off, none⟩ ∧ ∀ i, i < xs.length → W.cell? ⟨b, off + i, none⟩ = some (.int .i64 (xs.getD i 0)))
theorem Reads64.of_own {W : World} {base : Nat} {v : Value} {xs : List Int} (h : W.ownsRow base 3 1 v xs.length (xs.map (Value.int .i64))) : Reads64 W v xs := by
  rcases h.2 with ⟨hv, h0⟩ | ⟨g, cap, cur, hv, _⟩
  · exact ⟨none, 0, by rw [hv, h0], fun hx => absurd (List.eq_nil_of_length_eq_zero h0) hx⟩
  · subst hv
    refine ⟨_, cap, rfl, fun _ => ⟨g, 0, rfl, fun i hi => ?_⟩⟩
    rw [Nat.zero_add, h.cellAt i (by omega)]
    simp [hi]
theorem Reads64.nil (W : World) : Reads64 W (.slice none 0 0) [] := ⟨none, 0, rfl, fun h => absurd rfl h⟩
theorem Reads64.drew {W : World} {v : Value} {xs : List Int} (h : Reads64 W v xs) (n : Nat) : Reads64 (W.drewN n) v xs := h
theorem Reads64.below {W W' : World} {v : Value} {xs : List Int} (h : Reads64 W v xs) (hb : Below W.heap.size W W') : Reads64 W' v xs := by
  obtain ⟨ao, cap, rfl, h2⟩ := h
  refine ⟨ao, cap, rfl, fun hx => ?_⟩
  obtain ⟨b, off, rfl, hc⟩ := h2 hx
  refine ⟨b, off, rfl, fun i hi => ?_⟩
  have hlt : b < W.heap.size := by
    rcases Nat.lt_or_ge b W.heap.size with h' | h'
    · exact h'
    · have := hc i hi
      simp [World.cell?, Array.getElem?_eq_none h'] at this
  rw [hb.cell (p := ⟨b, off + i, none⟩) hlt]
  exact hc i hi
/-- Where it has something, it lies somewhere. -/
theorem Reads64.at {W : World} {v : Value} {xs : List Int} (h : Reads64 W v xs) {i : Nat} (hi : i < xs.length) : ∃ b off cap, v = .slice (some ⟨b, off, none⟩) xs.length cap ∧ W.cell? ⟨b, off + i, none⟩ = some (.int .i64 (xs.getD i 0)) := by
  obtain ⟨ao, cap, rfl, h2⟩ := h
  obtain ⟨b, off, rfl, hc⟩ := h2 (fun e => by rw [e] at hi; exact absurd hi (Nat.not_lt_zero i))
  exact ⟨b, off, cap, rfl, hc i hi⟩
theorem below_pair (w : World) (A B : Obj) : Below w.heap.size w ((w.alloc A).alloc B) := ((Below.refl _ w).alloc (Nat.le_refl _) A).alloc ((Below.refl _ w).alloc (Nat.le_refl _) A).size B
theorem ret_i64 {a b : Int} (h : a = b) : Ending.returned (.int .i64 a) = .returned (.int .i64 b) := by rw [h]
theorem ret_bool {a b : Bool} (h : a = b) : Ending.returned (.bool a) = .returned (.bool b) := by rw [h]
end Go.Proofs.Ytnlajfdgpdijjaa
