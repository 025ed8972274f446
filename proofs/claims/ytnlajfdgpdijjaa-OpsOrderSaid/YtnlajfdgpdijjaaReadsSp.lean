/- Slices of spans, and of marks, that read as lists. -/
import Derived.Test.YtnlajfdgpdijjaaReads64
import Derived.Test.YtnlajfdgpdijjaaSpansPlain
import Derived.Laws.OwnMore
namespace Go.Proofs.Ytnlajfdgpdijjaa
open Go.RowKit

/-- A slice of spans reads as xs. -/
def SpAt (W : World) (v : Value) (xs : List Sp) : Prop :=
  ∃ ao cap, v = .slice ao xs.length cap ∧ (xs ≠ [] → ∃ b off, ao = some ⟨b, off, none⟩ ∧ ∀ i, i < xs.length →
    W.cell? ⟨b, off + i * 2, none⟩ = some (.int .i64 (xs.getD i (0, 0)).1) ∧ W.cell? ⟨b, off + i * 2 + 1, none⟩ = some (.int .i64 (xs.getD i (0, 0)).2))
theorem SpAt.nil (W : World) : SpAt W (.slice none 0 0) [] := ⟨none, 0, rfl, fun h => absurd rfl h⟩
theorem SpAt.drew {W : World} {v : Value} {xs : List Sp} (h : SpAt W v xs) (n : Nat) : SpAt (W.drewN n) v xs := h
theorem SpAt.below {W W' : World} {v : Value} {xs : List Sp} (h : SpAt W v xs) (hb : Below W.heap.size W W') : SpAt W' v xs := by
  obtain ⟨ao, cap, rfl, h2⟩ := h
  refine ⟨ao, cap, rfl, fun hx => ?_⟩
  obtain ⟨b, off, rfl, hc⟩ := h2 hx
  exact ⟨b, off, rfl, fun i hi => ⟨cell_stays hb (hc i hi).1, cell_stays hb (hc i hi).2⟩⟩
theorem SpAt.at {W : World} {v : Value} {xs : List Sp} (h : SpAt W v xs) {i : Nat} (hi : i < xs.length) : ∃ b off cap, v = .slice (some ⟨b, off, none⟩) xs.length cap ∧
    W.cell? ⟨b, off + i * 2, none⟩ = some (.int .i64 (xs.getD i (0, 0)).1) ∧ W.cell? ⟨b, off + i * 2 + 1, none⟩ = some (.int .i64 (xs.getD i (0, 0)).2) := by
  obtain ⟨ao, cap, rfl, h2⟩ := h
  obtain ⟨b, off, rfl, hc⟩ := h2 (fun e => by rw [e] at hi; exact absurd hi (Nat.not_lt_zero i))
  exact ⟨b, off, cap, rfl, hc i hi⟩
/-- The cells of some spans. -/
def spCells : List Sp → List Value
  | [] => []
  | s :: r => .int .i64 s.1 :: .int .i64 s.2 :: spCells r
theorem spCells_append : ∀ a b, spCells (a ++ b) = spCells a ++ spCells b
  | [], _ => rfl
  | s :: r, b => by show _ :: _ :: spCells (r ++ b) = _; rw [spCells_append r b]; rfl
theorem spCells_length : ∀ xs, (spCells xs).length = xs.length * 2
  | [] => rfl
  | s :: r => by
    show (spCells r).length + 1 + 1 = (r.length + 1) * 2
    rw [spCells_length r]; omega
theorem spCells_at : ∀ (xs : List Sp) (i : Nat), i < xs.length → (spCells xs)[i * 2]? = some (.int .i64 (xs.getD i (0, 0)).1) ∧ (spCells xs)[i * 2 + 1]? = some (.int .i64 (xs.getD i (0, 0)).2)
  | [], i, h => absurd h (Nat.not_lt_zero i)
  | s :: r, 0, _ => ⟨rfl, rfl⟩
  | s :: r, i + 1, h => by
    have := spCells_at r i (by simpa using h)
    rw [show (i + 1) * 2 = i * 2 + 1 + 1 by omega]
    exact ⟨this.1, this.2⟩
theorem SpAt.of_own {W : World} {base : Nat} {v : Value} {xs : List Sp} (h : W.ownsRow base 69 2 v xs.length (spCells xs)) : SpAt W v xs := by
  rcases h.2 with ⟨hv, h0⟩ | ⟨g, cap, cur, hv, _⟩
  · exact ⟨none, 0, by rw [hv, h0], fun hx => absurd (List.eq_nil_of_length_eq_zero h0) hx⟩
  · subst hv
    refine ⟨_, cap, rfl, fun _ => ⟨g, 0, rfl, fun i hi => ?_⟩⟩
    obtain ⟨h1, h2⟩ := spCells_at xs i hi
    rw [Nat.zero_add]
    exact ⟨by rw [h.cellAt _ (by omega)]; exact h1, by rw [h.cellAt _ (by omega)]; exact h2⟩
/-- A slice of marks reads as the first n of f. -/
def BAt (W : World) (v : Value) (n : Nat) (f : Nat → Bool) : Prop :=
  ∃ ao cap, v = .slice ao n cap ∧ (0 < n → ∃ b off, ao = some ⟨b, off, none⟩ ∧ ∀ i, i < n → W.cell? ⟨b, off + i, none⟩ = some (.bool (f i)))
theorem BAt.drew {W : World} {v : Value} {n : Nat} {f : Nat → Bool} (h : BAt W v n f) (k : Nat) : BAt (W.drewN k) v n f := h
theorem BAt.below {W W' : World} {v : Value} {n : Nat} {f : Nat → Bool} (h : BAt W v n f) (hb : Below W.heap.size W W') : BAt W' v n f := by
  obtain ⟨ao, cap, rfl, h2⟩ := h
  refine ⟨ao, cap, rfl, fun hx => ?_⟩
  obtain ⟨b, off, rfl, hc⟩ := h2 hx
  exact ⟨b, off, rfl, fun i hi => cell_stays hb (hc i hi)⟩
theorem BAt.at {W : World} {v : Value} {n : Nat} {f : Nat → Bool} (h : BAt W v n f) {i : Nat} (hi : i < n) : ∃ b off cap, v = .slice (some ⟨b, off, none⟩) n cap ∧ W.cell? ⟨b, off + i, none⟩ = some (.bool (f i)) := by
  obtain ⟨ao, cap, rfl, h2⟩ := h
  obtain ⟨b, off, rfl, hc⟩ := h2 (by omega)
  exact ⟨b, off, cap, rfl, hc i hi⟩
theorem BAt.congr {W : World} {v : Value} {n : Nat} {f g : Nat → Bool} (h : BAt W v n f) (e : ∀ i, i < n → f i = g i) : BAt W v n g := by
  obtain ⟨ao, cap, rfl, h2⟩ := h
  refine ⟨ao, cap, rfl, fun hx => ?_⟩
  obtain ⟨b, off, rfl, hc⟩ := h2 hx
  exact ⟨b, off, rfl, fun i hi => by rw [hc i hi, e i hi]⟩
/-- The cells of some marks. -/
def bCells (f : Nat → Bool) (n : Nat) : List Value := (List.range n).map fun i => .bool (f i)
theorem bCells_length (f : Nat → Bool) (n : Nat) : (bCells f n).length = n := by simp [bCells]
theorem bCells_at (f : Nat → Bool) (n i : Nat) (hi : i < n) : (bCells f n)[i]? = some (.bool (f i)) := by simp [bCells, hi]
theorem bCells_congr {f g : Nat → Bool} {n : Nat} (e : ∀ i, i < n → f i = g i) : bCells f n = bCells g n :=
  List.map_congr_left fun i hi => by rw [e i (List.mem_range.1 hi)]
theorem bCells_set (f : Nat → Bool) (n j : Nat) (x : Bool) : (bCells f n).set j (.bool x) = bCells (fun i => if i = j then x else f i) n := by
  apply List.ext_getElem (by simp [bCells])
  intro i h1 h2
  rw [List.getElem_set]
  by_cases e : j = i
  · subst e; simp [bCells]
  · rw [if_neg e]
    simp [bCells, show ¬ i = j from fun q => e q.symm]
theorem bCells_none (n : Nat) : bCells (fun _ => false) n = List.replicate n (.bool false) := by
  unfold bCells
  rw [List.map_const', List.length_range]
theorem BAt.of_own {W : World} {base n : Nat} {v : Value} {f : Nat → Bool} (h : W.ownsRow base 4 1 v n (bCells f n)) : BAt W v n f := by
  rcases h.2 with ⟨hv, h0⟩ | ⟨g, cap, cur, hv, _⟩
  · exact ⟨none, 0, by rw [hv, h0], fun hx => by omega⟩
  · subst hv
    refine ⟨_, cap, rfl, fun _ => ⟨g, 0, rfl, fun i hi => ?_⟩⟩
    rw [Nat.zero_add, h.cellAt i (by omega)]
    exact bCells_at f n i hi
end Go.Proofs.Ytnlajfdgpdijjaa
