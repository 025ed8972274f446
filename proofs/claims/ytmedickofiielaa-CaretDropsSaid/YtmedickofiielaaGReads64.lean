/- Texts of this proof, joined. -/
import Derived.Test.YtmedickofiielaaRows
import Derived.WalkKit
import Derived.WalkSpells
import Derived.Lib.Hide
import Derived.Deep.QuietTactic
import Derived.BigQuiet
import Derived.WalkSmall
import Derived.Test.YtmedickofiielaaGSpansPlain
import Derived.Laws.OwnMore
import Derived.Laws.CopyOwn
import Derived.OwnWalk
import Derived.Laws.AppendOwnNone
import Derived.Laws.CopyRow
import Derived.Laws.IdiomCopy
import Derived.Test.YtmedickofiielaaGPlain
namespace Go.Proofs.Ytmedickofiielaa
open Go.RowKit

theorem below_draws {N : Nat} {w X : World} (h : Below N w X) (n : Nat) : Below N w (X.drewN n) := ⟨h.os, h.tape, h.output, h.size, h.block⟩
theorem cell_stays {W W' : World} {p : Addr} {v : Value} (hb : Below W.heap.size W W') (h : W.cell? p = some v) : W'.cell? p = some v := by
 rcases Nat.lt_or_ge p.block W.heap.size with g | g
 ·rw [hb.cell g]
  exact h
 ·simp [World.cell?, Array.getElem?_eq_none g] at h
def Reads64 (W : World) (v : Value) (xs : List Int) : Prop :=
 ∃ ao cap, v = .slice ao xs.length cap ∧ (xs ≠ [] → ∃ b off, ao = some ⟨b, off, none⟩ ∧ ∀ i, i < xs.length → W.cell? ⟨b, off + i, none⟩ = some (.int .i64 (xs.getD i 0)))
theorem Reads64.of_own {W : World} {base : Nat} {v : Value} {xs : List Int} (h : W.ownsRow base 3 1 v xs.length (xs.map (Value.int .i64))) : Reads64 W v xs := by
 rcases h.2 with ⟨hv, h0⟩ | ⟨g, cap, cur, hv, _⟩
 ·exact ⟨none, 0, by rw [hv, h0], fun hx => absurd (List.eq_nil_of_length_eq_zero h0) hx⟩
 ·subst hv
  refine ⟨_, cap, rfl, fun _ => ⟨g, 0, rfl, fun i hi => ?_⟩⟩
  rw [Nat.zero_add, h.cellAt i (by omega)]
  simp [hi]
theorem Reads64.nil (W : World) : Reads64 W (.slice none 0 0) [] := ⟨none, 0, rfl, fun h => absurd rfl h⟩
theorem Reads64.drew {W : World} {v : Value} {xs : List Int} (h : Reads64 W v xs) (n : Nat) : Reads64 (W.drewN n) v xs := h
theorem Reads64.below {W W' : World} {v : Value} {xs : List Int} (h : Reads64 W v xs) (hb : Below W.heap.size W W') : Reads64 W' v xs := by
 obtain ⟨ao, cap, rfl, h2⟩ := h
 refine ⟨ao, cap, rfl, fun hx => ?_⟩
 obtain ⟨b, off, rfl, hc⟩ := h2 hx
 refine ⟨b, off, rfl, fun i hi => ?_⟩
 have hlt : b < W.heap.size := by
  rcases Nat.lt_or_ge b W.heap.size with h' | h'
  ·exact h'
  ·have := hc i hi
   simp [World.cell?, Array.getElem?_eq_none h'] at this
 rw [hb.cell (p := ⟨b, off + i, none⟩) hlt]
 exact hc i hi
theorem Reads64.at {W : World} {v : Value} {xs : List Int} (h : Reads64 W v xs) {i : Nat} (hi : i < xs.length) : ∃ b off cap, v = .slice (some ⟨b, off, none⟩) xs.length cap ∧ W.cell? ⟨b, off + i, none⟩ = some (.int .i64 (xs.getD i 0)) := by
 obtain ⟨ao, cap, rfl, h2⟩ := h
 obtain ⟨b, off, rfl, hc⟩ := h2 (fun e => by rw [e] at hi; exact absurd hi (Nat.not_lt_zero i))
 exact ⟨b, off, cap, rfl, hc i hi⟩
theorem ret_i64 {a b : Int} (h : a = b) : Ending.returned (.int .i64 a) = .returned (.int .i64 b) := by rw [h]
theorem ret_bool {a b : Bool} (h : a = b) : Ending.returned (.bool a) = .returned (.bool b) := by rw [h]
end Go.Proofs.Ytmedickofiielaa

namespace Go.Proofs.Ytmedickofiielaa
open Go.RowKit

def Reads32 (W : World) (v : Value) (xs : List Int) : Prop :=
 ∃ ao cap, v = .slice ao xs.length cap ∧ (xs ≠ [] → ∃ b off, ao = some ⟨b, off, none⟩ ∧ ∀ i, i < xs.length → W.cell? ⟨b, off + i, none⟩ = some (.int .i32 (xs.getD i 0)))

theorem Reads32.of_own {W : World} {base : Nat} {v : Value} {xs : List Int} (h : W.ownsRow base 21 1 v xs.length (xs.map (Value.int .i32))) : Reads32 W v xs := by
 rcases h.2 with ⟨hv, h0⟩ | ⟨g, cap, cur, hv, _⟩
 ·exact ⟨none, 0, by rw [hv, h0], fun hx => absurd (List.eq_nil_of_length_eq_zero h0) hx⟩
 ·subst hv
  refine ⟨_, cap, rfl, fun _ => ⟨g, 0, rfl, fun i hi => ?_⟩⟩
  rw [Nat.zero_add, h.cellAt i (by omega)]
  simp [hi]
theorem Reads32.drew {W : World} {v : Value} {xs : List Int} (h : Reads32 W v xs) (n : Nat) : Reads32 (W.drewN n) v xs := h
theorem Reads32.below {W W' : World} {v : Value} {xs : List Int} (h : Reads32 W v xs) (hb : Below W.heap.size W W') : Reads32 W' v xs := by
 obtain ⟨ao, cap, rfl, h2⟩ := h
 refine ⟨ao, cap, rfl, fun hx => ?_⟩
 obtain ⟨b, off, rfl, hc⟩ := h2 hx
 refine ⟨b, off, rfl, fun i hi => ?_⟩
 have hlt : b < W.heap.size := by
  rcases Nat.lt_or_ge b W.heap.size with h' | h'
  ·exact h'
  ·have := hc i hi
   simp [World.cell?, Array.getElem?_eq_none h'] at this
 rw [hb.cell (p := ⟨b, off + i, none⟩) hlt]
 exact hc i hi

end Go.Proofs.Ytmedickofiielaa

namespace Go.Proofs.Ytmedickofiielaa
open Go.RowKit

def nmV (s q : Int) : Value := .agg #[.int .i64 s, .int .i64 q]
end Go.Proofs.Ytmedickofiielaa

namespace Go.Proofs.Ytmedickofiielaa
open Go.RowKit

set_option maxRecDepth 100000 in
set_option maxHeartbeats 2000000 in
theorem pMayName_any (s q : Int) (w : World) :
  Calls Try.prog 33 #[nmV s q] w fun e w' => e = .returned (.bool (nMay s q)) ∧ Below w.heap.size w w' := by
 unfold nmV
 have hB := (Below.refl w.heap.size w).alloc (Nat.le_refl _) (.cells #[.int .i64 s, .int .i64 q] 39)
 have fin : ∀ b, nMay s q = b → (Ending.returned (.bool b) = .returned (.bool (nMay s q)) ∧ Below w.heap.size w (w.alloc (.cells #[.int .i64 s, .int .i64 q] 39))) := fun b h => ⟨by rw [h], hB⟩
 have HF := Lib.hid fin
 clear fin
 by_cases p1 : 1 ≤ s
 by_cases p2 : s ≤ 16
 by_cases p3 : 1 ≤ q
 by_cases p4 : q ≤ 1099511627776
 all_goals
  go_enter Try.func33, Try.ntmps33
  go_wp2
  go_ret
 ·exact HF.out true (decide_eq_true ⟨p1, p2, p3, p4⟩)
 ·exact HF.out false (decide_eq_false (by omega))
 ·exact HF.out false (decide_eq_false (by omega))
 ·exact HF.out false (decide_eq_false (by omega))
 ·exact HF.out false (decide_eq_false (by omega))
end Go.Proofs.Ytmedickofiielaa

namespace Go.Proofs.Ytmedickofiielaa
open Go.RowKit

def SpAt (W : World) (v : Value) (xs : List Sp) : Prop :=
 ∃ ao cap, v = .slice ao xs.length cap ∧ (xs ≠ [] → ∃ b off, ao = some ⟨b, off, none⟩ ∧ ∀ i, i < xs.length →
  W.cell? ⟨b, off + i * 2, none⟩ = some (.int .i64 (xs.getD i (0, 0)).1) ∧ W.cell? ⟨b, off + i * 2 + 1, none⟩ = some (.int .i64 (xs.getD i (0, 0)).2))
theorem SpAt.nil (W : World) : SpAt W (.slice none 0 0) [] := ⟨none, 0, rfl, fun h => absurd rfl h⟩
theorem SpAt.drew {W : World} {v : Value} {xs : List Sp} (h : SpAt W v xs) (n : Nat) : SpAt (W.drewN n) v xs := h
theorem SpAt.below {W W' : World} {v : Value} {xs : List Sp} (h : SpAt W v xs) (hb : Below W.heap.size W W') : SpAt W' v xs := by
 obtain ⟨ao, cap, rfl, h2⟩ := h
 refine ⟨ao, cap, rfl, fun hx => ?_⟩
 obtain ⟨b, off, rfl, hc⟩ := h2 hx
 exact ⟨b, off, rfl, fun i hi => ⟨cell_stays hb (hc i hi).1, cell_stays hb (hc i hi).2⟩⟩
theorem SpAt.at {W : World} {v : Value} {xs : List Sp} (h : SpAt W v xs) {i : Nat} (hi : i < xs.length) : ∃ b off cap, v = .slice (some ⟨b, off, none⟩) xs.length cap ∧
  W.cell? ⟨b, off + i * 2, none⟩ = some (.int .i64 (xs.getD i (0, 0)).1) ∧ W.cell? ⟨b, off + i * 2 + 1, none⟩ = some (.int .i64 (xs.getD i (0, 0)).2) := by
 obtain ⟨ao, cap, rfl, h2⟩ := h
 obtain ⟨b, off, rfl, hc⟩ := h2 (fun e => by rw [e] at hi; exact absurd hi (Nat.not_lt_zero i))
 exact ⟨b, off, cap, rfl, hc i hi⟩
def spCells : List Sp → List Value
 | [] => []
 | s :: r => .int .i64 s.1 :: .int .i64 s.2 :: spCells r
theorem spCells_length : ∀ xs, (spCells xs).length = xs.length * 2
 | [] => rfl
 | s :: r => by
  show (spCells r).length + 1 + 1 = (r.length + 1) * 2
  rw [spCells_length r]; omega
theorem spCells_at : ∀ (xs : List Sp) (i : Nat), i < xs.length → (spCells xs)[i * 2]? = some (.int .i64 (xs.getD i (0, 0)).1) ∧ (spCells xs)[i * 2 + 1]? = some (.int .i64 (xs.getD i (0, 0)).2)
 | [], i, h => absurd h (Nat.not_lt_zero i)
 | s :: r, 0, _ => ⟨rfl, rfl⟩
 | s :: r, i + 1, h => by
  have := spCells_at r i (by simpa using h)
  rw [show (i + 1) * 2 = i * 2 + 1 + 1 by omega]
  exact ⟨this.1, this.2⟩
theorem SpAt.of_own {W : World} {base : Nat} {v : Value} {xs : List Sp} (h : W.ownsRow base 76 2 v xs.length (spCells xs)) : SpAt W v xs := by
 rcases h.2 with ⟨hv, h0⟩ | ⟨g, cap, cur, hv, _⟩
 ·exact ⟨none, 0, by rw [hv, h0], fun hx => absurd (List.eq_nil_of_length_eq_zero h0) hx⟩
 ·subst hv
  refine ⟨_, cap, rfl, fun _ => ⟨g, 0, rfl, fun i hi => ?_⟩⟩
  obtain ⟨h1, h2⟩ := spCells_at xs i hi
  rw [Nat.zero_add]
  exact ⟨by rw [h.cellAt _ (by omega)]; exact h1, by rw [h.cellAt _ (by omega)]; exact h2⟩
def BAt (W : World) (v : Value) (n : Nat) (f : Nat → Bool) : Prop :=
 ∃ ao cap, v = .slice ao n cap ∧ (0 < n → ∃ b off, ao = some ⟨b, off, none⟩ ∧ ∀ i, i < n → W.cell? ⟨b, off + i, none⟩ = some (.bool (f i)))
theorem BAt.drew {W : World} {v : Value} {n : Nat} {f : Nat → Bool} (h : BAt W v n f) (k : Nat) : BAt (W.drewN k) v n f := h
theorem BAt.below {W W' : World} {v : Value} {n : Nat} {f : Nat → Bool} (h : BAt W v n f) (hb : Below W.heap.size W W') : BAt W' v n f := by
 obtain ⟨ao, cap, rfl, h2⟩ := h
 refine ⟨ao, cap, rfl, fun hx => ?_⟩
 obtain ⟨b, off, rfl, hc⟩ := h2 hx
 exact ⟨b, off, rfl, fun i hi => cell_stays hb (hc i hi)⟩
theorem BAt.at {W : World} {v : Value} {n : Nat} {f : Nat → Bool} (h : BAt W v n f) {i : Nat} (hi : i < n) : ∃ b off cap, v = .slice (some ⟨b, off, none⟩) n cap ∧ W.cell? ⟨b, off + i, none⟩ = some (.bool (f i)) := by
 obtain ⟨ao, cap, rfl, h2⟩ := h
 obtain ⟨b, off, rfl, hc⟩ := h2 (by omega)
 exact ⟨b, off, cap, rfl, hc i hi⟩
theorem BAt.congr {W : World} {v : Value} {n : Nat} {f g : Nat → Bool} (h : BAt W v n f) (e : ∀ i, i < n → f i = g i) : BAt W v n g := by
 obtain ⟨ao, cap, rfl, h2⟩ := h
 refine ⟨ao, cap, rfl, fun hx => ?_⟩
 obtain ⟨b, off, rfl, hc⟩ := h2 hx
 exact ⟨b, off, rfl, fun i hi => by rw [hc i hi, e i hi]⟩
def bCells (f : Nat → Bool) (n : Nat) : List Value := (List.range n).map fun i => .bool (f i)
theorem bCells_at (f : Nat → Bool) (n i : Nat) (hi : i < n) : (bCells f n)[i]? = some (.bool (f i)) := by simp [bCells, hi]
theorem bCells_set (f : Nat → Bool) (n j : Nat) (x : Bool) : (bCells f n).set j (.bool x) = bCells (fun i => if i = j then x else f i) n := by
 apply List.ext_getElem (by simp [bCells])
 intro i h1 h2
 rw [List.getElem_set]
 by_cases e : j = i
 ·subst e; simp [bCells]
 ·rw [if_neg e]
  simp [bCells, show ¬ i = j from fun q => e q.symm]
theorem bCells_none (n : Nat) : bCells (fun _ => false) n = List.replicate n (.bool false) := by
 unfold bCells
 rw [List.map_const', List.length_range]
theorem BAt.of_own {W : World} {base n : Nat} {v : Value} {f : Nat → Bool} (h : W.ownsRow base 4 1 v n (bCells f n)) : BAt W v n f := by
 rcases h.2 with ⟨hv, h0⟩ | ⟨g, cap, cur, hv, _⟩
 ·exact ⟨none, 0, by rw [hv, h0], fun hx => by omega⟩
 ·subst hv
  refine ⟨_, cap, rfl, fun _ => ⟨g, 0, rfl, fun i hi => ?_⟩⟩
  rw [Nat.zero_add, h.cellAt i (by omega)]
  exact bCells_at f n i hi
end Go.Proofs.Ytmedickofiielaa

namespace Go.Proofs.Ytmedickofiielaa
open Go.RowKit

structure Keep (S : Nat → Prop) (N : Nat) (w w' : World) : Prop where
 os : w'.os = w.os
 tape : w'.tape = w.tape
 output : w'.output = w.output
 size : w.heap.size ≤ w'.heap.size
 block : ∀ k, k < N → ¬ S k → w'.heap[k]? = w.heap[k]?

theorem Keep.refl (S : Nat → Prop) (N : Nat) (w : World) : Keep S N w w := ⟨rfl, rfl, rfl, Nat.le_refl _, fun _ _ _ => rfl⟩
theorem Keep.trans {S : Nat → Prop} {N : Nat} {a b c : World} (h : Keep S N a b) (k : Keep S N b c) : Keep S N a c :=
 ⟨k.os.trans h.os, k.tape.trans h.tape, k.output.trans h.output, Nat.le_trans h.size k.size, fun i hi hs => (k.block i hi hs).trans (h.block i hi hs)⟩
theorem Keep.weak {S S' : Nat → Prop} {N N' : Nat} {a b : World} (h : Keep S N a b) (hN : N' ≤ N) (hS : ∀ k, k < N' → S k → S' k) : Keep S' N' a b :=
 ⟨h.os, h.tape, h.output, h.size, fun i hi hs => h.block i (Nat.lt_of_lt_of_le hi hN) fun hh => hs (hS i hi hh)⟩
theorem Keep.of_below {S : Nat → Prop} {N M : Nat} {a b : World} (h : Below M a b) (hN : N ≤ M) : Keep S N a b := ⟨h.os, h.tape, h.output, h.size, fun k hk _ => h.block k (Nat.lt_of_lt_of_le hk hN)⟩
theorem Keep.below {S : Nat → Prop} {N M : Nat} {a b : World} (h : Keep S N a b) (hN : M ≤ N) (hS : ∀ k, S k → M ≤ k) : Below M a b :=
 ⟨h.os, h.tape, h.output, h.size, fun k hk => h.block k (Nat.lt_of_lt_of_le hk hN) fun hs => by have := hS k hs; omega⟩
theorem Keep.drewN {S : Nat → Prop} {N : Nat} {a b : World} (h : Keep S N a b) (n : Nat) : Keep S N a (b.drewN n) := ⟨h.os, h.tape, h.output, h.size, h.block⟩
theorem Keep.setCell {S : Nat → Prop} {N : Nat} {a b : World} (h : Keep S N a b) {p : Addr} (hp : S p.block ∨ N ≤ p.block) (u : Value) : Keep S N a (b.setCell p u) :=
 h.trans ⟨rfl, rfl, rfl, by simp [World.setCell], fun k hk hs => Below.heap_setCell _ _ _ _ (fun e => by subst e; exact hp.elim (fun q => hs q) (fun q => absurd hk (Nat.not_lt.2 q)))⟩
theorem Keep.alloc {S : Nat → Prop} {N : Nat} {a b : World} (h : Keep S N a b) (hN : N ≤ b.heap.size) (o : Obj) : Keep S N a (b.alloc o) :=
 h.trans ⟨rfl, rfl, rfl, by simp, fun k hk _ => Below.heap_alloc _ _ _ (by omega)⟩
theorem Keep.grown {S : Nat → Prop} {N : Nat} {a b c : World} {r : Option Nat} (h : Keep S N a b) (hg : b.grownBy c r) (hN : N ≤ b.heap.size) (hr : ∀ g, r = some g → S g ∨ N ≤ g) : Keep S N a c :=
 h.trans ⟨hg.os, hg.tape, hg.output, hg.size, fun k hk hs => hg.block k (by omega) fun e => (hr k e.symm).elim (fun q => hs q) (fun q => absurd hk (Nat.not_lt.2 q))⟩

theorem Keep.cell {S : Nat → Prop} {N : Nat} {w w' : World} (h : Keep S N w w') {p : Addr} (h1 : p.block < N) (h2 : ¬ S p.block) : w'.cell? p = w.cell? p := World.cell?_of_block (h.block p.block h1 h2)
theorem ck {B : Nat} {w w' : World} {p : Addr} {v : Value} (hk : Keep (fun k => k = B) w.heap.size w w') (hne : p.block ≠ B) (h : w.cell? p = some v) : w'.cell? p = some v := by
 rcases Nat.lt_or_ge p.block w.heap.size with g | g
 ·rw [hk.cell g hne]
  exact h
 ·simp [World.cell?, Array.getElem?_eq_none g] at h
def Mine (S : Nat → Prop) (N : Nat) (v : Value) : Prop := ∀ g, v.ownBlock = some g → S g ∨ N ≤ g
theorem Mine.nil (S : Nat → Prop) (N : Nat) : Mine S N (.slice none 0 0) := fun g h => by cases h

abbrev Ints (w : World) (e : TypeId) (k : IntKind) (v : Value) (xs : List Int) : Prop := w.ownsRow 0 e 1 v xs.length (xs.map (Value.int k))

theorem Ints.typed {w : World} {e : TypeId} {k : IntKind} {v : Value} {xs : List Int} (h : Ints w e k v xs) (g : Nat) (hg : v.ownBlock = some g) : ∃ cur, w.heap[g]? = some (.cells cur e (0, 0)) := by
 rcases h.2 with ⟨h2, _⟩ | ⟨g', cap, cur, hv, _, hh, _⟩
 ·rw [h2] at hg; cases hg
 ·rw [hv] at hg; cases hg; exact ⟨cur, hh⟩
theorem Ints.nil (w : World) (e : TypeId) (k : IntKind) : Ints w e k (.slice none 0 0) [] := World.ownsRow_nil w 0 e 1
theorem Ints.shape {w : World} {e : TypeId} {k : IntKind} {v : Value} {xs : List Int} (h : Ints w e k v xs) : ∃ ao cap, v = .slice ao xs.length cap ∧ xs.length ≤ cap ∧ cap ≤ maxLen ∧ (xs ≠ [] → ∃ g, ao = some ⟨g, 0, none⟩) := by
 rcases h.2 with ⟨h2, h0⟩ | ⟨g, cap, cur, hv, _, _, hc, hm, _⟩
 ·exact ⟨none, 0, by rw [h2, h0], by omega, Nat.zero_le _, fun hx => absurd (List.eq_nil_of_length_eq_zero h0) hx⟩
 ·exact ⟨_, cap, hv, hc, hm, fun _ => ⟨g, rfl⟩⟩
theorem Ints.cell {w : World} {e : TypeId} {k : IntKind} {g n cap : Nat} {xs : List Int} (h : Ints w e k (.slice (some ⟨g, 0, none⟩) n cap) xs) (j : Nat) (hj : j < xs.length) : w.cell? ⟨g, j, none⟩ = some (.int k (xs.getD j 0)) := by
 obtain ⟨ao, cap', hv, _⟩ := h.shape
 cases hv
 rw [World.ownsRow.cellAt h j (by omega)]
 simp [hj]

theorem box_cell {w : World} {B : Nat} {cs : Array Value} {t : TypeId} (hB : w.heap[B]? = some (.cells cs t (0, 0))) (o : Nat) : w.cell? ⟨B, o, none⟩ = cs[o]? := cell_of_row w B o cs t (0, 0) hB
theorem box_frozen {w : World} {B : Nat} {cs : Array Value} {t : TypeId} (hB : w.heap[B]? = some (.cells cs t (0, 0))) (o : Nat) : w.frozen? ⟨B, o, none⟩ = false := frozen_of_row w B o cs t hB
theorem box_set {w : World} {B : Nat} {cs : Array Value} {t : TypeId} (hB : w.heap[B]? = some (.cells cs t (0, 0))) (o : Nat) (v : Value) : (w.setCell ⟨B, o, none⟩ v).heap[B]? = some (.cells (cs.setIfInBounds o v) t (0, 0)) := heap_setCell_same w B o cs t v hB
theorem box_other {w : World} {B k : Nat} (h : k ≠ B) (o : Nat) (v : Value) : (w.setCell ⟨B, o, none⟩ v).heap[k]? = w.heap[k]? := heap_setCell_other w ⟨B, o, none⟩ k v h
theorem box_lt {w : World} {B : Nat} {o : Obj} (hB : w.heap[B]? = some o) : B < w.heap.size := (Array.getElem?_eq_some_iff.1 hB).1

end Go.Proofs.Ytmedickofiielaa

namespace Go.Proofs.Ytmedickofiielaa
open Go.RowKit

def boxAt (B : Nat) (o : Obj) (bx : Nat → Option Obj) : Nat → Option Obj := fun b => if b = B then some o else bx b
theorem boxAt_same (B : Nat) (o : Obj) (bx : Nat → Option Obj) : boxAt B o bx B = some o := if_pos rfl
theorem boxAt_other {B b : Nat} (h : b ≠ B) (o : Obj) (bx : Nat → Option Obj) : boxAt B o bx b = bx b := if_neg h
def noBox : Nat → Option Obj := fun _ => none
structure RBox (w : World) (bx : Nat → Option Obj) (W : World) : Prop where
 up : Below w.heap.size w W
 box : ∀ b o, bx b = some o → W.heap[b]? = some o ∧ w.heap.size ≤ b
theorem RBox.start (w : World) : RBox w noBox w := ⟨Below.refl _ _, fun _ _ h => by cases h⟩
theorem RBox.lt {w W : World} {bx : Nat → Option Obj} (h : RBox w bx W) {b : Nat} {o : Obj} (hb : bx b = some o) : b < W.heap.size := (Array.getElem?_eq_some_iff.1 (h.box b o hb).1).1
theorem RBox.below {w W W' : World} {bx : Nat → Option Obj} (h : RBox w bx W) (hb : Below W.heap.size W W') : RBox w bx W' :=
 ⟨h.up.trans (hb.mono h.up.size), fun b o ho => ⟨(hb.block b (h.lt ho)).trans (h.box b o ho).1, (h.box b o ho).2⟩⟩
theorem RBox.new {w W : World} {bx : Nat → Option Obj} (h : RBox w bx W) (cs : Array Value) (t : TypeId) : RBox w (boxAt W.heap.size (.cells cs t (0, 0)) bx) (W.alloc (.cells cs t)) := by
 have h1 := h.below ((Below.refl _ W).alloc (Nat.le_refl _) (.cells cs t))
 refine ⟨h1.up, fun b o ho => ?_⟩
 unfold boxAt at ho
 by_cases e : b = W.heap.size
 ·rw [if_pos e] at ho
  cases ho
  subst e
  exact ⟨heap_alloc_new W _, h.up.size⟩
 ·rw [if_neg e] at ho
  exact h1.box b o ho
theorem RBox.set {w W : World} {bx : Nat → Option Obj} (h : RBox w bx W) {B : Nat} {cs : Array Value} {t : TypeId} (hB : bx B = some (.cells cs t (0, 0))) (i : Nat) (v : Value) :
  RBox w (boxAt B (.cells (cs.setIfInBounds i v) t (0, 0)) bx) (W.setCell ⟨B, i, none⟩ v) := by
 obtain ⟨g1, g3⟩ := h.box B _ hB
 refine ⟨h.up.setCell (p := ⟨B, i, none⟩) g3 v, fun b o ho => ?_⟩
 unfold boxAt at ho
 by_cases e : b = B
 ·rw [if_pos e] at ho
  cases ho
  subst e
  exact ⟨box_set g1 i v, g3⟩
 ·rw [if_neg e] at ho
  exact ⟨(box_other e i v).trans (h.box b o ho).1, (h.box b o ho).2⟩
theorem RBox.less {w W : World} {bx by' : Nat → Option Obj} (h : RBox w bx W) (hb : ∀ b o, by' b = some o → bx b = some o) : RBox w by' W := ⟨h.up, fun b o ho => h.box b o (hb b o ho)⟩
theorem RBox.at {w W : World} {bx : Nat → Option Obj} (h : RBox w bx W) {B : Nat} {cs : Array Value} {t : TypeId} (hB : bx B = some (.cells cs t (0, 0))) (i : Nat) : W.cell? ⟨B, i, none⟩ = cs[i]? ∧ W.frozen? ⟨B, i, none⟩ = false := ⟨box_cell (h.box B _ hB).1 i, box_frozen (h.box B _ hB).1 i⟩
end Go.Proofs.Ytmedickofiielaa

namespace Go.Proofs.Ytmedickofiielaa
open Go.RowKit

end Go.Proofs.Ytmedickofiielaa

namespace Go.Proofs.Ytmedickofiielaa
open Go.RowKit

def RowR (sz : Nat) (W : World) (v : Value) (n : Nat) (cs : List Value) : Prop :=
 cs.length = n * sz ∧ ∃ ao cap, v = .slice ao n cap ∧ (0 < n → ∃ b off, ao = some ⟨b, off, none⟩ ∧ ∀ j u, cs[j]? = some u → W.cell? ⟨b, off + j, none⟩ = some u)
theorem RowR.nil (sz : Nat) (W : World) : RowR sz W (.slice none 0 0) 0 [] := ⟨by simp, none, 0, rfl, fun h => absurd h (Nat.lt_irrefl 0)⟩
theorem RowR.below {sz : Nat} {W W' : World} {v : Value} {n : Nat} {cs : List Value} (h : RowR sz W v n cs) (hb : Below W.heap.size W W') : RowR sz W' v n cs := by
 obtain ⟨hl, ao, cap, rfl, h2⟩ := h
 refine ⟨hl, ao, cap, rfl, fun h0 => ?_⟩
 obtain ⟨b, off, e, hc⟩ := h2 h0
 exact ⟨b, off, e, fun j u hj => cell_stays hb (hc j u hj)⟩
theorem RowR.of_own {sz : Nat} {W : World} {base : Nat} {e : TypeId} {v : Value} {n : Nat} {cs : List Value} (h : W.ownsRow base e sz v n cs) : RowR sz W v n cs := by
 refine ⟨h.1, ?_⟩
 rcases h.2 with ⟨hv, h0⟩ | ⟨g, cap, cur, hv, _⟩
 ·exact ⟨none, 0, by rw [hv, h0], fun h1 => by omega⟩
 ·subst hv
  refine ⟨_, cap, rfl, fun _ => ⟨g, 0, rfl, fun j u hj => ?_⟩⟩
  have hjl := (List.getElem?_eq_some_iff.1 hj).1
  rw [Nat.zero_add, h.cellAt j (by rw [← h.1]; exact hjl)]
  exact hj
theorem run_app_none {P : Program} {w : World} (base : Nat) (t ty e : TypeId) (i : TypeInfo) (size : Nat) (ht : P.underlying t = some (.slice e)) (hi : P.info? e = some i)
  (v : Value) (n : Nat) (xs : List Value) (hown : w.ownsRow base e size v n xs) (c : Nat) : (Builtin.append_ #[t, t] ty #[v, .slice none 0 c]).run P w = .ok v w := by
 rcases hown.2 with ⟨rfl, rfl⟩ | ⟨g, cap, cur, rfl, _, _, hnc, _⟩
 ·simp [Builtin.append_, run_underlying ht, sizeOf, typeInfo, hi, Builtin.lenOf, Builtin.firstCells]
 ·simp [Builtin.append_, run_underlying ht, sizeOf, typeInfo, hi, Builtin.lenOf, Builtin.firstCells, hnc, storeCells]
theorem own_up {W W' : World} {M : Nat} {t : TypeId} {size : Nat} {v : Value} {k : Nat} {xs : List Value} (h : W.ownsRow M t size v k xs) (hb : Below W.heap.size W W') : W'.ownsRow M t size v k xs := by
 refine ⟨h.1, ?_⟩
 rcases h.2 with q | ⟨g, cap, cur, q1, q2, q3, q4⟩
 ·exact .inl q
 ·exact .inr ⟨g, cap, cur, q1, q2, (hb.block g (Array.getElem?_eq_some_iff.1 q3).1).trans q3, q4⟩
theorem own_lower {W : World} {M N : Nat} {t : TypeId} {size : Nat} {v : Value} {k : Nat} {xs : List Value} (h : W.ownsRow M t size v k xs) (hN : N ≤ M) : W.ownsRow N t size v k xs := by
 refine ⟨h.1, ?_⟩
 rcases h.2 with q | ⟨g, cap, cur, q1, q2, q3⟩
 ·exact .inl q
 ·exact .inr ⟨g, cap, cur, q1, by omega, q3⟩
end Go.Proofs.Ytmedickofiielaa

namespace Go.Proofs.Ytmedickofiielaa
open Go Go.RowKit

end Go.Proofs.Ytmedickofiielaa

namespace Go.Proofs.Ytmedickofiielaa
open Go.RowKit

def RowC (sz : Nat) (W : World) (v : Value) (n : Nat) (cs : List Value) : Prop :=
 cs.length = n * sz ∧ ∃ ao cap, v = .slice ao n cap ∧ n ≤ cap ∧ cap ≤ maxLen ∧ (ao = none → cap = 0) ∧ ∀ ad, ao = some ad → ∃ b off, ad = ⟨b, off, none⟩ ∧ b < W.heap.size ∧ ∀ j u, cs[j]? = some u → W.cell? ⟨b, off + j, none⟩ = some u
theorem RowC.nil (sz : Nat) (W : World) : RowC sz W (.slice none 0 0) 0 [] := ⟨by simp, none, 0, rfl, Nat.le_refl _, Nat.zero_le _, fun _ => rfl, fun _ h => by cases h⟩
theorem RowC.below {sz : Nat} {W W' : World} {v : Value} {n : Nat} {cs : List Value} (h : RowC sz W v n cs) (hb : Below W.heap.size W W') : RowC sz W' v n cs := by
 obtain ⟨hl, ao, cap, rfl, h1, h2, h3, h4⟩ := h
 refine ⟨hl, ao, cap, rfl, h1, h2, h3, fun ad ha => ?_⟩
 obtain ⟨b, off, e, hlt, hc⟩ := h4 ad ha
 exact ⟨b, off, e, Nat.lt_of_lt_of_le hlt hb.size, fun j u hj => cell_stays hb (hc j u hj)⟩
theorem RowC.reads {sz : Nat} {W : World} {v : Value} {n : Nat} {cs : List Value} (h : RowC sz W v n cs) : RowR sz W v n cs := by
 obtain ⟨hl, ao, cap, rfl, h1, h2, h3, h4⟩ := h
 refine ⟨hl, ao, cap, rfl, fun hn => ?_⟩
 cases ao with
 | none => have := h3 rfl; omega
 | some ad =>
  obtain ⟨b, off, rfl, _, hc⟩ := h4 _ rfl
  exact ⟨b, off, rfl, hc⟩
theorem RowC.of_own {sz : Nat} {W : World} {base : Nat} {e : TypeId} {v : Value} {n : Nat} {cs : List Value} (h : W.ownsRow base e sz v n cs) : RowC sz W v n cs := by
 refine ⟨h.1, ?_⟩
 rcases h.2 with ⟨hv, h0⟩ | ⟨g, cap, cur, hv, _, hg, h1, h2, _⟩
 ·exact ⟨none, 0, by rw [hv, h0], by omega, Nat.zero_le _, fun _ => rfl, fun _ q => by cases q⟩
 ·subst hv
  refine ⟨_, cap, rfl, h1, h2, (fun q => by cases q), fun ad q => ?_⟩
  cases q
  refine ⟨g, 0, rfl, (Array.getElem?_eq_some_iff.1 hg).1, fun j u hj => ?_⟩
  have hjl := (List.getElem?_eq_some_iff.1 hj).1
  rw [Nat.zero_add, h.cellAt j (by rw [← h.1]; exact hjl)]
  exact hj
def cV (c : PCell) : List Value := [.int .i64 c.site, .int .i64 c.seq, .int .i64 c.off, .int .i32 c.r, .bool c.gone]
def cCells : List PCell → List Value
 | [] => []
 | c :: r => cV c ++ cCells r
theorem cCells_append : ∀ a b, cCells (a ++ b) = cCells a ++ cCells b
 | [], _ => rfl
 | c :: r, b => by show cV c ++ cCells (r ++ b) = _; rw [cCells_append r b, ← List.append_assoc]; rfl
theorem cCells_length : ∀ l, (cCells l).length = l.length * 5
 | [] => rfl
 | c :: r => by
  show (cV c ++ cCells r).length = (r.length + 1) * 5
  rw [List.length_append, cCells_length r, show (cV c).length = 5 from rfl]
  omega
theorem cCells_one (c : PCell) : cCells [c] = cV c := by show cV c ++ [] = _; rw [List.append_nil]
theorem cCells_at : ∀ (l : List PCell) (i j : Nat) (c : PCell), l[i]? = some c → j < 5 → (cCells l)[i * 5 + j]? = (cV c)[j]?
 | [], i, _, _, h, _ => by simp at h
 | d :: r, 0, j, c, h, hj => by
  obtain rfl : d = c := by simpa using h
  show (cV d ++ cCells r)[0 * 5 + j]? = _
  rw [List.getElem?_append_left (by show 0 * 5 + j < 5; omega), show 0 * 5 + j = j by omega]
 | d :: r, i + 1, j, c, h, hj => by
  show (cV d ++ cCells r)[(i + 1) * 5 + j]? = _
  rw [List.getElem?_append_right (by show 5 ≤ (i + 1) * 5 + j; omega), show (i + 1) * 5 + j - (cV d).length = i * 5 + j by show (i + 1) * 5 + j - 5 = _; omega]
  exact cCells_at r i j c (by simpa using h) hj
theorem cCells_take (l : List PCell) (k : Nat) (hk : k ≤ l.length) : (cCells l).take (k * 5) = cCells (l.take k) := by
 have e := cCells_append (l.take k) (l.drop k)
 rw [List.take_append_drop] at e
 rw [e, List.take_left' (by rw [cCells_length, List.length_take]; omega)]
theorem cV_one (c : PCell) : ∀ u ∈ cV c, u.oneCell' = true := by
 intro u hu
 simp only [cV, List.mem_cons, List.not_mem_nil, or_false] at hu
 rcases hu with rfl | rfl | rfl | rfl | rfl <;> rfl
theorem cCells_ones : ∀ (l : List PCell), ∀ u ∈ cCells l, u.oneCell' = true
 | [], u, h => by cases h
 | c :: r, u, h => by
  rcases List.mem_append.1 h with h | h
  ·exact cV_one c u h
  ·exact cCells_ones r u h
def CAt (W : World) (v : Value) (l : List PCell) : Prop := RowC 5 W v l.length (cCells l)
theorem CAt.nil (W : World) : CAt W (.slice none 0 0) [] := RowC.nil 5 W
theorem CAt.below {W W' : World} {v : Value} {l : List PCell} (h : CAt W v l) (hb : Below W.heap.size W W') : CAt W' v l := RowC.below h hb
theorem CAt.of_own {W : World} {base : Nat} {e : TypeId} {v : Value} {n : Nat} {l : List PCell} (h : W.ownsRow base e 5 v n (cCells l)) (hn : n = l.length) : CAt W v l := by
 subst hn
 exact RowC.of_own h
theorem CAt.shape {W : World} {v : Value} {l : List PCell} (h : CAt W v l) : ∃ ao cap, v = .slice ao l.length cap ∧ l.length ≤ cap ∧ cap ≤ maxLen := by
 obtain ⟨_, ao, cap, e, h1, h2, _⟩ := h
 exact ⟨ao, cap, e, h1, h2⟩
theorem CAt.at {W : World} {v : Value} {l : List PCell} (h : CAt W v l) {i : Nat} {c : PCell} (hi : l[i]? = some c) : ∃ b off cap, v = .slice (some ⟨b, off, none⟩) l.length cap ∧
  W.cell? ⟨b, off + i * 5, none⟩ = some (.int .i64 c.site) ∧ W.cell? ⟨b, off + i * 5 + 1, none⟩ = some (.int .i64 c.seq) ∧ W.cell? ⟨b, off + i * 5 + 2, none⟩ = some (.int .i64 c.off) ∧
  W.cell? ⟨b, off + i * 5 + 3, none⟩ = some (.int .i32 c.r) ∧ W.cell? ⟨b, off + i * 5 + 4, none⟩ = some (.bool c.gone) := by
 obtain ⟨_, ao, cap, rfl, h2⟩ := h.reads
 have hl := (List.getElem?_eq_some_iff.1 hi).1
 obtain ⟨b, off, rfl, hc⟩ := h2 (by omega)
 have e : ∀ j, j < 5 → W.cell? ⟨b, off + i * 5 + j, none⟩ = (cV c)[j]? := fun j hj => by
  have q := cCells_at l i j c hi hj
  have hlt : j < (cV c).length := hj
  rw [List.getElem?_eq_getElem hlt] at q ⊢
  rw [Nat.add_assoc]
  exact hc _ _ q
 refine ⟨b, off, cap, rfl, ?_, e 1 (by decide), e 2 (by decide), e 3 (by decide), e 4 (by decide)⟩
 exact e 0 (by decide)
end Go.Proofs.Ytmedickofiielaa

namespace Go.Proofs.Ytmedickofiielaa
open Go.RowKit

structure FB where
 I : (Nat → Option Obj) → World → Prop
 box : ∀ {bx W}, I bx W → ∀ b o, bx b = some o → W.heap[b]? = some o
 new : ∀ {bx W}, I bx W → ∀ (cs : Array Value) (t : TypeId), I (boxAt W.heap.size (.cells cs t (0, 0)) bx) (W.alloc (.cells cs t))
 set : ∀ {bx W}, I bx W → ∀ {B cs t}, bx B = some (.cells cs t (0, 0)) → ∀ (i : Nat) (v : Value), I (boxAt B (.cells (cs.setIfInBounds i v) t (0, 0)) bx) (W.setCell ⟨B, i, none⟩ v)
 drew : ∀ {bx W}, I bx W → I bx W.drew
 less : ∀ {bx bz : Nat → Option Obj} {W}, I bx W → (∀ b o, bz b = some o → bx b = some o) → I bz W
theorem FB.lt (F : FB) {bx W} (h : F.I bx W) {b : Nat} {o : Obj} (hb : bx b = some o) : b < W.heap.size := (Array.getElem?_eq_some_iff.1 (F.box h b o hb)).1
theorem FB.at (F : FB) {bx W} (h : F.I bx W) {B : Nat} {cs : Array Value} {t : TypeId} (hB : bx B = some (.cells cs t (0, 0))) (i : Nat) : W.cell? ⟨B, i, none⟩ = cs[i]? ∧ W.frozen? ⟨B, i, none⟩ = false := ⟨box_cell (F.box h B _ hB) i, box_frozen (F.box h B _ hB) i⟩
theorem FB.drop (F : FB) {bx bz : Nat → Option Obj} {W0 W : World} (h0 : F.I bz W0) (h : F.I bx W) (hk : ∀ b, b < W0.heap.size → bx b = bz b) : F.I bz W :=
 F.less h fun b _ ho => (hk b (F.lt h0 ho)).trans ho
theorem boxAt_twice {B : Nat} {o o' : Obj} {bx : Nat → Option Obj} (b : Nat) : boxAt B o (boxAt B o' bx) b = boxAt B o bx b := by
 unfold boxAt
 by_cases h : b = B
 ·rw [if_pos h, if_pos h]
 ·rw [if_neg h, if_neg h, if_neg h]
theorem FB.mark (F : FB) {bx W} (h : F.I bx W) {M : Nat} {x y z : Value} {ty : TypeId} (hM : bx M = some (.cells #[x, y, z] ty (0, 0))) (a b c : Int) :
  F.I (boxAt M (.cells #[.int .i64 a, .int .i64 b, .int .i64 c] ty (0, 0)) bx) (((W.setCell ⟨M, 0, none⟩ (.int .i64 a)).setCell ⟨M, 1, none⟩ (.int .i64 b)).setCell ⟨M, 2, none⟩ (.int .i64 c)) := by
 have h1 := F.set (F.set (F.set h hM 0 (.int .i64 a)) (boxAt_same _ _ _) 1 (.int .i64 b)) (boxAt_same _ _ _) 2 (.int .i64 c)
 refine F.less h1 fun k o hk => ?_
 rw [boxAt_twice, boxAt_twice]
 exact hk
def kBoth (r : Int → Int × Int) (s a t : Int) : Int × Int × Int × Int := if (r a).2 = 0 then (if (r t).2 = 0 then (s, (r a).1, (r t).1, 0) else (0, 0, 0, (r t).2)) else (0, 0, 0, (r a).2)
def erV (x : Int × Int) : Value := .tuple #[.int .i64 x.1, .int .i64 x.2]
def BothSt (r : Int → Int × Int) (a t : Int) (k : Nat) (x y : Int) : Prop := (k = 0 ∧ x = a ∧ y = t) ∨ (k = 1 ∧ (r a).2 = 0 ∧ x = (r a).1 ∧ y = t) ∨ (k = 2 ∧ (r a).2 = 0 ∧ x = (r a).1 ∧ (r t).2 = 0 ∧ y = (r t).1)
def fbR (w : World) : FB where
 I := fun bx W => RBox w bx W
 box := fun h b o ho => (h.box b o ho).1
 new := fun {_ _} h cs t => RBox.new h cs t
 set := fun {_ _} h {_ _ _} hB i v => RBox.set h hB i v
 drew := fun {_ _} h => ⟨h.up.drew, fun b o ho => h.box b o ho⟩
 less := fun {_ _ _} h hb => RBox.less h hb
end Go.Proofs.Ytmedickofiielaa
