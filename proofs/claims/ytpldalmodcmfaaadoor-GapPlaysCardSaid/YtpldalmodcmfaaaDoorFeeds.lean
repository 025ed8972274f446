/- The line feeds of a buffer: two stacks in its box. -/
import Derived.Test.YtpldalmodcmfaaaDoorStack
import Derived.Test.YtpldalmodcmfaaaDoorFeedsPlain
import Derived.Deep.LoopGhost
import Derived.BigCall
namespace Go.Proofs.YtpldalmodcmfaaaDoor
open Go.RowKit

/-- The box of a buffer, with its stacks: what they hold; the rows that they lie in are blocks of S, or new. -/
def Fs (S : Nat → Prop) (N B : Nat) (a0 a1 a2 : Value) (ah bh : List Int) (w : World) : Prop :=
  ∃ v3 v4, w.heap[B]? = some (.cells #[a0, a1, a2, v3, v4] 73 (0, 0)) ∧ Ints w 93 .i64 v3 ah ∧ Ints w 94 .i64 v4 bh ∧ Mine S N v3 ∧ Mine S N v4 ∧ N ≤ w.heap.size ∧ (S B ∨ N ≤ B)

theorem Fs.drewN {S : Nat → Prop} {N B : Nat} {a0 a1 a2 : Value} {ah bh : List Int} {w : World} (h : Fs S N B a0 a1 a2 ah bh w) (n : Nat) : Fs S N B a0 a1 a2 ah bh (w.drewN n) := h
/-- What is changed is one of S, or new. -/
theorem keep_push {S : Nat → Prop} {N B : Nat} {w w' : World} {v : Value} (h : Keep (fun k => k = B ∨ v.ownBlock = some k) w.heap.size w w') (hN : N ≤ w.heap.size) (hB : S B ∨ N ≤ B) (hv : Mine S N v) : Keep S N w w' :=
  h.weak hN fun k hk hs => by
    rcases hs with rfl | hs
    · exact hB.elim id fun q => absurd hk (Nat.not_lt.2 q)
    · exact (hv k hs).elim id fun q => absurd hk (Nat.not_lt.2 q)
theorem mine_push {S : Nat → Prop} {N : Nat} {w : World} {v v' : Value} (h : v'.ownBlock = v.ownBlock ∨ ∃ g, v'.ownBlock = some g ∧ w.heap.size ≤ g) (hN : N ≤ w.heap.size) (hv : Mine S N v) : Mine S N v' := by
  intro g hg
  rcases h with h | ⟨g', h, h2⟩
  · exact hv g (h.symm.trans hg)
  · rw [hg] at h; cases h; exact .inr (by omega)
theorem ints_pop {w : World} {e : TypeId} {g cap : Nat} {xs : List Int} {p : Int} (h : Ints w e .i64 (.slice (some ⟨g, 0, none⟩) (xs.length + 1) cap) (xs ++ [p])) : Ints w e .i64 (.slice (some ⟨g, 0, none⟩) xs.length cap) xs := by
  unfold Ints at h
  rw [List.length_append, List.map_append, List.length_cons, List.length_nil] at h
  exact ownsRow_pop (by simp) h
theorem ints_box {w : World} {e t : TypeId} {k : IntKind} {v : Value} {xs : List Int} {B : Nat} {cs : Array Value} (h : Ints w e k v xs) (hB : w.heap[B]? = some (.cells cs t (0, 0))) (ht : t ≠ e) (o : Nat) (u : Value) : Ints (w.setCell ⟨B, o, none⟩ u) e k v xs :=
  h.of_kept fun g hg => box_other (fun e => h.ne hB ht (by rw [hg, e])) o u
theorem ints_keep {w w' : World} {e t : TypeId} {k : IntKind} {v u : Value} {xs : List Int} {B : Nat} {cs : Array Value} (h : Ints w e k v xs) (hB : w.heap[B]? = some (.cells cs t (0, 0))) (ht : t ≠ e) (hk : Keep (fun k => k = B ∨ u.ownBlock = some k) w.heap.size w w')
    {e2 : TypeId} {k2 : IntKind} {ys : List Int} (h2 : Ints w e2 k2 u ys) (he : e2 ≠ e) : Ints w' e k v xs := by
  refine h.of_kept fun g hg => hk.block g ?_ ?_
  · obtain ⟨cur, hc⟩ := h.typed g hg
    exact box_lt hc
  · rintro (rfl | hu)
    · exact h.ne hB ht hg
    · obtain ⟨cur, hc⟩ := h2.typed g hu
      exact h.ne hc he hg

theorem fsizeF {S : Nat → Prop} {N B : Nat} {a0 a1 a2 : Value} {ah bh : List Int} {w : World} (h : Fs S N B a0 a1 a2 ah bh w) :
    Calls Tryd.prog 53 #[.pointer (some ⟨B, 3, none⟩)] w fun e w' => e = .returned (.int .i64 ah.length) ∧ w = w' := by
  obtain ⟨v3, v4, hB, h3, h4, _⟩ := h
  exact sizeF B 3 _ _ v3 ah w hB rfl h3
theorem ftopF {S : Nat → Prop} {N B : Nat} {a0 a1 a2 : Value} {ah bh : List Int} {p : Int} {w : World} (h : Fs S N B a0 a1 a2 (ah ++ [p]) bh w) :
    Calls Tryd.prog 69 #[.pointer (some ⟨B, 3, none⟩)] w fun e w' => e = .returned (.int .i64 p) ∧ ∃ q, w' = w.drewN q := by
  obtain ⟨v3, v4, hB, h3, h4, _⟩ := h
  exact topF B 3 _ _ v3 ah p w hB rfl h3
theorem fpushF {S : Nat → Prop} {N B : Nat} {a0 a1 a2 : Value} {ah bh : List Int} (p : Int) {w : World} (h : Fs S N B a0 a1 a2 ah bh w) (hl : ah.length ≤ 900000) :
    Calls Tryd.prog 61 #[.pointer (some ⟨B, 3, none⟩), .int .i64 p] w fun e w' => e = .returned (.tuple #[]) ∧ Fs S N B a0 a1 a2 (ah ++ [p]) bh w' ∧ Keep S N w w' := by
  obtain ⟨v3, v4, hB, h3, h4, m3, m4, hN, hSB⟩ := h
  refine (pushF B 3 _ _ (by decide) v3 ah p w hB rfl h3 hl).mono ?_
  rintro e w' ⟨rfl, v', hb, hi, hw, hk⟩
  exact ⟨rfl, ⟨v', v4, hb, hi, ints_keep h4 hB (by decide) hk h3 (by decide), mine_push hw hN m3, m4, by have := hk.size; omega, hSB⟩, keep_push hk hN hSB m3⟩
theorem fpopF {S : Nat → Prop} {N B : Nat} {a0 a1 a2 : Value} {ah bh : List Int} {p : Int} {w : World} (h : Fs S N B a0 a1 a2 (ah ++ [p]) bh w) :
    Calls Tryd.prog 71 #[.pointer (some ⟨B, 3, none⟩)] w fun e w' => e = .returned (.int .i64 p) ∧ Fs S N B a0 a1 a2 ah bh w' ∧ Keep S N w w' := by
  obtain ⟨v3, v4, hB, h3, h4, m3, m4, hN, hSB⟩ := h
  refine (popF B 3 _ _ v3 ah p w hB rfl h3).mono ?_
  rintro e w' ⟨rfl, g, cap, q, rfl, rfl⟩
  exact ⟨rfl, ⟨_, v4, box_set (w := w.drewN q) hB 3 _, ints_box (w := w.drewN q) (ints_pop h3) hB (by decide) _ _, ints_box (w := w.drewN q) h4 hB (by decide) _ _, m3, m4, by rw [World.size_setCell]; exact hN, hSB⟩, ((Keep.refl _ _ w).drewN q).setCell hSB _⟩

theorem fsizeK {S : Nat → Prop} {N B : Nat} {a0 a1 a2 : Value} {ah bh : List Int} {w : World} (h : Fs S N B a0 a1 a2 ah bh w) :
    Calls Tryd.prog 54 #[.pointer (some ⟨B, 4, none⟩)] w fun e w' => e = .returned (.int .i64 bh.length) ∧ w = w' := by
  obtain ⟨v3, v4, hB, h3, h4, _⟩ := h
  exact sizeK B 4 _ _ v4 bh w hB rfl h4
theorem ftopK {S : Nat → Prop} {N B : Nat} {a0 a1 a2 : Value} {ah bh : List Int} {p : Int} {w : World} (h : Fs S N B a0 a1 a2 ah (bh ++ [p]) w) :
    Calls Tryd.prog 62 #[.pointer (some ⟨B, 4, none⟩)] w fun e w' => e = .returned (.int .i64 p) ∧ ∃ q, w' = w.drewN q := by
  obtain ⟨v3, v4, hB, h3, h4, _⟩ := h
  exact topK B 4 _ _ v4 bh p w hB rfl h4
theorem fpushK {S : Nat → Prop} {N B : Nat} {a0 a1 a2 : Value} {ah bh : List Int} (p : Int) {w : World} (h : Fs S N B a0 a1 a2 ah bh w) (hl : bh.length ≤ 900000) :
    Calls Tryd.prog 70 #[.pointer (some ⟨B, 4, none⟩), .int .i64 p] w fun e w' => e = .returned (.tuple #[]) ∧ Fs S N B a0 a1 a2 ah (bh ++ [p]) w' ∧ Keep S N w w' := by
  obtain ⟨v3, v4, hB, h3, h4, m3, m4, hN, hSB⟩ := h
  refine (pushK B 4 _ _ (by decide) v4 bh p w hB rfl h4 hl).mono ?_
  rintro e w' ⟨rfl, v', hb, hi, hw, hk⟩
  exact ⟨rfl, ⟨v3, v', hb, ints_keep h3 hB (by decide) hk h4 (by decide), hi, m3, mine_push hw hN m4, by have := hk.size; omega, hSB⟩, keep_push hk hN hSB m4⟩
theorem fpopK {S : Nat → Prop} {N B : Nat} {a0 a1 a2 : Value} {ah bh : List Int} {p : Int} {w : World} (h : Fs S N B a0 a1 a2 ah (bh ++ [p]) w) :
    Calls Tryd.prog 63 #[.pointer (some ⟨B, 4, none⟩)] w fun e w' => e = .returned (.int .i64 p) ∧ Fs S N B a0 a1 a2 ah bh w' ∧ Keep S N w w' := by
  obtain ⟨v3, v4, hB, h3, h4, m3, m4, hN, hSB⟩ := h
  refine (popK B 4 _ _ v4 bh p w hB rfl h4).mono ?_
  rintro e w' ⟨rfl, g, cap, q, rfl, rfl⟩
  exact ⟨rfl, ⟨v3, _, box_set (w := w.drewN q) hB 4 _, ints_box (w := w.drewN q) h3 hB (by decide) _ _, ints_box (w := w.drewN q) (ints_pop h4) hB (by decide) _ _, m3, m4, by rw [World.size_setCell]; exact hN, hSB⟩, ((Keep.refl _ _ w).drewN q).setCell hSB _⟩
end Go.Proofs.YtpldalmodcmfaaaDoor
