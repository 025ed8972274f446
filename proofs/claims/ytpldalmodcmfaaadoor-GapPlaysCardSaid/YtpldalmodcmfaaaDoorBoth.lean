/- A buffer and a list of runes beside it, each of the call's own, that don't touch each other. -/
import Derived.Test.YtpldalmodcmfaaaDoorRefEdit
import Derived.Test.YtpldalmodcmfaaaDoorLawGapSlices
import Derived.Test.YtpldalmodcmfaaaDoorDig
namespace Go.Proofs.YtpldalmodcmfaaaDoor
open Go.RowKit

theorem below_off2 {w w1 : World} {q : Nat} (h : Below (w.drewN q).heap.size (w.drewN q) w1) : Below w.heap.size w w1 := (below_drewN (Below.refl _ w) q).trans h
/-- The buffer at B holds xs, the list v reads as ls; of the blocks below M none is theirs. -/
def Both (M B : Nat) (v : Value) (xs ls : List Int) (w : World) : Prop :=
  ∃ (S : Nat → Prop) (N : Nat) (zs ys : List Int), zs ++ ys = xs ∧ Bf S N 0 B zs ys w ∧ allValid xs = true ∧ List32 w v ls ∧ (∀ k, S k → M ≤ k) ∧ M ≤ N ∧ ∀ g, v.ownBlock = some g → ¬ S g ∧ g < N
theorem Both.fresh {M B : Nat} {v : Value} {xs ls : List Int} {w w1 : World} (h : Both M B v xs ls w) (hb : Below w.heap.size w w1) : Both M B v xs ls w1 := by
  obtain ⟨S, N, zs, ys, hz, hB, hv, hL, hS, hM, hg⟩ := h
  exact ⟨S, N, zs, ys, hz, hB.fresh hb, hv, hL.below hb, hS, hM, hg⟩
theorem Both.le {M B : Nat} {v : Value} {xs ls : List Int} {w : World} (h : Both M B v xs ls w) : xs.length ≤ 20000 := by
  obtain ⟨_, _, zs, ys, rfl, hB, _⟩ := h
  rw [List.length_append]
  exact hB.le
theorem Both.valid {M B : Nat} {v : Value} {xs ls : List Int} {w : World} (h : Both M B v xs ls w) : allValid xs = true := by
  obtain ⟨_, _, _, _, _, _, hv, _⟩ := h
  exact hv
theorem Both.list {M B : Nat} {v : Value} {xs ls : List Int} {w : World} (h : Both M B v xs ls w) : List32 w v ls := by
  obtain ⟨_, _, _, _, _, _, _, hL, _⟩ := h
  exact hL
/-- The list edited. -/
theorem Both.edit {M B : Nat} {v : Value} {xs ls : List Int} {x : List Int × Int} {w w1 : World} {e : Ending} (h : Both M B v xs ls w) (he : EditPost v x w e w1) :
    Below w.heap.size w w1 ∧ ∃ v', e = .returned (.tuple #[v', .int .i64 x.2]) ∧ Both M B v' xs x.1 w1 := by
  obtain ⟨S, N, zs, ys, hz, hB, hv, hL, hS, hM, hg⟩ := h
  obtain ⟨hb, v', rfl, hL', hx⟩ := he
  refine ⟨hb, v', rfl, ?_⟩
  rcases hx with rfl | hx
  · exact ⟨S, N, zs, ys, hz, hB.fresh hb, hv, hL', hS, hM, hg⟩
  · refine ⟨_, _, zs, ys, hz, hB.out hb fun g hg => (hx g hg).1, hv, hL', fun k hk => hk.1.elim (hS k) (fun q => Nat.le_trans hM q), Nat.le_trans (Nat.le_trans hM hB.mem) hb.size, fun g hg => ⟨fun q => q.2 hg.symm, (hx g hg).2⟩⟩
/-- The buffer edited. -/
theorem both_do {M B : Nat} {v : Value} {xs ls : List Int} {w : World} (h : Both M B v xs ls w) (x : GAct) (hs : x.tx.size ≤ 1000000) (hk : (Lit.int .u8 x.kd).wf = true) (hT : Lib.Utf8Tabs 0 1 w) :
    Calls Tryd.prog 13 #[.pointer (some ⟨B, 0, none⟩), x.val] w fun e w' => e = .returned (.int .i64 (actX xs x).2) ∧ Both M B v (actX xs x).1 ls w' ∧ Below M w w' := by
  obtain ⟨S, N, zs, ys, rfl, hB, hv, hL, hS, hM, hg⟩ := h
  refine (do_any hB x hs hk hT).mono ?_
  rintro e w' ⟨he, zs', ys', hz, hB', hK⟩
  exact ⟨he, ⟨S, N, zs', ys', hz, hB', valid_act x hv, hL.keep hK hg, hS, hM, hg⟩, hK.below hM hS⟩
theorem both_text {M B : Nat} {v : Value} {xs ls : List Int} {w : World} (h : Both M B v xs ls w) :
    Calls Tryd.prog 15 #[.pointer (some ⟨B, 0, none⟩)] w fun e w' => e = .returned (.string ⟨(joinL xs).toArray⟩) ∧ Below w.heap.size w w' := by
  obtain ⟨_, _, zs, ys, rfl, hB, hv, _⟩ := h
  exact btext_any hB hv
theorem both_len {M B : Nat} {v : Value} {xs ls : List Int} {w : World} (h : Both M B v xs ls w) :
    Calls Tryd.prog 14 #[.pointer (some ⟨B, 0, none⟩)] w fun e w' => e = .returned (.int .i64 xs.length) ∧ ∃ q, w' = w.drewN q := by
  obtain ⟨_, _, zs, ys, rfl, hB, hv, _⟩ := h
  rw [List.length_append]
  exact blen_any hB
theorem both_lines {M B : Nat} {v : Value} {xs ls : List Int} {w : World} (h : Both M B v xs ls w) :
    Calls Tryd.prog 17 #[.pointer (some ⟨B, 0, none⟩)] w fun e w' => e = .returned (.int .i64 ((fd xs).length + 1 : Nat)) ∧ ∃ q, w' = w.drewN q := by
  obtain ⟨_, _, zs, ys, rfl, hB, hv, _⟩ := h
  exact lines_any hB
set_option maxRecDepth 100000 in
theorem both_digest {M B : Nat} {v : Value} {xs ls : List Int} {w : World} (h : Both M B v xs ls w) :
    Calls Tryd.prog 19 #[.pointer (some ⟨B, 0, none⟩)] w fun e w' => e = .returned (.int .u64 (dig (⟨(joinL xs).toArray⟩ : ByteArray).data.toList)) ∧ Below w.heap.size w w' := by
  have hT := both_text h
  have hD := fun W => digest_any ⟨(joinL xs).toArray⟩ W (by have := size_join xs h.le; unfold maxLen; omega)
  generalize (⟨(joinL xs).toArray⟩ : ByteArray) = T at hT hD ⊢
  clear h
  go_enter Tryd.func19, Tryd.ntmps19
  go_wp2_with (first
    | (go_at_call 15; refine hT.mono ?_; clear hT; rintro e w1 ⟨rfl, hb⟩)
    | (go_at_call 36; refine (hD _).mono ?_; clear hD; rintro e _ ⟨rfl, rfl⟩))
  go_ret
  exact ⟨rfl, hb⟩
end Go.Proofs.YtpldalmodcmfaaaDoor
