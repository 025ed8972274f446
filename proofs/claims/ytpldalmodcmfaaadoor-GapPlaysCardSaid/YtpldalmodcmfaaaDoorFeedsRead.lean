/- feeds: what only reads them: place, count. -/
import Derived.Test.YtpldalmodcmfaaaDoorFeedsWalk
import Derived.Test.YtpldalmodcmfaaaDoorShSearch
namespace Go.Proofs.YtpldalmodcmfaaaDoor
open Go.RowKit

/-- The cells of the stacks, for a walk. -/
theorem Fs.cells {S : Nat → Prop} {N B : Nat} {a0 a1 a2 : Value} {ah bh : List Int} {w : World} (h : Fs S N B a0 a1 a2 ah bh w) :
    ∃ (ao bo : Option Addr) (c1 c2 : Nat), w.cell? ⟨B, 3, none⟩ = some (.slice ao ah.length c1) ∧ w.cell? ⟨B, 4, none⟩ = some (.slice bo bh.length c2) ∧
      (∀ j, j < ah.length → ∃ g, ao = some ⟨g, 0, none⟩ ∧ w.cell? ⟨g, j, none⟩ = some (.int .i64 (ah.getD j 0))) ∧ (∀ j, j < bh.length → ∃ g, bo = some ⟨g, 0, none⟩ ∧ w.cell? ⟨g, j, none⟩ = some (.int .i64 (bh.getD j 0))) := by
  obtain ⟨v3, v4, hB, h3, h4, _⟩ := h
  obtain ⟨ao, c1, rfl, _, _, ha⟩ := h3.shape
  obtain ⟨bo, c2, rfl, _, _, hb⟩ := h4.shape
  refine ⟨ao, bo, c1, c2, box_cell hB 3, box_cell hB 4, fun j hj => ?_, fun j hj => ?_⟩
  · obtain ⟨g, rfl⟩ := ha (by intro e; subst e; simp at hj)
    exact ⟨g, rfl, h3.cell j hj⟩
  · obtain ⟨g, rfl⟩ := hb (by intro e; subst e; simp at hj)
    exact ⟨g, rfl, h4.cell j hj⟩

set_option maxRecDepth 100000 in
set_option maxHeartbeats 2000000 in
theorem place_ahead {S : Nat → Prop} {N B : Nat} {a0 a1 a2 : Value} {ah bh : List Int} {w : World} (h : Fs S N B a0 a1 a2 ah bh w) (k : Nat) (size : Int) (hk : k < ah.length) :
    Calls Tryd.prog 57 #[.pointer (some ⟨B, 3, none⟩), .int .i64 k, .int .i64 size] w fun e w' => e = .returned (.int .i64 (ah.getD k 0)) ∧ ∃ q, w' = w.drewN q := by
  have h1 := (fsizeF h).mono (fun e w' (p : _ ∧ _) => (⟨p.1, p.2.symm⟩ : e = _ ∧ w' = _))
  obtain ⟨ao, bo, c1, c2, q1, q2, hA, hB⟩ := h.cells
  obtain ⟨g, rfl, hg⟩ := hA k hk
  obtain ⟨x, hx⟩ : ∃ x, ah.getD k 0 = x := ⟨_, rfl⟩
  rw [hx] at hg ⊢
  obtain ⟨n, hn⟩ : ∃ n, ah.length = n := ⟨_, rfl⟩
  rw [hn] at h1 q1 hk
  have k1 : (k : Int) < (n : Int) := by omega
  have k0 : (0 : Int) ≤ (k : Int) := by omega
  have kt : ((k : Int)).toNat = k := rfl
  clear hA hB hx hn h q2
  go_enter Tryd.func57, Tryd.ntmps57
  go_wp2_with (go_at_call 53; refine h1.mono ?_; clear h1; rintro e _ ⟨rfl, rfl⟩)
  go_ret
  exact ⟨rfl, 0, rfl⟩

set_option maxRecDepth 100000 in
set_option maxHeartbeats 2000000 in
theorem place_behind {S : Nat → Prop} {N B : Nat} {a0 a1 a2 : Value} {ah bh : List Int} {w : World} (h : Fs S N B a0 a1 a2 ah bh w) (hl : ah.length + bh.length ≤ 40000) (k : Nat) (size : Int) (hk : ah.length ≤ k) (hk2 : k < ah.length + bh.length) (hs : 0 ≤ size ∧ size ≤ 1000000) (hr : ∀ p ∈ bh, 0 ≤ p ∧ p ≤ 1000000) :
    Calls Tryd.prog 57 #[.pointer (some ⟨B, 3, none⟩), .int .i64 k, .int .i64 size] w fun e w' => e = .returned (.int .i64 (size - bh.getD (ah.length + bh.length - 1 - k) 0)) ∧ ∃ q, w' = w.drewN q := by
  have h1 := (fsizeF h).mono (fun e w' (p : _ ∧ _) => (⟨p.1, p.2.symm⟩ : e = _ ∧ w' = _))
  have h2 := fun q => fs_size (h.drewN q) (by omega)
  obtain ⟨ao, bo, c1, c2, q1, q2, hA, hB⟩ := h.cells
  obtain ⟨g, rfl, hg⟩ := hB (ah.length + bh.length - 1 - k) (by omega)
  have hxr := hr (bh.getD (ah.length + bh.length - 1 - k) 0) (by
    have hj : ah.length + bh.length - 1 - k < bh.length := by omega
    simp [List.getD, hj])
  obtain ⟨x, hx⟩ : ∃ x, bh.getD (ah.length + bh.length - 1 - k) 0 = x := ⟨_, rfl⟩
  rw [hx] at hg hxr ⊢
  obtain ⟨n, hn⟩ : ∃ n, ah.length = n := ⟨_, rfl⟩
  obtain ⟨m, hm⟩ : ∃ m, bh.length = m := ⟨_, rfl⟩
  simp only [hn, hm] at h1 h2 q1 q2 hk hk2 hl hg
  have k1 : ¬ ((k : Int) < (n : Int)) := by omega
  have e1 : IntKind.i64.wrap (((n + m : Nat) : Int) - 1) = ((n + m : Nat) : Int) - 1 := IntWalk.i64_in _ (by omega)
  have e2 : IntKind.i64.wrap (((n + m : Nat) : Int) - 1 - (k : Int)) = ((n + m - 1 - k : Nat) : Int) := by rw [show (((n + m : Nat) : Int) - 1 - (k : Int)) = ((n + m - 1 - k : Nat) : Int) by omega]; exact IntWalk.i64_in _ (by omega)
  have k3 : ((n + m - 1 - k : Nat) : Int) < (m : Int) := by omega
  have k0 : (0 : Int) ≤ ((n + m - 1 - k : Nat) : Int) := by omega
  have kt : (((n + m - 1 - k : Nat) : Int)).toNat = n + m - 1 - k := rfl
  have e3 : IntKind.i64.wrap (size - x) = size - x := IntWalk.i64_in _ (by omega)
  clear hA hB hx hn h hm hr
  go_enter Tryd.func57, Tryd.ntmps57
  go_wp2_with (go_at_call 53; refine h1.mono ?_; clear h1; rintro e _ ⟨rfl, rfl⟩)
  go_quiet ((go_at_call 35; exact Calls.quiet_of (h2 _)))
  go_wp2
  go_ret
  exact ⟨rfl, _, rfl⟩
end Go.Proofs.YtpldalmodcmfaaaDoor
