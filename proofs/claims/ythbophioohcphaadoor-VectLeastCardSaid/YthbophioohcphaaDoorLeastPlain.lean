/- What the least one of some vectors is, plain: each covers it, and it covers whatever each covers. -/
import Derived.Test.YthbophioohcphaaDoorVectMergePlain
namespace Go.Proofs.YthbophioohcphaaDoor

theorem minL_ge (t : Int) (s : Nat) : ∀ (l : List (List Int)) (m : Int), t ≤ minL m l s ↔ t ≤ m ∧ ∀ x ∈ l, t ≤ x.getD s 0
  | [], m => ⟨fun h => ⟨h, fun _ q => absurd q (by simp)⟩, fun h => h.1⟩
  | x :: l, m => by
    show t ≤ minL (if x.getD s 0 < m then x.getD s 0 else m) l s ↔ _
    rw [minL_ge t s l]
    constructor
    · rintro ⟨h1, h2⟩
      split at h1
      · exact ⟨by omega, fun y hy => by
          rcases List.mem_cons.1 hy with rfl | g
          · exact h1
          · exact h2 y g⟩
      · exact ⟨h1, fun y hy => by
          rcases List.mem_cons.1 hy with rfl | g
          · omega
          · exact h2 y g⟩
    · rintro ⟨h1, h2⟩
      refine ⟨?_, fun y hy => h2 y (List.mem_cons_of_mem _ hy)⟩
      have := h2 x (List.mem_cons_self ..)
      split <;> omega
theorem vLeast_at (x : List Int) (l : List (List Int)) (s : Nat) (h : s < 16) : (vLeast (x :: l)).getD s 0 = minL (x.getD s 0) l s := vMade_at _ s h
theorem vLeast_cov (x : List Int) (l : List (List Int)) (c : List Int) : vCov (vLeast (x :: l)) c = (x :: l).all fun y => vCov y c := by
  apply Bool.eq_iff_iff.2
  rw [vCov_iff, List.all_eq_true]
  constructor
  · intro h y hy
    rw [vCov_iff]
    intro s hs
    have := h s hs
    rw [vLeast_at x l s hs, minL_ge] at this
    rcases List.mem_cons.1 hy with rfl | g
    · exact this.1
    · exact this.2 y g
  · intro h s hs
    rw [vLeast_at x l s hs, minL_ge]
    exact ⟨(vCov_iff _ _).1 (h x (List.mem_cons_self ..)) s hs, fun y hy => (vCov_iff _ _).1 (h y (List.mem_cons_of_mem _ hy)) s hs⟩
theorem vLeast_each (x : List Int) (l : List (List Int)) (y : List Int) (hy : y ∈ x :: l) : vCov y (vLeast (x :: l)) = true := by
  have h : vCov (vLeast (x :: l)) (vLeast (x :: l)) = true := (vCov_iff _ _).2 fun s _ => Int.le_refl _
  rw [vLeast_cov, List.all_eq_true] at h
  exact h y hy
theorem vLeast_may (x : List Int) (l : List (List Int)) (h : (x :: l).all vMay = true) : vMay (vLeast (x :: l)) = true := vMade_may _ fun s _ => by
  rw [List.all_eq_true] at h
  have h0 := vMay_getD (h x (List.mem_cons_self ..)) s
  have hm := (minL_ge (minL (x.getD s 0) l s) s l (x.getD s 0)).1 (Int.le_refl _)
  exact ⟨(minL_ge 0 s l _).2 ⟨h0.1, fun y hy => (vMay_getD (h y (List.mem_cons_of_mem _ hy)) s).1⟩, by omega⟩
/-- Whether the first k of some cover c, one more looked at. -/
theorem all_take_and (xss : List (List Int)) (p : List Int → Bool) (k : Nat) (hk : k < xss.length) : (xss.take (k + 1)).all p = ((xss.take k).all p && p (xss.getD k [])) := by
  rw [List.take_succ_eq_append_getElem hk, List.all_append]
  simp [List.getD, hk]
theorem getD_mem {xss : List (List Int)} {k : Nat} (hk : k < xss.length) : xss.getD k [] ∈ xss := by
  simp [List.getD, hk]
end Go.Proofs.YthbophioohcphaaDoor
