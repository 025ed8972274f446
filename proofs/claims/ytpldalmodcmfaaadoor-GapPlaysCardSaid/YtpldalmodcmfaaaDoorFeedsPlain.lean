/- Where the line feeds of a text stand: plain lists. Nothing of a program. -/
import Derived.Test.YtpldalmodcmfaaaDoorRows
namespace Go.Proofs.YtpldalmodcmfaaaDoor

/-- The places of the line feeds, counted from i. -/
def lfs : Int → List Int → List Int
  | _, [] => []
  | i, x :: xs => if x = 10 then i :: lfs (i + 1) xs else lfs (i + 1) xs

theorem lfs_append (i : Int) : ∀ (a b : List Int), lfs i (a ++ b) = lfs i a ++ lfs (i + a.length) b := by
  intro a
  induction a generalizing i with
  | nil => intro b; simp [lfs]
  | cons x a ih =>
    intro b
    simp only [List.cons_append, lfs, ih, List.length_cons]
    have e : i + 1 + (a.length : Int) = i + ((a.length + 1 : Nat) : Int) := by omega
    rw [e]
    split <;> rfl
theorem lfs_range (i : Int) : ∀ (a : List Int), ∀ p ∈ lfs i a, i ≤ p ∧ p < i + a.length := by
  intro a
  induction a generalizing i with
  | nil => simp [lfs]
  | cons x a ih =>
    intro p hp
    simp only [lfs, List.length_cons] at hp ⊢
    split at hp
    · rcases List.mem_cons.1 hp with rfl | hp
      · omega
      · have := ih (i + 1) p hp; omega
    · have := ih (i + 1) p hp; omega
theorem lfs_sorted (i : Int) : ∀ (a : List Int), (lfs i a).Pairwise (· < ·) := by
  intro a
  induction a generalizing i with
  | nil => simp [lfs]
  | cons x a ih =>
    simp only [lfs]
    split
    · refine List.Pairwise.cons (fun p hp => ?_) (ih (i + 1))
      have := lfs_range (i + 1) a p hp
      omega
    · exact ih (i + 1)
theorem lfs_length (i : Int) : ∀ (a : List Int), (lfs i a).length ≤ a.length := by
  intro a
  induction a generalizing i with
  | nil => simp [lfs]
  | cons x a ih =>
    simp only [lfs, List.length_cons]
    have := ih (i + 1)
    split <;> simp <;> omega
theorem lfs_shift (i d : Int) : ∀ (a : List Int), lfs (i + d) a = (lfs i a).map (· + d) := by
  intro a
  induction a generalizing i with
  | nil => simp [lfs]
  | cons x a ih =>
    simp only [lfs]
    have e : i + d + 1 = i + 1 + d := by omega
    rw [e, ih]
    split <;> simp

/-- Two lists, all of the first below a place, all of the second not: there is one such parting. -/
theorem parted {P a b c d : List Int} {m : Int} (h1 : P = a ++ b) (h2 : P = c ++ d) (ha : ∀ p ∈ a, p < m) (hb : ∀ p ∈ b, m ≤ p) (hc : ∀ p ∈ c, p < m) (hd : ∀ p ∈ d, m ≤ p) : a = c ∧ b = d := by
  have f1 : ∀ (x y : List Int), (∀ p ∈ x, p < m) → (∀ p ∈ y, m ≤ p) → (x ++ y).filter (fun p => decide (p < m)) = x := by
    intro x y hx hy
    rw [List.filter_append, List.filter_eq_self.2 (fun p hp => decide_eq_true (hx p hp)), List.filter_eq_nil_iff.2 (fun p hp => by have := hy p hp; simp; omega), List.append_nil]
  have e1 := f1 a b ha hb
  have e2 := f1 c d hc hd
  rw [← h1] at e1
  rw [← h2] at e2
  have e : a = c := e1.symm.trans e2
  subst e
  exact ⟨rfl, List.append_cancel_left (h1.symm.trans h2)⟩

/-- Counted from the end, the nearest one last. -/
def bks (ys : List Int) : List Int := ((lfs 0 ys).map fun p => (ys.length : Int) - p).reverse
/-- The same, of places counted from the beginning of all. -/
def backs (size : Int) (P : List Int) : List Int := (P.map fun p => size - p).reverse
theorem backs_bks (zs ys : List Int) : backs (zs.length + ys.length) (lfs zs.length ys) = bks ys := by
  unfold backs bks
  have e := lfs_shift 0 zs.length ys
  rw [Int.zero_add] at e
  rw [e, List.map_map]
  congr 1
  apply List.map_congr_left
  intro p _
  simp only [Function.comp]
  omega
theorem backs_append (size : Int) (P Q : List Int) : backs size (P ++ Q) = backs size Q ++ backs size P := by simp [backs]
theorem backs_length (size : Int) (P : List Int) : (backs size P).length = P.length := by simp [backs]
theorem bks_length (ys : List Int) : (bks ys).length ≤ ys.length := by
  have := lfs_length 0 ys
  simp [bks]; omega
theorem bks_range (ys : List Int) : ∀ q ∈ bks ys, 1 ≤ q ∧ q ≤ ys.length := by
  intro q hq
  simp only [bks, List.mem_reverse, List.mem_map] at hq
  obtain ⟨p, hp, rfl⟩ := hq
  have := lfs_range 0 ys p hp
  omega
theorem bks_append (a b : List Int) : bks (a ++ b) = bks b ++ backs ((a.length : Int) + b.length) (lfs 0 a) := by
  have h : bks (a ++ b) = backs ((a.length : Int) + b.length) (lfs 0 (a ++ b)) := by
    unfold bks backs
    rw [List.length_append]
    congr 1
  rw [h, lfs_append, backs_append, Int.zero_add, backs_bks]

/-- How many stand ahead of a place. -/
def cnt (P : List Int) (m : Int) : Nat := P.countP fun p => decide (p < m)
end Go.Proofs.YtpldalmodcmfaaaDoor
