/- Names, and vectors as lists of counts. Nothing of a program's own text. -/
import Derived.Lib.Hide
namespace Go.Proofs.Ytnlajfdgpdijjaa

/-- May a name be? Is one less? -/
def nMay (site seq : Int) : Bool := decide (1 ≤ site ∧ site ≤ 16 ∧ 1 ≤ seq ∧ seq ≤ 1099511627776)
def nLess (s q s' q' : Int) : Bool := decide (s < s' ∨ (s = s' ∧ q < q'))
/-- May a list be a vector? -/
def vOk (xs : List Int) : Prop := ∀ x ∈ xs, 0 ≤ x ∧ x ≤ 1099511627776
instance (xs : List Int) : Decidable (vOk xs) := by unfold vOk; infer_instance
def vMay (xs : List Int) : Bool := decide (xs.length ≤ 16 ∧ vOk xs ∧ (xs = [] ∨ xs.getD (xs.length - 1) 0 ≠ 0))
/-- A site's count. -/
def vCount (xs : List Int) (s : Int) : Int := if 1 ≤ s ∧ s ≤ xs.length then xs.getD (s - 1).toNat 0 else 0
/-- Is each count of a at least that of b? -/
def vCov (a b : List Int) : Bool := decide (∀ s : Nat, s < 16 → vCount b (s + 1) ≤ vCount a (s + 1))
theorem vCount_nat (xs : List Int) (s : Nat) : vCount xs (s + 1) = xs.getD s 0 := by
  unfold vCount
  by_cases h : s < xs.length
  · rw [if_pos (by omega)]
    congr 1
    omega
  · rw [if_neg (by omega)]
    simp [List.getD, Nat.not_lt.1 h]
theorem vOk_take {xs : List Int} {k : Nat} (h : vOk (xs.take k)) (hk : k < xs.length) (hx : 0 ≤ xs.getD k 0 ∧ xs.getD k 0 ≤ 1099511627776) : vOk (xs.take (k + 1)) := fun x hm => by
  rw [List.take_succ_eq_append_getElem hk] at hm
  rcases List.mem_append.1 hm with g | g
  · exact h x g
  · simp at g
    rw [g]
    simpa [List.getD, hk] using hx
theorem vOk_bad {xs : List Int} {k : Nat} (hk : k < xs.length) (hx : ¬ (0 ≤ xs.getD k 0 ∧ xs.getD k 0 ≤ 1099511627776)) : ¬ vOk xs := fun h => hx (by
  have := h xs[k] (List.getElem_mem hk)
  simpa [List.getD, hk] using this)
theorem vMay_parts {xs : List Int} (h : vMay xs = true) : xs.length ≤ 16 ∧ vOk xs ∧ (xs = [] ∨ xs.getD (xs.length - 1) 0 ≠ 0) := of_decide_eq_true h
theorem vCount_bounds {xs : List Int} (h : vOk xs) (s : Int) : 0 ≤ vCount xs s ∧ vCount xs s ≤ 1099511627776 := by
  unfold vCount
  split
  · rename_i q
    have hk : (s - 1).toNat < xs.length := by omega
    have := h xs[(s - 1).toNat] (List.getElem_mem hk)
    rw [List.getD_eq_getElem?_getD, List.getElem?_eq_getElem hk]
    exact this
  · omega
theorem vCount_none (xs : List Int) (s : Int) (h : ¬ (1 ≤ s ∧ s ≤ xs.length)) : vCount xs s = 0 := if_neg h
/-- Of sixteen counts the vector that has them: without the noughts at the end. -/
def vLast (f : Nat → Int) : Nat → Nat
  | 0 => 0
  | n + 1 => if f n = 0 then vLast f n else n + 1
def vMade (f : Nat → Int) : List Int := (List.range (vLast f 16)).map f
theorem vLast_le (f : Nat → Int) : ∀ n, vLast f n ≤ n
  | 0 => Nat.le_refl _
  | n + 1 => by unfold vLast; split; exact Nat.le_succ_of_le (vLast_le f n); exact Nat.le_refl _
theorem vLast_zero (f : Nat → Int) : ∀ n i, vLast f n ≤ i → i < n → f i = 0
  | 0, i, _, h => absurd h (Nat.not_lt_zero i)
  | n + 1, i, h1, h2 => by
    unfold vLast at h1
    by_cases e : f n = 0
    · rw [if_pos e] at h1
      rcases Nat.lt_or_ge i n with g | g
      · exact vLast_zero f n i h1 g
      · obtain rfl : i = n := by omega
        exact e
    · rw [if_neg e] at h1
      omega
theorem vLast_ne (f : Nat → Int) : ∀ n, vLast f n = 0 ∨ f (vLast f n - 1) ≠ 0
  | 0 => .inl rfl
  | n + 1 => by
    unfold vLast
    by_cases e : f n = 0
    · rw [if_pos e]; exact vLast_ne f n
    · rw [if_neg e]; exact .inr (by simpa using e)
theorem vMade_length (f : Nat → Int) : (vMade f).length = vLast f 16 := by unfold vMade; simp
theorem vMade_at (f : Nat → Int) (s : Nat) (h : s < 16) : (vMade f).getD s 0 = f s := by
  unfold vMade
  by_cases g : s < vLast f 16
  · simp [List.getD, g]
  · rw [vLast_zero f 16 s (Nat.not_lt.1 g) h]
    simp [List.getD, Nat.not_lt.1 g]
/-- The same counts, the same vector. -/
theorem vMade_congr {f g : Nat → Int} (h : ∀ s, s < 16 → f s = g s) : vMade f = vMade g := by
  have hl : ∀ n, n ≤ 16 → vLast f n = vLast g n := by
    intro n
    induction n with
    | zero => intro _; rfl
    | succ n ih => intro hn; unfold vLast; rw [h n (by omega), ih (by omega)]
  unfold vMade
  rw [hl 16 (Nat.le_refl _)]
  refine List.map_congr_left fun s hs => h s ?_
  have := vLast_le g 16
  have := List.mem_range.1 hs
  omega
theorem vMade_may (f : Nat → Int) (h : ∀ s, s < 16 → 0 ≤ f s ∧ f s ≤ 1099511627776) : vMay (vMade f) = true := by
  refine decide_eq_true ⟨by rw [vMade_length]; exact vLast_le f 16, ?_, ?_⟩
  · intro x hx
    unfold vMade at hx
    obtain ⟨s, hs, rfl⟩ := List.mem_map.1 hx
    have := vLast_le f 16
    have := List.mem_range.1 hs
    exact h s (by omega)
  · have hle := vLast_le f 16
    rcases vLast_ne f 16 with g | g
    · left; exact List.eq_nil_of_length_eq_zero (by rw [vMade_length]; exact g)
    · by_cases e : vLast f 16 = 0
      · left; exact List.eq_nil_of_length_eq_zero (by rw [vMade_length]; exact e)
      · right; rw [vMade_length, vMade_at f _ (by omega)]; exact g
/-- A vector is what is made of its counts. -/
theorem vMade_self {xs : List Int} (h : vMay xs = true) : vMade (fun s => xs.getD s 0) = xs := by
  obtain ⟨h1, _, h3⟩ := vMay_parts h
  have hl : ∀ n, xs.length ≤ n → vLast (fun s => xs.getD s 0) n = xs.length := by
    intro n
    induction n with
    | zero => intro hn; unfold vLast; omega
    | succ n ih =>
      intro hn
      unfold vLast
      rcases Nat.lt_or_ge n xs.length with g | g
      · have e : n = xs.length - 1 := by omega
        rcases h3 with q | q
        · rw [q] at g; exact absurd g (Nat.not_lt_zero n)
        · rw [if_neg (by rw [e]; exact q)]; omega
      · rw [if_pos (by simp [List.getD, g]), ih g]
  unfold vMade
  rw [hl 16 h1]
  apply List.ext_getElem (by simp)
  intro i h1 h2
  simp [List.getD, h2]
/-- The greater counts, the least ones, one more. -/
def vMerge (a b : List Int) : List Int := vMade fun s => if a.getD s 0 < b.getD s 0 then b.getD s 0 else a.getD s 0
def minL (m : Int) : List (List Int) → Nat → Int
  | [], _ => m
  | x :: l, s => minL (if x.getD s 0 < m then x.getD s 0 else m) l s
def vLeast : List (List Int) → List Int
  | [] => []
  | x :: l => vMade fun s => minL (x.getD s 0) l s
def vRaise (xs : List Int) (site seq : Int) : List Int := vMade fun s => if (s : Int) + 1 = site then seq else xs.getD s 0
end Go.Proofs.Ytnlajfdgpdijjaa
