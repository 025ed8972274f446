/- Texts of this proof, joined. -/
import Derived.Test.YtnlajfdgpdijjaaRefSpNorm
import Derived.Test.YtnlajfdgpdijjaaSpWf
import Derived.Test.YtnlajfdgpdijjaaShut

/- The document's spans: Ahead, Has. -/
namespace Go.Proofs.Ytnlajfdgpdijjaa
open Go.RowKit

theorem cntTo_next (f : Nat → Bool) (k : Nat) : cntTo f (k + 1) = cntTo f k + if f k then 1 else 0 := rfl
/-- Has a list a place, any number? -/
def hasI (xs : List Sp) (p : Int) : Bool := xs.any fun s => decide (s.1 ≤ p ∧ p < s.1 + s.2)
theorem hasI_nat (xs : List Sp) (p : Nat) : hasI xs p = sMark xs p := rfl
theorem hasI_neg {xs : List Sp} (h : sGood xs) {p : Int} (hp : p < 0) : hasI xs p = false := by
  cases hz : hasI xs p with
  | false => rfl
  | true =>
    obtain ⟨s, h1, h2⟩ := List.any_eq_true.1 hz
    have := of_decide_eq_true h2
    have := h.1 s h1
    omega
theorem has_next {xs : List Sp} {k : Nat} (hk : k < xs.length) (p : Int) (h : hasI (xs.take k) p = false) (hm : ¬ ((xs.getD k (0, 0)).1 ≤ p ∧ p < (xs.getD k (0, 0)).1 + (xs.getD k (0, 0)).2)) : hasI (xs.take (k + 1)) p = false := by
  rw [List.take_succ_eq_append_getElem hk, getD_cell hk]
  unfold hasI at h ⊢
  rw [List.any_append, h, List.any_cons, List.any_nil, decide_eq_false hm]
  rfl
theorem has_found {xs : List Sp} {k : Nat} (hk : k < xs.length) (p : Int) (hm : (xs.getD k (0, 0)).1 ≤ p ∧ p < (xs.getD k (0, 0)).1 + (xs.getD k (0, 0)).2) : hasI xs p = true := by
  unfold hasI
  rw [List.any_eq_true]
  exact ⟨xs[k], List.getElem_mem hk, by rw [getD_cell hk]; exact decide_eq_true hm⟩
theorem ok_at {xs : List Sp} (h : xs.all spOk = true) {k : Nat} (hk : k < xs.length) : 0 ≤ (xs.getD k (0, 0)).1 ∧ (xs.getD k (0, 0)).1 ≤ 20000 ∧ 0 ≤ (xs.getD k (0, 0)).2 ∧ (xs.getD k (0, 0)).2 ≤ 20000 - (xs.getD k (0, 0)).1 := by
  rw [List.all_eq_true] at h
  have := h xs[k] (List.getElem_mem hk)
  rw [getD_cell hk] at this
  exact of_decide_eq_true this
end Go.Proofs.Ytnlajfdgpdijjaa

/- The document's spans: Open, Shut. -/
namespace Go.Proofs.Ytnlajfdgpdijjaa
open Go.RowKit

theorem sGood_ok {xs : List Sp} (h : sGood xs) : xs.all spOk = true := by
  rw [List.all_eq_true]
  intro s hs
  have := h.1 s hs
  exact decide_eq_true (by omega)
/-- What is marked of the opened when the first k places are gone through. -/
def oUpTo (f : Nat → Bool) (a n k j : Nat) : Bool := if j < a then decide (j < k) && f j else if j < a + n then false else decide (j - n < k) && f (j - n)
theorem oUpTo_zero (f : Nat → Bool) (a n : Nat) : oUpTo f a n 0 = fun _ => false := by
  funext j
  unfold oUpTo
  rw [decide_eq_false (Nat.not_lt_zero j), decide_eq_false (Nat.not_lt_zero (j - n)), Bool.false_and, Bool.false_and]
  split
  · rfl
  · split <;> rfl
theorem lt_succ_and {f : Nat → Bool} {k : Nat} (hf : f k = false) (j : Nat) : (decide (j < k + 1) && f j) = (decide (j < k) && f j) := by
  by_cases e : j = k
  · subst e; rw [hf, Bool.and_false, Bool.and_false]
  · rw [show decide (j < k + 1) = decide (j < k) from decide_eq_decide.2 (by omega)]
theorem lt_succ_ne {k j : Nat} (e : j ≠ k) : decide (j < k + 1) = decide (j < k) := decide_eq_decide.2 (by omega)
theorem oUpTo_skip {f : Nat → Bool} (a n : Nat) {k : Nat} (hf : f k = false) : oUpTo f a n (k + 1) = oUpTo f a n k := by
  funext j
  unfold oUpTo
  rw [lt_succ_and hf, lt_succ_and hf]
theorem oUpTo_low {f : Nat → Bool} {a : Nat} (n : Nat) {k : Nat} (hf : f k = true) (hk : k < a) : (fun j => if j = k then true else oUpTo f a n k j) = oUpTo f a n (k + 1) := by
  funext j
  unfold oUpTo
  by_cases e : j = k
  · subst e
    rw [if_pos rfl, if_pos hk, hf, decide_eq_true (Nat.lt_succ_self j)]
    rfl
  · rw [if_neg e]
    by_cases g : j < a
    · rw [if_pos g, if_pos g, lt_succ_ne e]
    · rw [if_neg g, if_neg g]
      by_cases q : j < a + n
      · rw [if_pos q, if_pos q]
      · rw [if_neg q, if_neg q, lt_succ_ne (show j - n ≠ k by omega)]
theorem oUpTo_high {f : Nat → Bool} {a : Nat} (n : Nat) {k : Nat} (hf : f k = true) (hk : a ≤ k) : (fun j => if j = k + n then true else oUpTo f a n k j) = oUpTo f a n (k + 1) := by
  funext j
  unfold oUpTo
  by_cases e : j = k + n
  · subst e
    rw [if_pos rfl, if_neg (by omega), if_neg (by omega), Nat.add_sub_cancel, hf, decide_eq_true (Nat.lt_succ_self k)]
    rfl
  · rw [if_neg e]
    by_cases g : j < a
    · rw [if_pos g, if_pos g, lt_succ_ne (show j ≠ k by omega)]
    · rw [if_neg g, if_neg g]
      by_cases q : j < a + n
      · rw [if_pos q, if_pos q]
      · rw [if_neg q, if_neg q, lt_succ_ne (show j - n ≠ k by omega)]
theorem oUpTo_end (f : Nat → Bool) (a n : Nat) (j : Nat) (hj : j < 20000) : oUpTo f a n 20000 j = sOpenM f a n j := by
  unfold oUpTo sOpenM
  rw [decide_eq_true hj, decide_eq_true (show j - n < 20000 by omega), Bool.true_and, Bool.true_and]
/-- Does a place come to be above the greatest, told of all? -/
def fullB (f : Nat → Bool) (a n : Nat) : Bool := (List.range 20000).any fun i => decide (a ≤ i) && f i && decide (20000 ≤ i + n)
theorem fullB_iff (f : Nat → Bool) (a n : Nat) : fullB f a n = true ↔ sFull f a n := by
  unfold fullB sFull
  rw [List.any_eq_true]
  constructor
  · rintro ⟨i, h1, h2⟩
    rw [Bool.and_eq_true, Bool.and_eq_true, decide_eq_true_eq, decide_eq_true_eq] at h2
    exact ⟨i, h2.1.1, List.mem_range.1 h1, h2.1.2, h2.2⟩
  · rintro ⟨i, h1, h2, h3, h4⟩
    exact ⟨i, List.mem_range.2 h2, by rw [Bool.and_eq_true, Bool.and_eq_true, decide_eq_true_eq, decide_eq_true_eq]; exact ⟨⟨h1, h3⟩, h4⟩⟩
/-- Which error Open tells. -/
def spArgs (xs : List Sp) (p n : Int) : Bool := sMay xs && decide (0 ≤ p ∧ p ≤ 20000 ∧ 0 ≤ n)
def opC (xs : List Sp) (p n : Int) : Int := if spArgs xs p n then (if fullB (sMark xs) p.toNat n.toNat then 4 else 0) else 1
def opL (xs : List Sp) (p n : Int) : List Sp := sMade (sOpenM (sMark xs) p.toNat n.toNat) 20000
def OpenPost (xs : List Sp) (p n : Int) (w : World) (e : Ending) (w' : World) : Prop :=
  ∃ v, e = .returned (.tuple #[v, .int .i64 (opC xs p n)]) ∧ SpAt w' v (if opC xs p n = 0 then opL xs p n else []) ∧ Below w.heap.size w w'
theorem OpenPost.no {xs : List Sp} {p n : Int} {w w' : World} {c : Int} (h : opC xs p n = c) (hc : c ≠ 0) (hb : Below w.heap.size w w') : OpenPost xs p n w (.returned (.tuple #[.slice none 0 0, .int .i64 c])) w' :=
  ⟨_, by rw [h], by rw [h, if_neg hc]; exact SpAt.nil _, hb⟩
theorem OpenPost.yes {xs : List Sp} {p n : Int} {w w' : World} {v : Value} (h : opC xs p n = 0) (hv : SpAt w' v (opL xs p n)) (hb : Below w.heap.size w w') : OpenPost xs p n w (.returned (.tuple #[v, .int .i64 0])) w' :=
  ⟨_, by rw [h], by rw [h, if_pos rfl]; exact hv, hb⟩
theorem spArgs_no {xs : List Sp} {p n : Int} (h : ¬ (sMay xs = true ∧ 0 ≤ p ∧ p ≤ 20000 ∧ 0 ≤ n)) : spArgs xs p n = false := by
  cases hz : spArgs xs p n with
  | false => rfl
  | true =>
    obtain ⟨h1, h2⟩ := Bool.and_eq_true_iff.1 hz
    exact absurd ⟨h1, of_decide_eq_true h2⟩ h
end Go.Proofs.Ytnlajfdgpdijjaa

/- The document's spans: Two. -/
namespace Go.Proofs.Ytnlajfdgpdijjaa
open Go.RowKit

/-- Of two marks what is asked of both. -/
def twoB (wh : Nat) (x y : Bool) : Bool := if wh = 0 then x || y else if wh = 1 then x && y else x && !y
/-- What is marked when the first k places are gone through. -/
def tUpTo (f : Nat → Bool) (k j : Nat) : Bool := decide (j < k) && f j
theorem tUpTo_zero (f : Nat → Bool) : tUpTo f 0 = fun _ => false := by
  funext j
  unfold tUpTo
  rw [decide_eq_false (Nat.not_lt_zero j), Bool.false_and]
theorem tUpTo_next (f : Nat → Bool) (k : Nat) : (fun j => if j = k then f k else tUpTo f k j) = tUpTo f (k + 1) := by
  funext j
  unfold tUpTo
  by_cases e : j = k
  · subst e
    rw [if_pos rfl, decide_eq_true (Nat.lt_succ_self j), Bool.true_and]
  · rw [if_neg e, lt_succ_ne e]
theorem tUpTo_end (f : Nat → Bool) (j : Nat) (hj : j < 20000) : tUpTo f 20000 j = f j := by
  unfold tUpTo
  rw [decide_eq_true hj, Bool.true_and]
def twoL (wh : Nat) (xs ys : List Sp) : List Sp := sMade (fun j => twoB wh (sMark xs j) (sMark ys j)) 20000
end Go.Proofs.Ytnlajfdgpdijjaa

/- The edges of a list of spans, spans that are put behind a list, a walk along the edges of two: plain. -/
namespace Go.Proofs.Ytnlajfdgpdijjaa
open Go.RowKit

abbrev Edge := Int × Bool
/-- Where a span ends, as the program reckons it. -/
def spEnd (s : Sp) : Int := IntKind.i64.wrap (s.1 + s.2)
theorem spEnd_ok {s : Sp} (h1 : -100000 ≤ s.1 + s.2) (h2 : s.1 + s.2 ≤ 100000) : spEnd s = s.1 + s.2 := by
  unfold spEnd
  simp only [IntKind.wrap_i64]
  omega
def edL : List Sp → List Edge
  | [] => []
  | s :: r => (s.1, true) :: (spEnd s, false) :: edL r
theorem edL_append : ∀ a b, edL (a ++ b) = edL a ++ edL b
  | [], _ => rfl
  | s :: r, b => by show _ :: _ :: edL (r ++ b) = _; rw [edL_append r b]; rfl
theorem edL_length : ∀ xs, (edL xs).length = xs.length * 2
  | [] => rfl
  | s :: r => by
    show (edL r).length + 1 + 1 = (r.length + 1) * 2
    rw [edL_length r]; omega
theorem edL_take {xs : List Sp} {k : Nat} (hk : k < xs.length) : edL (xs.take (k + 1)) = edL (xs.take k) ++ [((xs.getD k (0, 0)).1, true), (spEnd (xs.getD k (0, 0)), false)] := by
  rw [List.take_succ_eq_append_getElem hk, edL_append, getD_cell hk]
  rfl
theorem edL_part (xs : List Sp) (k : Nat) : ∃ t, edL (xs.take k) ++ t = edL xs := ⟨edL (xs.drop k), by rw [← edL_append, List.take_append_drop]⟩

/-- Do edges go up, from behind a last one to 20,000? -/
def edOk (last : Int) : List Edge → Bool
  | [] => true
  | e :: r => decide (last < e.1 ∧ e.1 ≤ 20000) && edOk e.1 r
def edLast (last : Int) (l : List Edge) : Int := l.foldl (fun _ e => e.1) last
theorem edLast_snoc (last : Int) (l : List Edge) (e : Edge) : edLast last (l ++ [e]) = e.1 := by simp [edLast]
theorem edOk_append : ∀ (last : Int) (a b : List Edge), edOk last (a ++ b) = (edOk last a && edOk (edLast last a) b)
  | last, [], b => by simp [edOk, edLast]
  | last, e :: r, b => by
    show (decide _ && edOk e.1 (r ++ b)) = ((decide _ && edOk e.1 r) && edOk (edLast e.1 r) b)
    rw [edOk_append e.1 r b, Bool.and_assoc]
theorem edOk_snoc {last : Int} {a : List Edge} {e : Edge} (h : edOk last a = true) : edOk last (a ++ [e]) = decide (edLast last a < e.1 ∧ e.1 ≤ 20000) := by
  rw [edOk_append, h, Bool.true_and]
  simp [edOk]
theorem edOk_part {last : Int} {a b : List Edge} (h : edOk last (a ++ b) = true) : edOk last a = true := by
  rw [edOk_append, Bool.and_eq_true] at h
  exact h.1
theorem edOk_may : ∀ (xs : List Sp) (last : Int), -1 ≤ last → sWf xs → edOk last (edL xs) = sMayF last xs
  | [], _, _, _ => rfl
  | s :: r, last, h0, hw => by
    obtain ⟨w1, w2⟩ := hw s (List.mem_cons_self ..)
    have w1 := wf_i64 w1
    have w2 := wf_i64 w2
    show (decide (last < s.1 ∧ s.1 ≤ 20000) && (decide (s.1 < spEnd s ∧ spEnd s ≤ 20000) && edOk (spEnd s) (edL r))) = (decide (1 ≤ s.2 ∧ last < s.1 ∧ s.1 ≤ 20000 ∧ s.2 ≤ 20000 - s.1) && sMayF (s.1 + s.2) r)
    by_cases h1 : last < s.1 ∧ s.1 ≤ 20000
    · have hE : spEnd s = s.1 + s.2 ∨ (9223372036854775807 < s.1 + s.2 ∧ spEnd s < 0) := by
        unfold spEnd
        simp only [IntKind.wrap_i64]
        omega
      rw [decide_eq_true h1, Bool.true_and]
      by_cases h2 : s.1 < spEnd s ∧ spEnd s ≤ 20000
      · have e : spEnd s = s.1 + s.2 := by omega
        rw [decide_eq_true h2, decide_eq_true (show 1 ≤ s.2 ∧ last < s.1 ∧ s.1 ≤ 20000 ∧ s.2 ≤ 20000 - s.1 by omega), e]
        congr 1
        exact edOk_may r (s.1 + s.2) (by omega) (fun t ht => hw t (List.mem_cons_of_mem _ ht))
      · rw [decide_eq_false h2, decide_eq_false (show ¬ (1 ≤ s.2 ∧ last < s.1 ∧ s.1 ≤ 20000 ∧ s.2 ≤ 20000 - s.1) by omega)]
        rfl
    · rw [decide_eq_false h1, decide_eq_false (show ¬ (1 ≤ s.2 ∧ last < s.1 ∧ s.1 ≤ 20000 ∧ s.2 ≤ 20000 - s.1) by omega)]
      rfl
theorem edOk_sMay {xs : List Sp} (h : sWf xs) : edOk (-1) (edL xs) = sMay xs := edOk_may xs (-1) (Int.le_refl _) h
theorem sGood_tail {s : Sp} {r : List Sp} (h : sGood (s :: r)) : sGood r := ⟨fun a ha => h.1 a (List.mem_cons_of_mem _ ha), (List.pairwise_cons.1 h.2).2⟩
theorem sGood_end {xs : List Sp} (h : sGood xs) {s : Sp} (hs : s ∈ xs) : spEnd s = s.1 + s.2 := by
  have := h.1 s hs
  exact spEnd_ok (by omega) (by omega)
/-- Has a list a place, by the edges ahead, and whether it has them now? -/
def edIn (i : Int) : Bool → List Edge → Bool
  | b, [] => b
  | b, e :: r => if i < e.1 then b else edIn i e.2 r
def edNow (b : Bool) (l : List Edge) : Bool := l.foldl (fun _ e => e.2) b
theorem edNow_snoc (b : Bool) (l : List Edge) (e : Edge) : edNow b (l ++ [e]) = e.2 := by simp [edNow]
theorem edIn_part (i : Int) : ∀ (q r : List Edge) (b : Bool), (∀ e ∈ q, e.1 ≤ i) → edIn i b (q ++ r) = edIn i (edNow b q) r
  | [], r, b, _ => rfl
  | e :: q, r, b, h => by
    show (if i < e.1 then b else edIn i e.2 (q ++ r)) = edIn i (edNow e.2 q) r
    rw [if_neg (by have := h e (List.mem_cons_self ..); omega)]
    exact edIn_part i q r e.2 fun x hx => h x (List.mem_cons_of_mem _ hx)
theorem edIn_low {i : Int} {b : Bool} {l : List Edge} (h : ∀ e ∈ l.head?, i < e.1) : edIn i b l = b := by
  cases l with
  | nil => rfl
  | cons e r => exact if_pos (h e rfl)
theorem edIn_has (i : Int) : ∀ (xs : List Sp), sGood xs → edIn i false (edL xs) = hasI xs i
  | [], _ => rfl
  | s :: r, h => by
    have hs := h.1 s (List.mem_cons_self ..)
    have he := sGood_end h (List.mem_cons_self ..)
    obtain ⟨p1, p2⟩ := List.pairwise_cons.1 h.2
    show (if i < s.1 then false else if i < spEnd s then true else edIn i false (edL r)) = (decide (s.1 ≤ i ∧ i < s.1 + s.2) || hasI r i)
    rw [he]
    by_cases h1 : i < s.1
    · rw [if_pos h1, decide_eq_false (by omega), Bool.false_or]
      cases hz : hasI r i with
      | false => rfl
      | true =>
        obtain ⟨a, ha, h2⟩ := List.any_eq_true.1 hz
        have := of_decide_eq_true h2
        have := p1 a ha
        omega
    · rw [if_neg h1]
      by_cases h2 : i < s.1 + s.2
      · rw [if_pos h2, decide_eq_true (by omega), Bool.true_or]
      · rw [if_neg h2, decide_eq_false (by omega), Bool.false_or]
        exact edIn_has i r (sGood_tail h)
/-- How many places are below p, by edges. -/
def edSum (p : Int) : List Edge → Int
  | [] => 0
  | e :: r => (if e.2 then -(min e.1 p) else min e.1 p) + edSum p r
theorem edSum_append (p : Int) : ∀ a b, edSum p (a ++ b) = edSum p a + edSum p b
  | [], b => by simp [edSum]
  | e :: r, b => by
    show _ + edSum p (r ++ b) = _ + edSum p r + edSum p b
    rw [edSum_append p r b]
    omega
theorem edSum_snoc (p : Int) (a : List Edge) (e : Edge) : edSum p (a ++ [e]) = edSum p a + (if e.2 then -(min e.1 p) else min e.1 p) := by
  rw [edSum_append]
  simp [edSum]
theorem cntTo_or (f g : Nat → Bool) (h : ∀ i, f i = true → g i = false) : ∀ k, cntTo (fun i => f i || g i) k = cntTo f k + cntTo g k
  | 0 => rfl
  | k + 1 => by
    have := cntTo_or f g h k
    show cntTo (fun i => f i || g i) k + _ = cntTo f k + _ + (cntTo g k + _)
    have hk := h k
    cases hf : f k <;> cases hg : g k <;> simp [hf, hg] at hk ⊢ <;> omega
theorem cntTo_sp (s : Sp) (h0 : 0 ≤ s.1) (h1 : 0 ≤ s.2) : ∀ k : Nat, (cntTo (spHas s) k : Int) = min (s.1 + s.2) k - min s.1 k
  | 0 => by show ((0 : Nat) : Int) = _; omega
  | k + 1 => by
    have ih := cntTo_sp s h0 h1 k
    rw [cntTo_next]
    cases hf : spHas s k with
    | true =>
      have := of_decide_eq_true hf
      simp
      omega
    | false =>
      have := of_decide_eq_false hf
      simp
      omega
theorem edSum_cnt (k : Nat) : ∀ (xs : List Sp), sGood xs → edSum k (edL xs) = cntTo (sMark xs) k
  | [], _ => by
    show (0 : Int) = _
    rw [show cntTo (sMark []) k = cntTo (fun _ => false) k from rfl]
    have := cntTo_none (f := fun _ => false) (k := 0) (n := k) fun _ _ _ => rfl
    rw [Nat.zero_add] at this
    rw [this]
    rfl
  | s :: r, h => by
    have hs := h.1 s (List.mem_cons_self ..)
    have he := sGood_end h (List.mem_cons_self ..)
    obtain ⟨p1, p2⟩ := List.pairwise_cons.1 h.2
    have e1 : cntTo (sMark (s :: r)) k = cntTo (spHas s) k + cntTo (sMark r) k := by
      rw [← cntTo_or]
      · rfl
      · intro i hi
        have hi := of_decide_eq_true hi
        cases hz : sMark r i with
        | false => rfl
        | true =>
          obtain ⟨a, ha, _, _⟩ := (sMark_iff r i).1 hz
          have := p1 a ha
          omega
    have e2 := cntTo_sp s hs.2.1 (by omega) k
    have ih := edSum_cnt k r (sGood_tail h)
    rw [e1]
    show -(min s.1 (k : Int)) + (min (spEnd s) (k : Int) + edSum k (edL r)) = _
    rw [he, ih]
    omega
theorem edSum_low (p : Int) : ∀ (xs : List Sp), sGood xs → p ≤ 0 → edSum p (edL xs) = 0
  | [], _, _ => rfl
  | s :: r, h, hp => by
    have hs := h.1 s (List.mem_cons_self ..)
    have he := sGood_end h (List.mem_cons_self ..)
    show -(min s.1 p) + (min (spEnd s) p + edSum p (edL r)) = _
    rw [he, edSum_low p r (sGood_tail h) hp]
    omega
theorem edSum_high (p : Int) : ∀ (xs : List Sp), sGood xs → 20000 ≤ p → edSum p (edL xs) = edSum 20000 (edL xs)
  | [], _, _ => rfl
  | s :: r, h, hp => by
    have hs := h.1 s (List.mem_cons_self ..)
    have he := sGood_end h (List.mem_cons_self ..)
    show -(min s.1 p) + (min (spEnd s) p + edSum p (edL r)) = -(min s.1 20000) + (min (spEnd s) 20000 + edSum 20000 (edL r))
    rw [he, edSum_high p r (sGood_tail h) hp]
    omega
theorem edSum_all {xs : List Sp} (h : sGood xs) (p : Int) : edSum p (edL xs) = (cntTo (sMark xs) (min 20000 p.toNat) : Nat) := by
  rw [← edSum_cnt _ xs h]
  rcases (show p < 0 ∨ 0 ≤ p by omega) with g | g
  · rw [edSum_low p xs h (by omega), show min 20000 p.toNat = 0 by omega]
    exact (edSum_low 0 xs h (Int.le_refl _)).symm
  · rcases (show p < 20000 ∨ 20000 ≤ p by omega) with k | k
    · congr 1; omega
    · rw [edSum_high p xs h k, show min 20000 p.toNat = 20000 by omega]
      rfl
/-- What lies from a to b put behind a list. -/
def putL (l : List Sp) (a b : Int) : List Sp :=
  if a = b then l else match l.getLast? with
    | none => [(a, b - a)]
    | some s => if a ≤ s.1 + s.2 then l.dropLast ++ [(s.1, max (s.1 + s.2) b - s.1)] else l ++ [(a, b - a)]
theorem putL_same (l : List Sp) (a : Int) : putL l a a = l := if_pos rfl
theorem putL_nil {a b : Int} (h : a ≠ b) : putL [] a b = [(a, b - a)] := by unfold putL; rw [if_neg h]; rfl
theorem putL_touch {r : List Sp} {s : Sp} {a b : Int} (h : a ≠ b) (h1 : a ≤ s.1 + s.2) : putL (r ++ [s]) a b = r ++ [(s.1, max (s.1 + s.2) b - s.1)] := by
  unfold putL
  rw [if_neg h]
  simp [h1]
theorem putL_new {r : List Sp} {s : Sp} {a b : Int} (h : a ≠ b) (h1 : ¬ a ≤ s.1 + s.2) : putL (r ++ [s]) a b = (r ++ [s]) ++ [(a, b - a)] := by
  unfold putL
  rw [if_neg h]
  simp [h1]
theorem putL_length (l : List Sp) (a b : Int) : (putL l a b).length ≤ l.length + 1 := by
  unfold putL
  split
  · omega
  · split
    · simp
    · rename_i s hs
      split
      · simp
      · simp
theorem list_end {l : List Sp} (h : l ≠ []) : ∃ r s, l = r ++ [s] := ⟨l.dropLast, l.getLast h, (List.dropLast_concat_getLast h).symm⟩
/-- A list behind which one may be put from a on. -/
structure PutOK (l : List Sp) (a : Int) : Prop where
  good : sGood l
  beg : ∀ s ∈ l, s.1 ≤ a
theorem PutOK.nil (a : Int) : PutOK [] a := ⟨⟨fun s hs => (by cases hs), List.Pairwise.nil⟩, fun s hs => (by cases hs)⟩
theorem PutOK.mono {l : List Sp} {a b : Int} (h : PutOK l a) (hab : a ≤ b) : PutOK l b := ⟨h.good, fun s hs => Int.le_trans (h.beg s hs) hab⟩
theorem putL_ok {l : List Sp} {a b : Int} (h : PutOK l a) (h0 : 0 ≤ a) (h1 : a ≤ b) (h2 : b ≤ 20000) :
    PutOK (putL l a b) a ∧ ∀ i : Nat, sMark (putL l a b) i = (sMark l i || decide (a ≤ (i : Int) ∧ (i : Int) < b)) := by
  by_cases hab : a = b
  · subst hab
    rw [putL_same]
    exact ⟨h, fun i => by rw [decide_eq_false (by omega), Bool.or_false]⟩
  · by_cases hl : l = []
    · subst hl
      rw [putL_nil hab]
      refine ⟨⟨⟨fun s hs => ?_, by simp⟩, fun s hs => ?_⟩, fun i => ?_⟩
      · simp at hs; subst hs; dsimp only; omega
      · simp at hs; subst hs; dsimp only; omega
      · simp only [sMark, spHas, List.any_cons, List.any_nil, Bool.or_false, Bool.false_or]
        exact decide_eq_decide.2 (by omega)
    · obtain ⟨r, s, rfl⟩ := list_end hl
      have hs := h.good.1 s (by simp)
      have hb := h.beg s (by simp)
      obtain ⟨g1, g2, g3⟩ := List.pairwise_append.1 h.good.2
      by_cases ht : a ≤ s.1 + s.2
      · rw [putL_touch hab ht]
        refine ⟨⟨⟨fun t hT => ?_, List.pairwise_append.2 ⟨g1, by simp, fun x hx y hy => ?_⟩⟩, fun t hT => ?_⟩, fun i => ?_⟩
        · rcases List.mem_append.1 hT with hT | hT
          · exact h.good.1 t (List.mem_append_left _ hT)
          · simp at hT; subst hT; dsimp only; omega
        · simp at hy; subst hy
          have := g3 x hx s (by simp)
          exact this
        · rcases List.mem_append.1 hT with hT | hT
          · exact h.beg t (List.mem_append_left _ hT)
          · simp at hT; subst hT; exact hb
        · rw [sMark_append, sMark_append, Bool.or_assoc]
          congr 1
          simp only [sMark, spHas, List.any_cons, List.any_nil, Bool.or_false]
          rw [← Bool.decide_or]
          exact decide_eq_decide.2 (by omega)
      · rw [putL_new hab ht]
        refine ⟨⟨⟨fun t hT => ?_, List.pairwise_append.2 ⟨h.good.2, by simp, fun x hx y hy => ?_⟩⟩, fun t hT => ?_⟩, fun i => ?_⟩
        · rcases List.mem_append.1 hT with hT | hT
          · exact h.good.1 t hT
          · simp at hT; subst hT; dsimp only; omega
        · simp at hy; subst hy
          show x.1 + x.2 < a
          rcases List.mem_append.1 hx with hx | hx
          · have := g3 x hx s (by simp)
            omega
          · simp at hx; subst hx; omega
        · rcases List.mem_append.1 hT with hT | hT
          · exact h.beg t hT
          · simp at hT; subst hT; exact Int.le_refl _
        · rw [sMark_append]
          congr 1
          simp only [sMark, spHas, List.any_cons, List.any_nil, Bool.or_false]
          exact decide_eq_decide.2 (by omega)
/-- Spans laid behind a list, each moved by n. -/
def layL (l ys : List Sp) (n : Int) : List Sp := ys.foldl (fun l s => putL l (s.1 + n) (s.1 + s.2 + n)) l
theorem layL_snoc (l ys : List Sp) (s : Sp) (n : Int) : layL l (ys ++ [s]) n = putL (layL l ys n) (s.1 + n) (s.1 + s.2 + n) := by simp [layL]
theorem layL_length (n : Int) : ∀ (ys l : List Sp), (layL l ys n).length ≤ l.length + ys.length
  | [], l => by simp [layL]
  | s :: r, l => by
    have := layL_length n r (putL l (s.1 + n) (s.1 + s.2 + n))
    have := putL_length l (s.1 + n) (s.1 + s.2 + n)
    show (layL (putL l (s.1 + n) (s.1 + s.2 + n)) r n).length ≤ _
    simp
    omega
theorem layL_ok (n : Int) : ∀ (ys l : List Sp) (a : Int), PutOK l a → (∀ s ∈ ys, a ≤ s.1 + n ∧ 0 ≤ s.1 + n ∧ 0 ≤ s.2 ∧ s.1 + s.2 + n ≤ 20000) → ys.Pairwise (fun s t => s.1 ≤ t.1) →
    sGood (layL l ys n) ∧ ∀ i : Nat, sMark (layL l ys n) i = (sMark l i || hasI ys ((i : Int) - n))
  | [], l, a, h, _, _ => ⟨h.good, fun i => by simp [layL, hasI]⟩
  | s :: r, l, a, h, hb, hp => by
    obtain ⟨p1, p2⟩ := List.pairwise_cons.1 hp
    have hs := hb s (List.mem_cons_self ..)
    obtain ⟨q1, q2⟩ := putL_ok (h.mono hs.1) hs.2.1 (show s.1 + n ≤ s.1 + s.2 + n by omega) hs.2.2.2
    obtain ⟨r1, r2⟩ := layL_ok n r _ (s.1 + n) q1 (fun t ht => by have := hb t (List.mem_cons_of_mem _ ht); have := p1 t ht; omega) p2
    refine ⟨r1, fun i => ?_⟩
    show sMark (layL _ r n) i = _
    rw [r2, q2, Bool.or_assoc]
    congr 1
    show _ = (decide _ || hasI r _)
    congr 1
    exact decide_eq_decide.2 (by omega)
/-- Where the next edge is. -/
def edNext : List Edge → Int
  | [] => 20001
  | e :: _ => e.1
/-- Passed, if it is there. -/
def edPass (at' : Int) (i : Bool) : List Edge → Bool
  | [] => i
  | e :: _ => if e.1 = at' then e.2 else i
def edRest (at' : Int) : List Edge → List Edge
  | [] => []
  | e :: r => if e.1 = at' then r else e :: r
/-- One side of a walk that has come to a place. -/
structure SideOK (A : Int → Bool) (r : List Edge) (b : Bool) (k : Int) : Prop where
  up : r.Pairwise fun x y => x.1 ≤ y.1
  bnd : ∀ e ∈ r, k ≤ e.1 ∧ e.1 ≤ 20000
  now : ∀ i, k ≤ i → A i = edIn i b r
theorem edNext_le {A : Int → Bool} {r : List Edge} {b : Bool} {k : Int} (h : SideOK A r b k) (hk : k ≤ 20000) : k ≤ edNext r := by
  cases r with
  | nil => show k ≤ 20001; omega
  | cons e r => exact (h.bnd e (List.mem_cons_self ..)).1
theorem edNext_some {A : Int → Bool} {r : List Edge} {b : Bool} {k : Int} (h : SideOK A r b k) (hr : r ≠ []) : edNext r ≤ 20000 := by
  cases r with
  | nil => exact absurd rfl hr
  | cons e r => exact (h.bnd e (List.mem_cons_self ..)).2
theorem SideOK.here {A : Int → Bool} {r : List Edge} {b : Bool} {k i : Int} (h : SideOK A r b k) (h1 : k ≤ i) (h2 : i < edNext r) : A i = b := by
  rw [h.now i h1]
  cases r with
  | nil => rfl
  | cons e r => exact if_pos h2
theorem SideOK.pass {A : Int → Bool} {r : List Edge} {b : Bool} {k p : Int} (h : SideOK A r b k) (h1 : k ≤ p) (h2 : p ≤ edNext r) : SideOK A (edRest p r) (edPass p b r) p := by
  cases r with
  | nil => exact ⟨List.Pairwise.nil, fun e he => (by cases he), fun i hi => h.now i (by omega)⟩
  | cons e r =>
    obtain ⟨p1, p2⟩ := List.pairwise_cons.1 h.up
    have he := h.bnd e (List.mem_cons_self ..)
    have h2 : p ≤ e.1 := h2
    by_cases g : e.1 = p
    · have e1 : edRest p (e :: r) = r := if_pos g
      have e2 : edPass p b (e :: r) = e.2 := if_pos g
      rw [e1, e2]
      refine ⟨p2, fun x hx => ⟨by have := p1 x hx; omega, (h.bnd x (List.mem_cons_of_mem _ hx)).2⟩, fun i hi => ?_⟩
      rw [h.now i (by omega)]
      exact if_neg (by omega)
    · have e1 : edRest p (e :: r) = e :: r := if_neg g
      have e2 : edPass p b (e :: r) = b := if_neg g
      rw [e1, e2]
      refine ⟨h.up, fun x hx => ⟨?_, (h.bnd x hx).2⟩, fun i hi => h.now i (by omega)⟩
      rcases List.mem_cons.1 hx with rfl | hx
      · omega
      · have := p1 x hx; omega
theorem edRest_length (p : Int) (r : List Edge) : (edRest p r).length ≤ r.length ∧ (edNext r = p → p ≤ 20000 → (edRest p r).length < r.length) := by
  cases r with
  | nil =>
    refine ⟨Nat.le_refl _, fun h h' => ?_⟩
    have h : (20001 : Int) = p := h
    omega
  | cons e r =>
    by_cases g : e.1 = p
    · have e1 : edRest p (e :: r) = r := if_pos g
      rw [e1]
      exact ⟨by simp, fun _ _ => by simp⟩
    · have e1 : edRest p (e :: r) = e :: r := if_neg g
      rw [e1]
      exact ⟨Nat.le_refl _, fun h => absurd h g⟩
theorem edRest_drop (p : Int) (r : List Edge) : edRest p r = r ∨ edRest p r = r.drop 1 := by
  cases r with
  | nil => exact .inl rfl
  | cons e r =>
    by_cases g : e.1 = p
    · exact .inr (if_pos g)
    · exact .inl (if_neg g)
theorem SideOK.start {xs : List Sp} (h : sGood xs) : SideOK (hasI xs) (edL xs) false 0 := by
  refine ⟨?_, ?_, fun i _ => (edIn_has i xs h).symm⟩
  · induction xs with
    | nil => exact List.Pairwise.nil
    | cons s r ih =>
      have hs := h.1 s (List.mem_cons_self ..)
      have he := sGood_end h (List.mem_cons_self ..)
      obtain ⟨p1, p2⟩ := List.pairwise_cons.1 h.2
      have low : ∀ e ∈ edL r, s.1 + s.2 ≤ e.1 := by
        intro e he'
        have hr := sGood_tail h
        clear ih h
        induction r with
        | nil => cases he'
        | cons t r ih =>
          have ht := hr.1 t (List.mem_cons_self ..)
          have hte := sGood_end hr (List.mem_cons_self ..)
          have hp := p1 t (List.mem_cons_self ..)
          rcases List.mem_cons.1 he' with rfl | he'
          · dsimp only; omega
          · rcases List.mem_cons.1 he' with rfl | he'
            · dsimp only; omega
            · exact ih (fun a ha => p1 a (List.mem_cons_of_mem _ ha)) (List.pairwise_cons.1 p2).2 he' (sGood_tail hr)
      refine List.pairwise_cons.2 ⟨fun e he' => ?_, List.pairwise_cons.2 ⟨fun e he' => ?_, ih (sGood_tail h)⟩⟩
      · rcases List.mem_cons.1 he' with rfl | he'
        · dsimp only; omega
        · have := low e he'; dsimp only; omega
      · have := low e he'; dsimp only; omega
  · intro e he
    induction xs with
    | nil => cases he
    | cons s r ih =>
      have hs := h.1 s (List.mem_cons_self ..)
      have hse := sGood_end h (List.mem_cons_self ..)
      rcases List.mem_cons.1 he with rfl | he
      · dsimp only; omega
      · rcases List.mem_cons.1 he with rfl | he
        · dsimp only; omega
        · exact ih (sGood_tail h) he
/-- A walk along two sides that has come to a place. -/
structure WalkOK (f : Bool → Bool → Bool) (A B : Int → Bool) (ra : List Edge) (ia : Bool) (rb : List Edge) (ib : Bool) (k : Int) (l : List Sp) : Prop where
  low : 0 ≤ k
  high : k ≤ 20000
  a : SideOK A ra ia k
  b : SideOK B rb ib k
  put : PutOK l k
  mark : ∀ i : Nat, sMark l i = (decide ((i : Int) < k) && f (A i) (B i))
theorem WalkOK.step {f : Bool → Bool → Bool} {A B : Int → Bool} {ra rb : List Edge} {ia ib : Bool} {k : Int} {l : List Sp} (h : WalkOK f A B ra ia rb ib k l) (hn : ¬ (ra = [] ∧ rb = [])) (p : Int) (hp : p = min (edNext ra) (edNext rb)) :
    k ≤ p ∧ p ≤ 20000 ∧ WalkOK f A B (edRest p ra) (edPass p ia ra) (edRest p rb) (edPass p ib rb) p (if f ia ib then putL l k p else l) ∧ (edRest p ra).length + (edRest p rb).length < ra.length + rb.length := by
  have a1 := edNext_le h.a h.high
  have b1 := edNext_le h.b h.high
  have hp2 : p ≤ 20000 := by
    by_cases g : ra = []
    · have := edNext_some h.b (fun e => hn ⟨g, e⟩)
      omega
    · have := edNext_some h.a g
      omega
  have hkp : k ≤ p := by omega
  have pa := h.a.pass hkp (show p ≤ edNext ra by omega)
  have pb := h.b.pass hkp (show p ≤ edNext rb by omega)
  have la := edRest_length p ra
  have lb := edRest_length p rb
  refine ⟨hkp, hp2, ?_, ?_⟩
  · have hm : ∀ i : Nat, k ≤ (i : Int) → (i : Int) < p → f (A i) (B i) = f ia ib := fun i h1 h2 => by rw [h.a.here h1 (by omega), h.b.here h1 (by omega)]
    by_cases hf : f ia ib = true
    · rw [if_pos hf]
      obtain ⟨q1, q2⟩ := putL_ok h.put h.low hkp hp2
      refine ⟨by have := h.low; omega, hp2, pa, pb, q1.mono hkp, fun i => ?_⟩
      rw [q2, h.mark]
      by_cases g : (i : Int) < k
      · rw [decide_eq_true g, decide_eq_true (show (i : Int) < p by omega), decide_eq_false (by omega), Bool.or_false]
      · by_cases g2 : (i : Int) < p
        · rw [decide_eq_false g, decide_eq_true g2, decide_eq_true (by omega), hm i (by omega) g2, hf]
          rfl
        · rw [decide_eq_false g, decide_eq_false g2, decide_eq_false (by omega)]
          rfl
    · rw [if_neg hf]
      refine ⟨by have := h.low; omega, hp2, pa, pb, h.put.mono hkp, fun i => ?_⟩
      rw [h.mark]
      by_cases g : (i : Int) < k
      · rw [decide_eq_true g, decide_eq_true (show (i : Int) < p by omega)]
      · by_cases g2 : (i : Int) < p
        · rw [decide_eq_false g, decide_eq_true g2, hm i (by omega) g2]
          simp at hf
          rw [hf]
          rfl
        · rw [decide_eq_false g, decide_eq_false g2]
  · have q : edNext ra = p ∨ edNext rb = p := by omega
    rcases q with q | q
    · have := la.2 q hp2; omega
    · have := lb.2 q hp2; omega
theorem WalkOK.start {f : Bool → Bool → Bool} {xs ys : List Sp} (hx : sGood xs) (hy : sGood ys) : WalkOK f (hasI xs) (hasI ys) (edL xs) false (edL ys) false 0 [] :=
  ⟨Int.le_refl _, by omega, SideOK.start hx, SideOK.start hy, PutOK.nil 0, fun i => by rw [decide_eq_false (by omega)]; rfl⟩
theorem WalkOK.done {f : Bool → Bool → Bool} (h0 : f false false = false) {xs ys : List Sp} (hx : sGood xs) (hy : sGood ys) {ia ib : Bool} {k : Int} {l : List Sp} (h : WalkOK f (hasI xs) (hasI ys) [] ia [] ib k l) :
    l = sMade (fun j => f (sMark xs j) (sMark ys j)) 20000 := by
  have z : ∀ {zs : List Sp} {b : Bool}, sGood zs → SideOK (hasI zs) [] b k → b = false := by
    intro zs b hz hs
    have e1 := hs.now ((max k 20000).toNat : Nat) (by omega)
    rw [hasI_nat, sMark_beyond hz (by omega)] at e1
    exact e1.symm
  obtain rfl := z hx h.a
  obtain rfl := z hy h.b
  rw [← sMade_self h.put.good]
  refine sMade_congr fun i _ => ?_
  rw [h.mark]
  by_cases g : (i : Int) < k
  · rw [decide_eq_true g]; rfl
  · have e1 := h.a.now i (by omega)
    have e2 := h.b.now i (by omega)
    rw [decide_eq_false g]
    show false = f (hasI xs i) (hasI ys i)
    rw [e1, e2]
    exact h0.symm
end Go.Proofs.Ytnlajfdgpdijjaa
