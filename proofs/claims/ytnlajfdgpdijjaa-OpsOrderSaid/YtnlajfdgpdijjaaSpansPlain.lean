/- Sets of places as runs. Nothing of a program's own text. -/
import Derived.Lib.Hide
namespace Go.Proofs.Ytnlajfdgpdijjaa

/-- A span: where it begins, and how many places it has. Has it a place? -/
abbrev Sp := Int × Int
def spHas (s : Sp) (i : Nat) : Bool := decide (s.1 ≤ (i : Int) ∧ (i : Int) < s.1 + s.2)
/-- Has one of some a place? -/
def sMark (l : List Sp) (i : Nat) : Bool := l.any fun s => spHas s i
/-- Are all places of a span places? -/
def spOk (s : Sp) : Bool := decide (0 ≤ s.1 ∧ s.1 ≤ 20000 ∧ 0 ≤ s.2 ∧ s.2 ≤ 20000 - s.1)
/-- May a list be? -/
def sMayF (last : Int) : List Sp → Bool
  | [] => true
  | s :: r => decide (1 ≤ s.2 ∧ last < s.1 ∧ s.1 ≤ 20000 ∧ s.2 ≤ 20000 - s.1) && sMayF (s.1 + s.2) r
def sMay (l : List Sp) : Bool := sMayF (-1) l
/-- The same, said of all two. -/
def sGood (l : List Sp) : Prop := (∀ s ∈ l, 1 ≤ s.2 ∧ 0 ≤ s.1 ∧ s.1 + s.2 ≤ 20000) ∧ l.Pairwise fun a b => a.1 + a.2 < b.1
theorem sMayF_good (last : Int) (h0 : -1 ≤ last) : ∀ l, sMayF last l = true ↔ sGood l ∧ ∀ s ∈ l, last < s.1
  | [] => by simp [sMayF, sGood]
  | s :: r => by
    unfold sMayF
    rw [Bool.and_eq_true, decide_eq_true_eq]
    constructor
    · rintro ⟨h1, h2⟩
      obtain ⟨⟨g1, g2⟩, g3⟩ := (sMayF_good (s.1 + s.2) (by omega) r).1 h2
      refine ⟨⟨fun t ht => ?_, List.pairwise_cons.2 ⟨g3, g2⟩⟩, fun t ht => ?_⟩
      · rcases List.mem_cons.1 ht with rfl | ht
        · omega
        · exact g1 t ht
      · rcases List.mem_cons.1 ht with rfl | ht
        · omega
        · have := g3 t ht
          omega
    · rintro ⟨⟨g1, g2⟩, g3⟩
      have hs := g1 s (List.mem_cons_self ..)
      have hl := g3 s (List.mem_cons_self ..)
      obtain ⟨p1, p2⟩ := List.pairwise_cons.1 g2
      exact ⟨by omega, (sMayF_good (s.1 + s.2) (by omega) r).2 ⟨⟨fun t ht => g1 t (List.mem_cons_of_mem _ ht), p2⟩, p1⟩⟩
theorem sMay_good (l : List Sp) : sMay l = true ↔ sGood l := by
  unfold sMay
  rw [sMayF_good (-1) (by omega) l]
  exact ⟨fun h => h.1, fun h => ⟨h, fun s hs => by have := h.1 s hs; omega⟩⟩
theorem sMark_cons (s : Sp) (l : List Sp) (i : Nat) : sMark (s :: l) i = (spHas s i || sMark l i) := by simp [sMark]
theorem sMark_append (l m : List Sp) (i : Nat) : sMark (l ++ m) i = (sMark l i || sMark m i) := by simp [sMark]
theorem sMark_iff (l : List Sp) (i : Nat) : sMark l i = true ↔ ∃ s ∈ l, s.1 ≤ (i : Int) ∧ (i : Int) < s.1 + s.2 := by
  unfold sMark spHas
  rw [List.any_eq_true]
  constructor
  · rintro ⟨s, h1, h2⟩
    exact ⟨s, h1, of_decide_eq_true h2⟩
  · rintro ⟨s, h1, h2⟩
    exact ⟨s, h1, decide_eq_true h2⟩
/-- Two lists that may be, of the same places, are one. -/
theorem sGood_unique : ∀ (l m : List Sp), sGood l → sGood m → (∀ i : Nat, sMark l i = sMark m i) → l = m
  | [], [], _, _, _ => rfl
  | [], t :: m, _, hm, h => by
    have ht := hm.1 t (List.mem_cons_self ..)
    have := h t.1.toNat
    rw [show sMark (t :: m) t.1.toNat = true from (sMark_iff _ _).2 ⟨t, List.mem_cons_self .., by omega, by omega⟩] at this
    simp [sMark] at this
  | s :: l, [], hl, _, h => by
    have hs := hl.1 s (List.mem_cons_self ..)
    have := h s.1.toNat
    rw [show sMark (s :: l) s.1.toNat = true from (sMark_iff _ _).2 ⟨s, List.mem_cons_self .., by omega, by omega⟩] at this
    simp [sMark] at this
  | s :: l, t :: m, hl, hm, h => by
    have hs := hl.1 s (List.mem_cons_self ..)
    have ht := hm.1 t (List.mem_cons_self ..)
    obtain ⟨pl, ql⟩ := List.pairwise_cons.1 hl.2
    obtain ⟨pm, qm⟩ := List.pairwise_cons.1 hm.2
    -- the first places
    have e1 : s.1 = t.1 := by
      obtain ⟨a, ha, h1, h2⟩ := (sMark_iff (t :: m) s.1.toNat).1 (by rw [← h]; exact (sMark_iff _ _).2 ⟨s, List.mem_cons_self .., by omega, by omega⟩)
      obtain ⟨b, hb, h3, h4⟩ := (sMark_iff (s :: l) t.1.toNat).1 (by rw [h]; exact (sMark_iff _ _).2 ⟨t, List.mem_cons_self .., by omega, by omega⟩)
      have k1 : t.1 ≤ a.1 := by
        rcases List.mem_cons.1 ha with rfl | ha
        · omega
        · have := pm a ha; omega
      have k2 : s.1 ≤ b.1 := by
        rcases List.mem_cons.1 hb with rfl | hb
        · omega
        · have := pl b hb; omega
      omega
    have e2 : s.2 = t.2 := by
      rcases Int.lt_trichotomy s.2 t.2 with g | g | g
      · exfalso
        obtain ⟨a, ha, h1, h2⟩ := (sMark_iff (s :: l) (s.1 + s.2).toNat).1 (by rw [h]; exact (sMark_iff _ _).2 ⟨t, List.mem_cons_self .., by omega, by omega⟩)
        rcases List.mem_cons.1 ha with rfl | ha
        · omega
        · have := pl a ha; omega
      · exact g
      · exfalso
        obtain ⟨a, ha, h1, h2⟩ := (sMark_iff (t :: m) (t.1 + t.2).toNat).1 (by rw [← h]; exact (sMark_iff _ _).2 ⟨s, List.mem_cons_self .., by omega, by omega⟩)
        rcases List.mem_cons.1 ha with rfl | ha
        · omega
        · have := pm a ha; omega
    have e : s = t := Prod.ext e1 e2
    subst e
    congr 1
    refine sGood_unique l m ⟨fun a ha => hl.1 a (List.mem_cons_of_mem _ ha), ql⟩ ⟨fun a ha => hm.1 a (List.mem_cons_of_mem _ ha), qm⟩ fun i => ?_
    have := h i
    rw [sMark_cons, sMark_cons] at this
    cases hi : spHas s i with
    | false => rw [hi, Bool.false_or, Bool.false_or] at this; exact this
    | true =>
      have hi := of_decide_eq_true hi
      have z1 : sMark l i = false := by
        cases hz : sMark l i with
        | false => rfl
        | true =>
          obtain ⟨a, ha, h1, h2⟩ := (sMark_iff l i).1 hz
          have := pl a ha; omega
      have z2 : sMark m i = false := by
        cases hz : sMark m i with
        | false => rfl
        | true =>
          obtain ⟨a, ha, h1, h2⟩ := (sMark_iff m i).1 hz
          have := pm a ha; omega
      rw [z1, z2]
/-- Of the first k places the runs of those that are marked, the last one first. -/
def sRun (f : Nat → Bool) : Nat → List Sp
  | 0 => []
  | k + 1 => if f k then (match sRun f k with
      | [] => [((k : Int), 1)]
      | s :: r => if s.1 + s.2 = k then (s.1, s.2 + 1) :: r else ((k : Int), 1) :: s :: r) else sRun f k
def sMade (f : Nat → Bool) (k : Nat) : List Sp := (sRun f k).reverse
/-- What a stack of runs is. -/
def sStk (f : Nat → Bool) (k : Nat) (l : List Sp) : Prop :=
  (∀ s ∈ l, 1 ≤ s.2 ∧ 0 ≤ s.1 ∧ s.1 + s.2 ≤ k) ∧ (l.Pairwise fun a b => b.1 + b.2 < a.1) ∧ ∀ i : Nat, sMark l i = (decide (i < k) && f i)
theorem sRun_stk (f : Nat → Bool) : ∀ k, sStk f k (sRun f k)
  | 0 => ⟨by simp [sRun], by simp [sRun], by simp [sRun, sMark]⟩
  | k + 1 => by
    obtain ⟨h1, h2, h3⟩ := sRun_stk f k
    unfold sRun
    cases hf : f k with
    | false =>
      refine ⟨fun s hs => ?_, h2, fun i => ?_⟩
      · have := h1 s hs; omega
      · rw [if_neg (by simp), h3]
        by_cases e : i = k
        · subst e; simp [hf]
        · rw [show decide (i < k + 1) = decide (i < k) from decide_eq_decide.2 (by omega)]
    | true =>
      rw [if_pos rfl]
      cases hr : sRun f k with
      | nil =>
        rw [hr] at h3
        refine ⟨fun s hs => ?_, by simp, fun i => ?_⟩
        · simp at hs; subst hs; simp
        · have := h3 i
          simp only [sMark, List.any_nil] at this
          simp only [sMark, List.any_cons, List.any_nil, Bool.or_false, spHas]
          by_cases e : i = k
          · subst e; simp [hf]; omega
          · rw [show decide (i < k + 1) = decide (i < k) from decide_eq_decide.2 (by omega), ← this]
            exact decide_eq_false (by omega)
      | cons s r =>
        rw [hr] at h1 h2 h3
        have hs := h1 s (List.mem_cons_self ..)
        obtain ⟨p1, p2⟩ := List.pairwise_cons.1 h2
        dsimp only
        by_cases e : s.1 + s.2 = k
        · rw [if_pos e]
          refine ⟨fun t ht => ?_, List.pairwise_cons.2 ⟨p1, p2⟩, fun i => ?_⟩
          · rcases List.mem_cons.1 ht with rfl | ht
            · dsimp only; omega
            · have := h1 t (List.mem_cons_of_mem _ ht); omega
          · have := h3 i
            rw [sMark_cons] at this ⊢
            by_cases g : i = k
            · subst g
              rw [show spHas (s.1, s.2 + 1) i = true from decide_eq_true (by dsimp only; omega)]
              simp [hf]
            · rw [show decide (i < k + 1) = decide (i < k) from decide_eq_decide.2 (by omega), ← this]
              congr 1
              exact decide_eq_decide.2 (by dsimp only; omega)
        · rw [if_neg e]
          refine ⟨fun t ht => ?_, List.pairwise_cons.2 ⟨fun t ht => ?_, h2⟩, fun i => ?_⟩
          · rcases List.mem_cons.1 ht with rfl | ht
            · dsimp only; omega
            · have := h1 t ht; omega
          · rcases List.mem_cons.1 ht with rfl | ht
            · dsimp only; omega
            · have := p1 t ht; dsimp only; omega
          · have := h3 i
            rw [sMark_cons, this]
            by_cases g : i = k
            · subst g
              rw [show spHas ((i : Int), 1) i = true from decide_eq_true (by dsimp only; omega)]
              simp [hf]
            · rw [show decide (i < k + 1) = decide (i < k) from decide_eq_decide.2 (by omega), show spHas ((k : Int), 1) i = false from decide_eq_false (by dsimp only; omega), Bool.false_or]
/-- One place more: the last run grows, or a new one begins. -/
theorem sRun_next (f : Nat → Bool) (k : Nat) (hf : f k = true) :
    (0 < k ∧ f (k - 1) = true ∧ ∃ s r, sRun f k = s :: r ∧ sRun f (k + 1) = (s.1, s.2 + 1) :: r) ∨ ((0 < k → f (k - 1) = false) ∧ sRun f (k + 1) = ((k : Int), 1) :: sRun f k) := by
  obtain ⟨h1, h2, h3⟩ := sRun_stk f k
  have hn : sRun f (k + 1) = (match sRun f k with
      | [] => [((k : Int), 1)]
      | s :: r => if s.1 + s.2 = k then (s.1, s.2 + 1) :: r else ((k : Int), 1) :: s :: r) := by
    conv => lhs; unfold sRun
    rw [if_pos hf]
  rw [hn]
  cases hr : sRun f k with
  | nil =>
    rw [hr] at h3
    refine .inr ⟨fun h0 => ?_, rfl⟩
    have := h3 (k - 1)
    simp [sMark] at this
    exact this (by omega)
  | cons s r =>
    rw [hr] at h1 h2 h3
    have hs := h1 s (List.mem_cons_self ..)
    obtain ⟨p1, _⟩ := List.pairwise_cons.1 h2
    dsimp only
    by_cases e : s.1 + s.2 = k
    · rw [if_pos e]
      refine .inl ⟨by omega, ?_, s, r, rfl, rfl⟩
      have := h3 (k - 1)
      rw [(sMark_iff _ _).2 ⟨s, List.mem_cons_self .., by omega, by omega⟩] at this
      simpa [show k - 1 < k by omega] using this.symm
    · rw [if_neg e]
      refine .inr ⟨fun h0 => ?_, rfl⟩
      cases hz : f (k - 1) with
      | false => rfl
      | true =>
        have := h3 (k - 1)
        rw [hz, Bool.and_true, decide_eq_true (show k - 1 < k by omega)] at this
        obtain ⟨a, ha, g1, g2⟩ := (sMark_iff _ _).1 this
        rcases List.mem_cons.1 ha with rfl | ha
        · omega
        · have := p1 a ha
          omega
theorem sRun_skip (f : Nat → Bool) (k : Nat) (hf : f k = false) : sRun f (k + 1) = sRun f k := by
  conv => lhs; unfold sRun
  rw [if_neg (by rw [hf]; simp)]
/-- How many runs there are. -/
theorem sRun_length (f : Nat → Bool) : ∀ k, (sRun f k).length ≤ k
  | 0 => Nat.le_refl _
  | k + 1 => by
    have ih := sRun_length f k
    cases hf : f k with
    | false => rw [sRun_skip f k hf]; omega
    | true =>
      rcases sRun_next f k hf with ⟨_, _, s, r, e1, e2⟩ | ⟨_, e2⟩
      · rw [e1] at ih; rw [e2]; simp at ih ⊢; omega
      · rw [e2]; simp; omega
/-- What is made of marks: may be, and has just what was marked. -/
theorem sMade_good (f : Nat → Bool) (k : Nat) (hk : k ≤ 20000) : sGood (sMade f k) := by
  obtain ⟨h1, h2, _⟩ := sRun_stk f k
  refine ⟨fun s hs => ?_, ?_⟩
  · have := h1 s (List.mem_reverse.1 hs); omega
  · unfold sMade
    rw [List.pairwise_reverse]
    exact h2
theorem sMade_mark (f : Nat → Bool) (k i : Nat) : sMark (sMade f k) i = (decide (i < k) && f i) := by
  rw [← (sRun_stk f k).2.2 i]
  unfold sMade sMark
  rw [List.any_reverse]
theorem sMark_beyond {l : List Sp} (h : sGood l) {i : Nat} (hi : 20000 ≤ i) : sMark l i = false := by
  cases hz : sMark l i with
  | false => rfl
  | true =>
    obtain ⟨a, ha, h1, h2⟩ := (sMark_iff l i).1 hz
    have := h.1 a ha; omega
/-- A list that may be is what is made of its places. -/
theorem sMade_self {l : List Sp} (h : sGood l) : sMade (sMark l) 20000 = l :=
  sGood_unique _ _ (sMade_good _ _ (Nat.le_refl _)) h fun i => by
    rw [sMade_mark]
    by_cases g : i < 20000
    · simp [g]
    · rw [sMark_beyond h (Nat.not_lt.1 g), Bool.and_false]
theorem sMade_congr {f g : Nat → Bool} : ∀ {k : Nat}, (∀ i, i < k → f i = g i) → sMade f k = sMade g k := by
  intro k h
  have : ∀ n, n ≤ k → sRun f n = sRun g n := by
    intro n
    induction n with
    | zero => intro _; rfl
    | succ n ih =>
      intro hn
      unfold sRun
      rw [h n (by omega), ih (by omega)]
  unfold sMade
  rw [this k (Nat.le_refl _)]
theorem sMade_inj {f g : Nat → Bool} {k : Nat} (h : sMade f k = sMade g k) (i : Nat) (hi : i < k) : f i = g i := by
  have h1 := sMade_mark f k i
  rw [h, sMade_mark] at h1
  simpa [hi] using h1.symm
/-- How many of the first k are marked. -/
def cntTo (f : Nat → Bool) : Nat → Nat
  | 0 => 0
  | k + 1 => cntTo f k + if f k then 1 else 0
theorem cntTo_le (f : Nat → Bool) : ∀ k, cntTo f k ≤ k
  | 0 => Nat.le_refl _
  | k + 1 => by
    have := cntTo_le f k
    unfold cntTo
    split <;> omega
theorem cntTo_congr {f g : Nat → Bool} : ∀ {k : Nat}, (∀ i, i < k → f i = g i) → cntTo f k = cntTo g k
  | 0, _ => rfl
  | k + 1, h => by
    unfold cntTo
    rw [h k (by omega), cntTo_congr (k := k) fun i hi => h i (by omega)]
theorem cntTo_none {f : Nat → Bool} {k : Nat} : ∀ {n : Nat}, (∀ i, k ≤ i → i < k + n → f i = false) → cntTo f (k + n) = cntTo f k
  | 0, _ => rfl
  | n + 1, h => by
    show (cntTo f (k + n) + if f (k + n) then 1 else 0) = _
    rw [cntTo_none (n := n) fun i h1 h2 => h i h1 (by omega), h (k + n) (by omega) (by omega), if_neg (by simp)]
    rfl
/-- Opened, and shut. -/
def sOpenM (f : Nat → Bool) (a n : Nat) (i : Nat) : Bool := if i < a then f i else if i < a + n then false else f (i - n)
def sShutM (f : Nat → Bool) (a n : Nat) (i : Nat) : Bool := if i < a then f i else decide (i + n < 20000) && f (i + n)
/-- Does a place come to be above the greatest? Has it one of those to be shut? -/
def sFull (f : Nat → Bool) (a n : Nat) : Prop := ∃ i, a ≤ i ∧ i < 20000 ∧ f i = true ∧ 20000 ≤ i + n
def sHolds (f : Nat → Bool) (a n : Nat) : Prop := ∃ i, a ≤ i ∧ i < 20000 ∧ f i = true ∧ i < a + n
theorem sOpen_shut (f : Nat → Bool) (a n : Nat) (h : ¬ sFull f a n) (i : Nat) (hi : i < 20000) : sShutM (sOpenM f a n) a n i = f i := by
  unfold sShutM sOpenM
  by_cases e : i < a
  · rw [if_pos e, if_pos e]
  · rw [if_neg e, if_neg (by omega), if_neg (by omega), Nat.add_sub_cancel]
    by_cases g : i + n < 20000
    · simp [g]
    · cases hf : f i with
      | false => simp
      | true => exact absurd ⟨i, by omega, hi, hf, by omega⟩ h
theorem sOpen_holds (f : Nat → Bool) (a n : Nat) : ¬ sHolds (sOpenM f a n) a n := by
  rintro ⟨i, h1, _, h2, h3⟩
  unfold sOpenM at h2
  rw [if_neg (by omega), if_pos h3] at h2
  cases h2
theorem sOpen_cnt_low (f : Nat → Bool) (a n : Nat) : ∀ k, k ≤ a → cntTo (sOpenM f a n) k = cntTo f k := fun k hk =>
  cntTo_congr fun i hi => by unfold sOpenM; rw [if_pos (by omega)]
theorem sOpen_cnt_high (f : Nat → Bool) (a n : Nat) : ∀ k, cntTo (sOpenM f a n) (a + n + k) = cntTo f (a + k)
  | 0 => by
    rw [Nat.add_zero, Nat.add_zero, cntTo_none fun i h1 h2 => by unfold sOpenM; rw [if_neg (by omega), if_pos h2]]
    exact sOpen_cnt_low f a n a (Nat.le_refl _)
  | k + 1 => by
    show (cntTo (sOpenM f a n) (a + n + k) + if sOpenM f a n (a + n + k) then 1 else 0) = cntTo f (a + k) + if f (a + k) then 1 else 0
    rw [sOpen_cnt_high f a n k, show sOpenM f a n (a + n + k) = f (a + k) by unfold sOpenM; rw [if_neg (by omega), if_neg (by omega)]; congr 1; omega]
theorem sOpen_cnt (f : Nat → Bool) (a n : Nat) (ha : a ≤ 20000) (h : ¬ sFull f a n) : cntTo (sOpenM f a n) 20000 = cntTo f 20000 := by
  have hz : ∀ i, a ≤ i → i < 20000 → 20000 ≤ i + n → f i = false := fun i h1 h2 h3 => by
    cases hf : f i with
    | false => rfl
    | true => exact absurd ⟨i, h1, h2, hf, h3⟩ h
  by_cases g : a + n ≤ 20000
  · obtain ⟨k, hk⟩ : ∃ k, 20000 = a + n + k := ⟨20000 - a - n, by omega⟩
    have e1 := sOpen_cnt_high f a n k
    rw [← hk] at e1
    rw [e1]
    have e2 := cntTo_none (f := f) (k := a + k) (n := n) fun i h1 h2 => hz i (by omega) (by omega) (by omega)
    rw [show a + k + n = 20000 by omega] at e2
    exact e2.symm
  · obtain ⟨k, hk⟩ : ∃ k, 20000 = a + k := ⟨20000 - a, by omega⟩
    have e1 := cntTo_none (f := sOpenM f a n) (k := a) (n := k) fun i h1 h2 => by unfold sOpenM; rw [if_neg (by omega), if_pos (by omega)]
    have e2 := cntTo_none (f := f) (k := a) (n := k) fun i h1 h2 => hz i h1 (by omega) (by omega)
    rw [hk, e1, e2]
    exact sOpen_cnt_low f a n a (Nat.le_refl _)
/-- Opened twice at one point. -/
theorem sOpen_twice (f : Nat → Bool) (a n m : Nat) (i : Nat) : sOpenM (sOpenM f a n) a m i = sOpenM f a (n + m) i := by
  unfold sOpenM
  by_cases h1 : i < a
  · rw [if_pos h1, if_pos h1, if_pos h1]
  · rw [if_neg h1, if_neg h1]
    by_cases h2 : i < a + m
    · rw [if_pos h2, if_pos (by omega)]
    · rw [if_neg h2, if_neg (show ¬ i - m < a by omega)]
      by_cases h3 : i < a + (n + m)
      · rw [if_pos (by omega), if_pos h3]
      · rw [if_neg (by omega), if_neg h3]; congr 1; omega
theorem sFull_twice (f : Nat → Bool) (a n m : Nat) : sFull f a (n + m) ↔ sFull f a n ∨ sFull (sOpenM f a n) a m := by
  constructor
  · rintro ⟨i, h1, h2, h3, h4⟩
    by_cases g : 20000 ≤ i + n
    · exact .inl ⟨i, h1, h2, h3, g⟩
    · exact .inr ⟨i + n, by omega, by omega, by unfold sOpenM; rw [if_neg (by omega), if_neg (by omega), Nat.add_sub_cancel]; exact h3, by omega⟩
  · rintro (⟨i, h1, h2, h3, h4⟩ | ⟨i, h1, h2, h3, h4⟩)
    · exact ⟨i, h1, h2, h3, by omega⟩
    · unfold sOpenM at h3
      rw [if_neg (by omega)] at h3
      by_cases g : i < a + n
      · rw [if_pos g] at h3; cases h3
      · rw [if_neg g] at h3
        exact ⟨i - n, by omega, by omega, h3, by omega⟩
/-- Of two. -/
theorem cntTo_parts (f g : Nat → Bool) : ∀ k, cntTo (fun i => f i && !g i) k + cntTo (fun i => g i && !f i) k + cntTo (fun i => f i && g i) k = cntTo (fun i => f i || g i) k
  | 0 => rfl
  | k + 1 => by
    have := cntTo_parts f g k
    show cntTo (fun i => f i && !g i) k + _ + (cntTo (fun i => g i && !f i) k + _) + (cntTo (fun i => f i && g i) k + _) = cntTo (fun i => f i || g i) k + _
    cases hf : f k <;> cases hg : g k <;> simp [hf, hg] <;> omega
end Go.Proofs.Ytnlajfdgpdijjaa
