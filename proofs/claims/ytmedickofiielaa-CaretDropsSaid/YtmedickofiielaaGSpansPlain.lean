/- Texts of this proof, joined. -/
import Derived.Lib.Hide
import Derived.RangeFuncFrom
import Derived.RangeFuncBox
import Derived.OrdersHeld
import Derived.Deep.RegionHeld
import Derived.WalkKit
namespace Go.Proofs.Ytmedickofiielaa

abbrev Sp := Int × Int
def spHas (s : Sp) (i : Nat) : Bool := decide (s.1 ≤ (i : Int) ∧ (i : Int) < s.1 + s.2)
def sMark (l : List Sp) (i : Nat) : Bool := l.any fun s => spHas s i
def spOk (s : Sp) : Bool := decide (0 ≤ s.1 ∧ s.1 ≤ 20000 ∧ 0 ≤ s.2 ∧ s.2 ≤ 20000 - s.1)
def sMayF (last : Int) : List Sp → Bool
 | [] => true
 | s :: r => decide (1 ≤ s.2 ∧ last < s.1 ∧ s.1 ≤ 20000 ∧ s.2 ≤ 20000 - s.1) && sMayF (s.1 + s.2) r
def sMay (l : List Sp) : Bool := sMayF (-1) l
def sGood (l : List Sp) : Prop := (∀ s ∈ l, 1 ≤ s.2 ∧ 0 ≤ s.1 ∧ s.1 + s.2 ≤ 20000) ∧ l.Pairwise fun a b => a.1 + a.2 < b.1
theorem sMayF_good (last : Int) (h0 : -1 ≤ last) : ∀ l, sMayF last l = true ↔ sGood l ∧ ∀ s ∈ l, last < s.1
 | [] => by simp [sMayF, sGood]
 | s :: r => by
  unfold sMayF
  rw [Bool.and_eq_true, decide_eq_true_eq]
  constructor
  ·rintro ⟨h1, h2⟩
   obtain ⟨⟨g1, g2⟩, g3⟩ := (sMayF_good (s.1 + s.2) (by omega) r).1 h2
   refine ⟨⟨fun t ht => ?_, List.pairwise_cons.2 ⟨g3, g2⟩⟩, fun t ht => ?_⟩
   ·rcases List.mem_cons.1 ht with rfl | ht
    ·omega
    ·exact g1 t ht
   ·rcases List.mem_cons.1 ht with rfl | ht
    ·omega
    ·have := g3 t ht
     omega
  ·rintro ⟨⟨g1, g2⟩, g3⟩
   have hs := g1 s (List.mem_cons_self ..)
   have hl := g3 s (List.mem_cons_self ..)
   obtain ⟨p1, p2⟩ := List.pairwise_cons.1 g2
   exact ⟨by omega, (sMayF_good (s.1 + s.2) (by omega) r).2 ⟨⟨fun t ht => g1 t (List.mem_cons_of_mem _ ht), p2⟩, p1⟩⟩
theorem sMay_good (l : List Sp) : sMay l = true ↔ sGood l := by
 unfold sMay
 rw [sMayF_good (-1) (by omega) l]
 exact ⟨fun h => h.1, fun h => ⟨h, fun s hs => by have := h.1 s hs; omega⟩⟩
theorem sMark_cons (s : Sp) (l : List Sp) (i : Nat) : sMark (s :: l) i = (spHas s i || sMark l i) := by simp [sMark]
theorem sMark_append (l m : List Sp) (i : Nat) : sMark (l ++ m) i = (sMark l i || sMark m i) := by simp [sMark]
theorem sMark_iff (l : List Sp) (i : Nat) : sMark l i = true ↔ ∃ s ∈ l, s.1 ≤ (i : Int) ∧ (i : Int) < s.1 + s.2 := by
 unfold sMark spHas
 rw [List.any_eq_true]
 constructor
 ·rintro ⟨s, h1, h2⟩
  exact ⟨s, h1, of_decide_eq_true h2⟩
 ·rintro ⟨s, h1, h2⟩
  exact ⟨s, h1, decide_eq_true h2⟩
theorem sGood_unique : ∀ (l m : List Sp), sGood l → sGood m → (∀ i : Nat, sMark l i = sMark m i) → l = m
 | [], [], _, _, _ => rfl
 | [], t :: m, _, hm, h => by
  have ht := hm.1 t (List.mem_cons_self ..)
  have := h t.1.toNat
  rw [show sMark (t :: m) t.1.toNat = true from (sMark_iff _ _).2 ⟨t, List.mem_cons_self .., by omega, by omega⟩] at this
  simp [sMark] at this
 | s :: l, [], hl, _, h => by
  have hs := hl.1 s (List.mem_cons_self ..)
  have := h s.1.toNat
  rw [show sMark (s :: l) s.1.toNat = true from (sMark_iff _ _).2 ⟨s, List.mem_cons_self .., by omega, by omega⟩] at this
  simp [sMark] at this
 | s :: l, t :: m, hl, hm, h => by
  have hs := hl.1 s (List.mem_cons_self ..)
  have ht := hm.1 t (List.mem_cons_self ..)
  obtain ⟨pl, ql⟩ := List.pairwise_cons.1 hl.2
  obtain ⟨pm, qm⟩ := List.pairwise_cons.1 hm.2
  -- the first places
  have e1 : s.1 = t.1 := by
   obtain ⟨a, ha, h1, h2⟩ := (sMark_iff (t :: m) s.1.toNat).1 (by rw [← h]; exact (sMark_iff _ _).2 ⟨s, List.mem_cons_self .., by omega, by omega⟩)
   obtain ⟨b, hb, h3, h4⟩ := (sMark_iff (s :: l) t.1.toNat).1 (by rw [h]; exact (sMark_iff _ _).2 ⟨t, List.mem_cons_self .., by omega, by omega⟩)
   have k1 : t.1 ≤ a.1 := by
    rcases List.mem_cons.1 ha with rfl | ha
    ·omega
    ·have := pm a ha; omega
   have k2 : s.1 ≤ b.1 := by
    rcases List.mem_cons.1 hb with rfl | hb
    ·omega
    ·have := pl b hb; omega
   omega
  have e2 : s.2 = t.2 := by
   rcases Int.lt_trichotomy s.2 t.2 with g | g | g
   ·exfalso
    obtain ⟨a, ha, h1, h2⟩ := (sMark_iff (s :: l) (s.1 + s.2).toNat).1 (by rw [h]; exact (sMark_iff _ _).2 ⟨t, List.mem_cons_self .., by omega, by omega⟩)
    rcases List.mem_cons.1 ha with rfl | ha
    ·omega
    ·have := pl a ha; omega
   ·exact g
   ·exfalso
    obtain ⟨a, ha, h1, h2⟩ := (sMark_iff (t :: m) (t.1 + t.2).toNat).1 (by rw [← h]; exact (sMark_iff _ _).2 ⟨s, List.mem_cons_self .., by omega, by omega⟩)
    rcases List.mem_cons.1 ha with rfl | ha
    ·omega
    ·have := pm a ha; omega
  have e : s = t := Prod.ext e1 e2
  subst e
  congr 1
  refine sGood_unique l m ⟨fun a ha => hl.1 a (List.mem_cons_of_mem _ ha), ql⟩ ⟨fun a ha => hm.1 a (List.mem_cons_of_mem _ ha), qm⟩ fun i => ?_
  have := h i
  rw [sMark_cons, sMark_cons] at this
  cases hi : spHas s i with
  | false => rw [hi, Bool.false_or, Bool.false_or] at this; exact this
  | true =>
   have hi := of_decide_eq_true hi
   have z1 : sMark l i = false := by
    cases hz : sMark l i with
    | false => rfl
    | true =>
     obtain ⟨a, ha, h1, h2⟩ := (sMark_iff l i).1 hz
     have := pl a ha; omega
   have z2 : sMark m i = false := by
    cases hz : sMark m i with
    | false => rfl
    | true =>
     obtain ⟨a, ha, h1, h2⟩ := (sMark_iff m i).1 hz
     have := pm a ha; omega
   rw [z1, z2]
def sRun (f : Nat → Bool) : Nat → List Sp
 | 0 => []
 | k + 1 => if f k then (match sRun f k with
   | [] => [((k : Int), 1)]
   | s :: r => if s.1 + s.2 = k then (s.1, s.2 + 1) :: r else ((k : Int), 1) :: s :: r) else sRun f k
def sMade (f : Nat → Bool) (k : Nat) : List Sp := (sRun f k).reverse
def sStk (f : Nat → Bool) (k : Nat) (l : List Sp) : Prop :=
 (∀ s ∈ l, 1 ≤ s.2 ∧ 0 ≤ s.1 ∧ s.1 + s.2 ≤ k) ∧ (l.Pairwise fun a b => b.1 + b.2 < a.1) ∧ ∀ i : Nat, sMark l i = (decide (i < k) && f i)
theorem sRun_stk (f : Nat → Bool) : ∀ k, sStk f k (sRun f k)
 | 0 => ⟨by simp [sRun], by simp [sRun], by simp [sRun, sMark]⟩
 | k + 1 => by
  obtain ⟨h1, h2, h3⟩ := sRun_stk f k
  unfold sRun
  cases hf : f k with
  | false =>
   refine ⟨fun s hs => ?_, h2, fun i => ?_⟩
   ·have := h1 s hs; omega
   ·rw [if_neg (by simp), h3]
    by_cases e : i = k
    ·subst e; simp [hf]
    ·rw [show decide (i < k + 1) = decide (i < k) from decide_eq_decide.2 (by omega)]
  | true =>
   rw [if_pos rfl]
   cases hr : sRun f k with
   | nil =>
    rw [hr] at h3
    refine ⟨fun s hs => ?_, by simp, fun i => ?_⟩
    ·simp at hs; subst hs; simp
    ·have := h3 i
     simp only [sMark, List.any_nil] at this
     simp only [sMark, List.any_cons, List.any_nil, Bool.or_false, spHas]
     by_cases e : i = k
     ·subst e; simp [hf]; omega
     ·rw [show decide (i < k + 1) = decide (i < k) from decide_eq_decide.2 (by omega), ← this]
      exact decide_eq_false (by omega)
   | cons s r =>
    rw [hr] at h1 h2 h3
    have hs := h1 s (List.mem_cons_self ..)
    obtain ⟨p1, p2⟩ := List.pairwise_cons.1 h2
    dsimp only
    by_cases e : s.1 + s.2 = k
    ·rw [if_pos e]
     refine ⟨fun t ht => ?_, List.pairwise_cons.2 ⟨p1, p2⟩, fun i => ?_⟩
     ·rcases List.mem_cons.1 ht with rfl | ht
      ·dsimp only; omega
      ·have := h1 t (List.mem_cons_of_mem _ ht); omega
     ·have := h3 i
      rw [sMark_cons] at this ⊢
      by_cases g : i = k
      ·subst g
       rw [show spHas (s.1, s.2 + 1) i = true from decide_eq_true (by dsimp only; omega)]
       simp [hf]
      ·rw [show decide (i < k + 1) = decide (i < k) from decide_eq_decide.2 (by omega), ← this]
       congr 1
       exact decide_eq_decide.2 (by dsimp only; omega)
    ·rw [if_neg e]
     refine ⟨fun t ht => ?_, List.pairwise_cons.2 ⟨fun t ht => ?_, h2⟩, fun i => ?_⟩
     ·rcases List.mem_cons.1 ht with rfl | ht
      ·dsimp only; omega
      ·have := h1 t ht; omega
     ·rcases List.mem_cons.1 ht with rfl | ht
      ·dsimp only; omega
      ·have := p1 t ht; dsimp only; omega
     ·have := h3 i
      rw [sMark_cons, this]
      by_cases g : i = k
      ·subst g
       rw [show spHas ((i : Int), 1) i = true from decide_eq_true (by dsimp only; omega)]
       simp [hf]
      ·rw [show decide (i < k + 1) = decide (i < k) from decide_eq_decide.2 (by omega), show spHas ((k : Int), 1) i = false from decide_eq_false (by dsimp only; omega), Bool.false_or]
theorem sMade_good (f : Nat → Bool) (k : Nat) (hk : k ≤ 20000) : sGood (sMade f k) := by
 obtain ⟨h1, h2, _⟩ := sRun_stk f k
 refine ⟨fun s hs => ?_, ?_⟩
 ·have := h1 s (List.mem_reverse.1 hs); omega
 ·unfold sMade
  rw [List.pairwise_reverse]
  exact h2
theorem sMade_mark (f : Nat → Bool) (k i : Nat) : sMark (sMade f k) i = (decide (i < k) && f i) := by
 rw [← (sRun_stk f k).2.2 i]
 unfold sMade sMark
 rw [List.any_reverse]
theorem sMark_beyond {l : List Sp} (h : sGood l) {i : Nat} (hi : 20000 ≤ i) : sMark l i = false := by
 cases hz : sMark l i with
 | false => rfl
 | true =>
  obtain ⟨a, ha, h1, h2⟩ := (sMark_iff l i).1 hz
  have := h.1 a ha; omega
theorem sMade_self {l : List Sp} (h : sGood l) : sMade (sMark l) 20000 = l :=
 sGood_unique _ _ (sMade_good _ _ (Nat.le_refl _)) h fun i => by
  rw [sMade_mark]
  by_cases g : i < 20000
  ·simp [g]
  ·rw [sMark_beyond h (Nat.not_lt.1 g), Bool.and_false]
theorem sMade_congr {f g : Nat → Bool} : ∀ {k : Nat}, (∀ i, i < k → f i = g i) → sMade f k = sMade g k := by
 intro k h
 have : ∀ n, n ≤ k → sRun f n = sRun g n := by
  intro n
  induction n with
  | zero => intro _; rfl
  | succ n ih =>
   intro hn
   unfold sRun
   rw [h n (by omega), ih (by omega)]
 unfold sMade
 rw [this k (Nat.le_refl _)]
def cntTo (f : Nat → Bool) : Nat → Nat
 | 0 => 0
 | k + 1 => cntTo f k + if f k then 1 else 0
theorem cntTo_le (f : Nat → Bool) : ∀ k, cntTo f k ≤ k
 | 0 => Nat.le_refl _
 | k + 1 => by
  have := cntTo_le f k
  unfold cntTo
  split <;> omega
theorem cntTo_none {f : Nat → Bool} {k : Nat} : ∀ {n : Nat}, (∀ i, k ≤ i → i < k + n → f i = false) → cntTo f (k + n) = cntTo f k
 | 0, _ => rfl
 | n + 1, h => by
  show (cntTo f (k + n) + if f (k + n) then 1 else 0) = _
  rw [cntTo_none (n := n) fun i h1 h2 => h i h1 (by omega), h (k + n) (by omega) (by omega), if_neg (by simp)]
  rfl
def sOpenM (f : Nat → Bool) (a n : Nat) (i : Nat) : Bool := if i < a then f i else if i < a + n then false else f (i - n)
end Go.Proofs.Ytmedickofiielaa

namespace Go.Proofs.Ytmedickofiielaa

def nMay (site seq : Int) : Bool := decide (1 ≤ site ∧ site ≤ 16 ∧ 1 ≤ seq ∧ seq ≤ 1099511627776)
def vOk (xs : List Int) : Prop := ∀ x ∈ xs, 0 ≤ x ∧ x ≤ 1099511627776
instance (xs : List Int) : Decidable (vOk xs) := by unfold vOk; infer_instance
end Go.Proofs.Ytmedickofiielaa

namespace Go.Proofs.Ytmedickofiielaa
open Go Go.RowKit

def OwnT {β : Type} (T : TypeId → Prop) (B : Nat) (I : β → World → Prop) : Prop := ∀ s W W' row, I s W → W.grownBy W' row → (∀ r, row = some r → B ≤ r ∧ ∃ o : Obj, W.heap[r]? = some o ∧ (o.isCells = false ∨ ∃ c t fr, o = .cells c t fr ∧ ¬ T t)) → I s W'
theorem OwnT.from {β : Type} {T : TypeId → Prop} {B : Nat} {I : β → World → Prop} (h : OwnT T B I) : OwnFrom B I := fun s W W' row hs hg hr => h s W W' row hs hg fun r e => ⟨(hr r e).1, (hr r e).2.elim fun o q => ⟨o, q.1, .inl q.2⟩⟩
theorem OwnT.up {β : Type} {T : TypeId → Prop} {B B' : Nat} {I : β → World → Prop} (h : OwnT T B I) (hB : B ≤ B') : OwnT T B' I := fun s W W' row hs hg hr => h s W W' row hs hg fun r e => ⟨Nat.le_trans hB (hr r e).1, (hr r e).2⟩
def SeqStopsO (T : TypeId → Prop) {α : Type} (F : Fence) (n : Nat) (P : Program) (g : Nat) (lb : Array Value) (encs : α → Array Value) (Kp : World → World → Prop) (S Sp : List α → Prop) (N : Nat) (w : World) : Prop :=
 ∀ (l : Nat) (J Jx : List α → World → Prop) (W : World), Below w.heap.size w W → w.heap.size + 2 ≤ W.heap.size → OwnT T W.heap.size J → OwnT T W.heap.size Jx →
  (∀ pre x W1, J pre W1 → pre.length < N → YieldAt F (n - 1) P l (encs x) W1 fun e W' => (e = .returned (.bool true) ∧ J (pre ++ [x]) W' ∧ Kp W1 W' ∧ KeepsFrom (w.heap.size + 2) W1 W') ∨ (e = .returned (.bool false) ∧ Jx (pre ++ [x]) W' ∧ KeepsFrom (w.heap.size + 2) W1 W')) →
  J [] W → CallsIn F n P g (#[.func (.yield l) #[] #[]] ++ lb) W fun e W' => (∃ v, e = .returned v) ∧ ((∃ xs, S xs ∧ J xs W') ∨ (∃ pre, Sp pre ∧ Jx pre W'))
theorem OwnFrom.up {β : Type} {B B' : Nat} {I : β → World → Prop} (h : OwnFrom B I) (hB : B ≤ B') : OwnFrom B' I := fun s W W' row hs hg hr => h s W W' row hs hg fun r e => ⟨Nat.le_trans hB (hr r e).1, (hr r e).2⟩
theorem far_kept {W W' : World} {row : Option Nat} {B k : Nat} {o : Obj} {p : Nat → Prop} (hg : W.grownBy W' row) (hr : ∀ r, row = some r → B ≤ r ∧ p r) (hk : k < B) (h : W.heap[k]? = some o) : W'.heap[k]? = some o :=
 (hg.block k (Array.getElem?_eq_some_iff.1 h).1 fun e => by have := (hr k e.symm).1; omega).trans h

theorem wpIn_rangeFunc_ownO (T : TypeId → Prop) {F : Fence} {n : Nat} {P : Program} {α : Type} {g : Operand} {ps : Array Tmp} {assign body : Code} {Q : Exit → Act → World → Prop} {a : Act} {w : World}
  (hro : F.round = none) (h1 : 1 ≤ n) {gf : Nat} {lb : Array Value} (hg : a.eval g = .func (.func gf) #[] lb) (hFg : F.fn gf) (eg : ∀ args w, (callFunc gf args).run P w = .ok (.enter gf args) w)
  {encs : α → Array Value} {Kp : World → World → Prop} {S Sp : List α → Prop} {N : Nat} (hseq : SeqStopsO T F (n - 1) P gf lb encs Kp S Sp N w)
  (hKt : ∀ {A B C : World}, Kp A B → Kp B C → Kp A C) (hKb : ∀ (W : World) (l : Nat) (o o' : Obj), w.heap.size ≤ l → l < w.heap.size + 2 → W.heap[l]? = some o → o.isCells = false → o.isWalk = false → Kp W (W.putObj l o')) (hps : ∀ x, (encs x).size = ps.size)
  (I : List α → World → Prop) (Ix : Code → List α → World → Prop) (hI : OwnFrom w.heap.size I) (hIx : ∀ c, OwnFrom w.heap.size (Ix c)) (hIT : OwnT T (w.heap.size + 2) I) (hIxT : ∀ c, OwnT T (w.heap.size + 2) (Ix c)) (h0 : I [] w) (a₁ : α → Act)
  (hassign : ∀ (l : Nat) (x : α) (W : World) (K : Act → World → Prop), K (a₁ x) W →
   assign.wpIn (F.inRound l) (n - 1 - 1) P (Exit.then K (fun _ _ _ => False)) { tmps := (ps.zip (encs x)).foldl (fun t (p, v) => t.setIfInBounds p v) a.tmps, defers := [] } W)
  (hbody : ∀ (l : Nat) (pre : List α) (x : α) (W : World), I pre W → pre.length < N → body.wpIn (F.inRound l) (n - 1 - 1) P (ownPostK Kp I Ix (pre ++ [x]) W) (a₁ x) W)
  (hdone : ∀ (D : Nat) (xs : List α) (W : World), w.heap.size ≤ D → S xs → I xs W → W.heap[D]? = some (.deferred (some [])) → Q .normal { a with defers := { target := .collected D, args := #[] } :: a.defers } W)
  (hstop : ∀ (D : Nat) (c : Code) (pre : List α) (W : World), w.heap.size ≤ D → Sp pre → Ix c pre W → W.heap[D]? = some (.deferred (some [])) → c.wpIn F n P Q { a with defers := { target := .collected D, args := #[] } :: a.defers } W) :
  (Code.rangeFunc g ps assign body).wpIn F n P Q a w := by
 refine wpIn_rangeFunc ?_
 intro fn hfn
 rw [hro]
 obtain ⟨rec, hrec⟩ : ∃ rec : LoopState → Option Code → Loop, rec = fun st pe => { state := st, pending := pe, fn, tmps := a.tmps, params := ps, assign, body, defers := w.heap.size } := ⟨_, rfl⟩
 -- the loop lays two blocks: D for deferred calls, L for its record
 obtain ⟨L, hL⟩ : ∃ L, w.heap.size + 1 = L := ⟨_, rfl⟩
 obtain ⟨D, hD⟩ : ∃ D, w.heap.size = D := ⟨_, rfl⟩
 obtain ⟨W1, hW1⟩ : ∃ W1, (w.alloc (.deferred (some []))).alloc (.loop (rec .ready none)) = W1 := ⟨_, rfl⟩
 have hs1 : W1.heap.size = L + 1 := by rw [← hW1]; simp; omega
 have r1 : W1.heap[L]? = some (.loop (rec .ready none)) := by
  rw [← hW1, ← hL]
  have h := World.alloc_heap_new (w.alloc (.deferred (some []))) (.loop (rec .ready none))
  rwa [World.size_alloc] at h
 have d1 : W1.heap[D]? = some (.deferred (some [])) := by
  rw [← hW1, ← hD]
  exact (Below.heap_alloc _ _ _ (by simp)).trans (World.alloc_heap_new w _)
 have i1 : I [] W1 := by rw [← hW1]; exact hI.alloc _ (hI.alloc _ h0)
 have b1 : Below w.heap.size w W1 := by
  rw [← hW1]
  exact ((Below.refl _ w).alloc (Nat.le_refl _) _).alloc (by simp) _
 have turn : ∀ {s : List α} {W : World} {o : Obj} (o' : Obj), I s W → W.heap[L]? = some o → o.isCells = false → I s (W.putObj L o') := fun o' h q z => hI.putObj o' h (by omega) q z
 have turnX : ∀ {c : Code} {s : List α} {W : World} {o : Obj} (o' : Obj), Ix c s W → W.heap[L]? = some o → o.isCells = false → Ix c s (W.putObj L o') := fun {c} {_} {_} {_} o' h q z => (hIx c).putObj o' h (by omega) q z
 refine ⟨L, [{ target := .collected D, args := #[] }], W1, { target := .fn (.func gf) lb, args := #[.func (.yield L) #[] #[]] }, W1, gf, #[.func (.yield L) #[] #[]] ++ lb, W1, ?enter, ?res, ?leads, ?inv, fun _ => h1, ?call⟩
 case enter => rw [← hW1, hrec, ← hL, ← hD]; exact run_enterLoop_outer _ _ _ _ _
 case res =>
  simp only [resolve, hg]
  simp [go_sem]
 case leads => intro f' hf'; simp [Target.leads] at hf'; subst hf'; exact hFg
 case inv => simp [invoke, go_sem, eg]
 case call =>
  have low : ∀ {A : World} {row : Option Nat}, (∀ r, row = some r → W1.heap.size ≤ r ∧ ∃ o : Obj, A.heap[r]? = some o ∧ (o.isCells = false ∨ ∃ c t fr, o = .cells c t fr ∧ ¬ T t)) → ∀ r, row = some r → w.heap.size + 2 ≤ r ∧ ∃ o : Obj, A.heap[r]? = some o ∧ (o.isCells = false ∨ ∃ c t fr, o = .cells c t fr ∧ ¬ T t) := fun hr r e => ⟨by have := (hr r e).1; omega, (hr r e).2⟩
  refine (hseq L (fun pre W => I pre W ∧ W.heap[L]? = some (.loop (rec .ready none)) ∧ W.heap[D]? = some (.deferred (some []))) (fun pre W => ∃ c, Ix c pre W ∧ W.heap[L]? = some (.loop (rec .done (some c))) ∧ W.heap[D]? = some (.deferred (some []))) W1 b1 (by omega)
   (fun s A B row h hg' hr => ⟨hIT s A B row h.1 hg' (low hr), far_kept hg' hr (by omega) h.2.1, far_kept hg' hr (by omega) h.2.2⟩)
   (fun s A B row h hg' hr => h.elim fun c q => ⟨c, hIxT c s A B row q.1 hg' (low hr), far_kept hg' hr (by omega) q.2.1, far_kept hg' hr (by omega) q.2.2⟩) ?round ⟨i1, r1, d1⟩).mono ?behind
  case behind =>
   rintro e W2 ⟨⟨v, rfl⟩, ⟨xs, hS, hi, hl, hk⟩ | ⟨pre, hSp, c, hi, hl, hk⟩⟩
   ·have q := run_endLoop (P := P) hl (by rw [hrec]; simp)
    rw [hrec] at q
    exact ⟨none, _, q, hdone D xs _ (by omega) hS (turn _ hi hl rfl) ((World.putObj_heap_other (by omega)).trans hk)⟩
   ·have q := run_endLoop (P := P) hl (by rw [hrec]; simp)
    rw [hrec] at q
    exact ⟨some c, _, q, hstop D c pre _ (by omega) hSp (turnX _ hi hl rfl) ((World.putObj_heap_other (by omega)).trans hk)⟩
  case round =>
   rintro pre x W ⟨hi, hl, hk⟩ hlen
   have hlt := (Array.getElem?_eq_some_iff.1 hl).1
   have hy := run_yield (P := P) (args := encs x) hl (by rw [hrec]; exact hps x)
   rw [hrec] at hy
   refine ⟨fn, _, assign, body, hy, roundIn_of_wpIn hfn (hassign _ x W _ ⟨_, run_beginRound hl (by rw [hrec]), ?_⟩)⟩
   obtain ⟨Wb, hWb⟩ : ∃ X, W.putObj L (.loop { rec .ready none with state := .busy }) = X := ⟨_, rfl⟩
   have l2 : Wb.heap[L]? = some (.loop { rec .ready none with state := .busy }) := by rw [← hWb]; exact World.putObj_heap_same hlt
   have k2 : Wb.heap[D]? = some (.deferred (some [])) := by rw [← hWb]; exact (World.putObj_heap_other (by omega)).trans hk
   have p2 : Kp W Wb := by rw [← hWb]; exact hKb _ _ _ _ (by omega) (by omega) hl rfl rfl
   have j2 : I pre Wb := by rw [← hWb]; exact turn _ hi hl rfl
   rw [hWb]
   refine wpIn_mono (hbody _ pre x _ j2 hlen) ?_
   have kfr : ∀ (A : World) (o : Obj), A.heap.size ≤ (A.putObj L o).heap.size ∧ KeepsFrom (w.heap.size + 2) A (A.putObj L o) := fun A o => ⟨by simp, KeepsFrom.of_grownBy (grownBy_putObj' A L o) fun j q => by cases q; omega⟩
   have f2 : KeepsFrom (w.heap.size + 2) W Wb := by rw [← hWb]; exact (kfr _ _).2
   have fin : ∀ (jump : Option Code) (W3 : World), KeepsOthers Wb W3 → ∃ W4, W4 = W3.putObj L (.loop (rec (if jump.isNone then .ready else .done) jump)) ∧ (Instr.endRound L jump).run P W3 = .ok (.bool jump.isNone) W4 ∧ (∃ o : Obj, W3.heap[L]? = some o ∧ o.isCells = false ∧ o.isWalk = false) ∧
     W4.heap[L]? = some (.loop (rec (if jump.isNone then .ready else .done) jump)) ∧ W4.heap[D]? = some (.deferred (some [])) := fun jump W3 q => by
    have l3 := q.same _ _ l2 rfl
    have z := run_endRound (P := P) jump l3
    rw [hrec] at z
    refine ⟨_, rfl, by rw [hrec]; exact z, ⟨_, l3, rfl, rfl⟩, World.putObj_heap_same (Array.getElem?_eq_some_iff.1 l3).1, (World.putObj_heap_other (by omega)).trans (q.same _ _ k2 rfl)⟩
   rintro e a3 W3 hp
   have out : ∀ c : Code, KeepsOthers Wb W3 ∧ Ix c (pre ++ [x]) W3 → ∃ b W4, (Instr.endRound L (some c)).run P W3 = .ok b W4 ∧ (b = .bool false ∧ (∃ c, Ix c (pre ++ [x]) W4 ∧ W4.heap[L]? = some (.loop (rec .done (some c))) ∧ W4.heap[D]? = some (.deferred (some []))) ∧ KeepsFrom (w.heap.size + 2) W W4) := fun c hp => by
    obtain ⟨W4, e4, hr, ⟨o, q1, q2, _⟩, l4, k4⟩ := fin (some c) W3 hp.1
    exact ⟨_, W4, hr, rfl, ⟨c, by rw [e4]; exact turnX _ hp.2 q1 q2, l4, k4⟩, (f2.trans (hp.1.from _)).trans (by rw [e4]; exact (kfr _ _).2)⟩
   cases e with
   | normal =>
    obtain ⟨q, hkp, hi3⟩ := hp
    obtain ⟨W4, e4, hr, ⟨o, q1, q2, q3⟩, l4, k4⟩ := fin none W3 q
    exact ⟨_, W4, hr, .inl ⟨rfl, ⟨by rw [e4]; exact turn _ hi3 q1 q2, l4, k4⟩, hKt (hKt p2 hkp) (by rw [e4]; exact hKb _ _ _ _ (by omega) (by omega) q1 q2 q3), (f2.trans (q.from _)).trans (by rw [e4]; exact (kfr _ _).2)⟩⟩
   | ret => obtain ⟨b, W4, h1, rfl, h2⟩ := out .ret hp; exact ⟨_, W4, h1, .inr ⟨rfl, h2⟩⟩
   | exit id => obtain ⟨b, W4, h1, rfl, h2⟩ := out (.exit id) hp; exact ⟨_, W4, h1, .inr ⟨rfl, h2⟩⟩
   | goto t => obtain ⟨b, W4, h1, rfl, h2⟩ := out (.goto t) hp; exact ⟨_, W4, h1, .inr ⟨rfl, h2⟩⟩
   | panic ch => exact hp.elim
   | outgrown => exact hp.elim
end Go.Proofs.Ytmedickofiielaa

namespace Go.Proofs.Ytmedickofiielaa
open Go Go.RowKit

end Go.Proofs.Ytmedickofiielaa

namespace Go.Proofs.Ytmedickofiielaa
open Go.RowKit

theorem tk {P : Program} {ops : Array Oper} {Q : Exit → Act → World → Prop} {S : World → Prop} {md : Region.Mode} {i : Nat} {oi : Oper} {v : Value} {fuel : Nat} {listed : Array Bool} {a : Act} {w : World} (hi : ops[i]? = some oi) (hy : YieldsIf P ops S oi v a)
    (h : wpAnyH P md ops Q S fuel (listed.setIfInBounds i true) (a.put oi.dst v) w) (hs : Region.noSelect ops = true := by kernel_rfl) (hf : Region.free md ops listed i = true := by kernel_rfl) (hr : (Region.ready md ops listed).contains i = true := by kernel_rfl)
    (hQ : ∀ c a w, Q (.panic c) (a.put oi.dst v) w → Q (.panic c) a w := by exact fun _ _ _ h => h) (hS : S w := by assumption) : wpAnyH P md ops Q S (fuel + 1) listed a w := wpAnyH_take hi hs hf hr hQ hy hS h
/-- A step that wants nothing of its own. -/
theorem tk0 {P : Program} {ops : Array Oper} {Q : Exit → Act → World → Prop} {S : World → Prop} {md : Region.Mode} {i : Nat} {oi : Oper} {v : Value} {fuel : Nat} {listed : Array Bool} {a : Act} {w : World} (hi : ops[i]? = some oi)
    (h : wpAnyH P md ops Q S fuel (listed.setIfInBounds i true) (a.put oi.dst v) w) (hy : YieldsIf P ops S oi v a := by refine Or.inl ⟨rfl, ?_⟩; intro W hS; go_simp; try with_reducible rfl) (hs : Region.noSelect ops = true := by kernel_rfl) (hf : Region.free md ops listed i = true := by kernel_rfl) (hr : (Region.ready md ops listed).contains i = true := by kernel_rfl)
    (hQ : ∀ c a w, Q (.panic c) (a.put oi.dst v) w → Q (.panic c) a w := by exact fun _ _ _ h => h) (hS : S w := by assumption) : wpAnyH P md ops Q S (fuel + 1) listed a w := wpAnyH_take hi hs hf hr hQ hy hS h
/-- One step alone is ready. -/
theorem rd {P : Program} {ops : Array Oper} {Q : Exit → Act → World → Prop} {S : World → Prop} {md : Region.Mode} {fuel : Nat} {listed : Array Bool} {a : Act} {w : World} (i : Nat) {o : Oper} (ho : ops[i]? = some o)
    (h : ∀ K' : Act → World → Prop, Shut (∀ a w, S w → (S w → wpAnyH P md ops Q S fuel (listed.setIfInBounds i true) a w) → K' a w) → if Region.wanted o (yielded ops a.tmps) = true then Oper.wp P o a w K' Q else K' (a.put o.dst undef) w)
    (hr : Region.ready md ops listed = [i] := by kernel_rfl) : wpAnyH P md ops Q S (fuel + 1) listed a w := wpAnyH_ready hr (by simp) (AllReadyH.cons ho h AllReadyH.nil)
/-- An act behind a step, in plain form: one name for the rules that make it so. -/
theorem td : (∀ (a : Act) (d : Nat) (v : Value), a.put (some d) v = { a with tmps := a.tmps.setIfInBounds d v }) ∧ (∀ (a : Act) (v : Value), a.put none v = a) ∧
    (∀ (l : List Oper) (i : Nat) (h : i < l.toArray.size), l.toArray[i] = l[i]'(by simpa using h)) ∧ (∀ (x : Oper) (l : List Oper) (i : Nat) (h : i + 1 < (x :: l).length), (x :: l)[i + 1] = l[i]'(by simpa using h)) ∧
    (∀ (x : Oper) (l : List Oper) (h : 0 < (x :: l).length), (x :: l)[0] = x) ∧ (∀ (l : List Value) (i : Nat) (v : Value), l.toArray.setIfInBounds i v = (l.set i v).toArray) ∧
    (∀ (x v : Value) (l : List Value), (x :: l).set 0 v = v :: l) ∧ (∀ (x v : Value) (l : List Value) (i : Nat), (x :: l).set (i + 1) v = x :: l.set i v) :=
  ⟨fun _ _ _ => rfl, fun _ _ => rfl, fun _ _ _ => rfl, fun _ _ _ _ => rfl, fun _ _ _ => rfl, fun _ _ _ => by simp, fun _ _ _ => rfl, fun _ _ _ _ => rfl⟩
end Go.Proofs.Ytmedickofiielaa
