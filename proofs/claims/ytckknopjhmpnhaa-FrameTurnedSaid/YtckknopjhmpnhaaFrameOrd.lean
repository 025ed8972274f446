/- The program's frames: in whatever order the three fields of numbers and their boxes are made. -/
import Derived.Test.YtckknopjhmpnhaaFrameField
namespace Go.Proofs.Ytckknopjhmpnhaa
open Go.RowKit

/-- A field of a number as a value. -/
def fieldV (p m : Nat) : Value := .agg #[numPutV p, numReadV m p]
/-- A box for a field, still without one. -/
def NilBox (N x : Nat) (w : World) : Prop := N ≤ x ∧ w.heap[x]? = some (.cells #[.nilFunc, .nilFunc] 50 (0, 0))
theorem NilBox.below {N x : Nat} {w w' : World} (h : NilBox N x w) (hb : Below w.heap.size w w') : NilBox N x w' := ⟨h.1, (hb.block x (box_lt h.2)).trans h.2⟩
/-- How far the row came: c fields made, which boxes. -/
structure FI (N F : Nat) (w0 : World) (c : Nat) (b1 b2 b3 : Bool) (u3 u4 u5 u9 u13 u17 : Value) (w : World) : Prop where
  below : Below N w0 w
  hN : N ≤ w.heap.size
  k1 : 1 ≤ c → ∃ p m, u9 = fieldV p m ∧ NumAt N p m F 1 16 w
  k2 : 2 ≤ c → ∃ p m, u13 = fieldV p m ∧ NumAt N p m F 2 1099511627776 w
  k3 : 3 ≤ c → ∃ p m, u17 = fieldV p m ∧ NumAt N p m F 3 1099511627776 w
  x1 : b1 = true → ∃ x, u3 = .pointer (some ⟨x, 0, none⟩) ∧ NilBox N x w
  x2 : b2 = true → ∃ x, u4 = .pointer (some ⟨x, 0, none⟩) ∧ NilBox N x w
  x3 : b3 = true → ∃ x, u5 = .pointer (some ⟨x, 0, none⟩) ∧ NilBox N x w
  d12 : b1 = true → b2 = true → u3 ≠ u4
  d13 : b1 = true → b3 = true → u3 ≠ u5
  d23 : b2 = true → b3 = true → u4 ≠ u5

theorem FI.mono {N F : Nat} {w0 : World} {c : Nat} {b1 b2 b3 : Bool} {u3 u4 u5 u9 u13 u17 : Value} {w w' : World} (h : FI N F w0 c b1 b2 b3 u3 u4 u5 u9 u13 u17 w) (hb : Below w.heap.size w w') : FI N F w0 c b1 b2 b3 u3 u4 u5 u9 u13 u17 w' :=
  ⟨h.below.trans (hb.mono h.hN), Nat.le_trans h.hN hb.size,
   fun q => (h.k1 q).elim fun p hp => hp.elim fun m hm => ⟨p, m, hm.1, hm.2.below hb⟩,
   fun q => (h.k2 q).elim fun p hp => hp.elim fun m hm => ⟨p, m, hm.1, hm.2.below hb⟩,
   fun q => (h.k3 q).elim fun p hp => hp.elim fun m hm => ⟨p, m, hm.1, hm.2.below hb⟩,
   fun q => (h.x1 q).elim fun x hx => ⟨x, hx.1, hx.2.below hb⟩,
   fun q => (h.x2 q).elim fun x hx => ⟨x, hx.1, hx.2.below hb⟩,
   fun q => (h.x3 q).elim fun x hx => ⟨x, hx.1, hx.2.below hb⟩, h.d12, h.d13, h.d23⟩
theorem new_box {N : Nat} {w : World} (hN : N ≤ w.heap.size) : NilBox N w.heap.size (w.alloc (.cells #[.nilFunc, .nilFunc] 50)) := ⟨hN, heap_alloc_new w _⟩
theorem old_ne {N : Nat} {w : World} {x : Nat} {u : Value} (h : u = .pointer (some ⟨x, 0, none⟩)) (hx : NilBox N x w) : Value.pointer (some ⟨w.heap.size, 0, none⟩) ≠ u := by
  intro e
  rw [h] at e
  have := box_lt hx.2
  injection e with e
  injection e with e
  injection e with e
  omega
theorem FI.alloc1 {N F : Nat} {w0 : World} {c : Nat} {b1 b2 b3 : Bool} {u3 u4 u5 u9 u13 u17 : Value} {w : World} (h : FI N F w0 c b1 b2 b3 u3 u4 u5 u9 u13 u17 w) : FI N F w0 c true b2 b3 (.pointer (some ⟨w.heap.size, 0, none⟩)) u4 u5 u9 u13 u17 (w.alloc (.cells #[.nilFunc, .nilFunc] 50)) := by
  have g := h.mono ((Below.refl w.heap.size w).alloc (Nat.le_refl _) (.cells #[.nilFunc, .nilFunc] 50))
  exact ⟨g.below, g.hN, g.k1, g.k2, g.k3, fun _ => ⟨_, rfl, new_box h.hN⟩, g.x2, g.x3, fun _ q => (h.x2 q).elim fun x hx => old_ne hx.1 hx.2, fun _ q => (h.x3 q).elim fun x hx => old_ne hx.1 hx.2, g.d23⟩
theorem FI.alloc2 {N F : Nat} {w0 : World} {c : Nat} {b1 b2 b3 : Bool} {u3 u4 u5 u9 u13 u17 : Value} {w : World} (h : FI N F w0 c b1 b2 b3 u3 u4 u5 u9 u13 u17 w) : FI N F w0 c b1 true b3 u3 (.pointer (some ⟨w.heap.size, 0, none⟩)) u5 u9 u13 u17 (w.alloc (.cells #[.nilFunc, .nilFunc] 50)) := by
  have g := h.mono ((Below.refl w.heap.size w).alloc (Nat.le_refl _) (.cells #[.nilFunc, .nilFunc] 50))
  exact ⟨g.below, g.hN, g.k1, g.k2, g.k3, g.x1, fun _ => ⟨_, rfl, new_box h.hN⟩, g.x3, fun q _ => (h.x1 q).elim fun x hx => (old_ne hx.1 hx.2).symm, g.d13, fun _ q => (h.x3 q).elim fun x hx => old_ne hx.1 hx.2⟩
theorem FI.alloc3 {N F : Nat} {w0 : World} {c : Nat} {b1 b2 b3 : Bool} {u3 u4 u5 u9 u13 u17 : Value} {w : World} (h : FI N F w0 c b1 b2 b3 u3 u4 u5 u9 u13 u17 w) : FI N F w0 c b1 b2 true u3 u4 (.pointer (some ⟨w.heap.size, 0, none⟩)) u9 u13 u17 (w.alloc (.cells #[.nilFunc, .nilFunc] 50)) := by
  have g := h.mono ((Below.refl w.heap.size w).alloc (Nat.le_refl _) (.cells #[.nilFunc, .nilFunc] 50))
  exact ⟨g.below, g.hN, g.k1, g.k2, g.k3, g.x1, g.x2, fun _ => ⟨_, rfl, new_box h.hN⟩, g.d12, fun q _ => (h.x1 q).elim fun x hx => (old_ne hx.1 hx.2).symm, fun q _ => (h.x2 q).elim fun x hx => (old_ne hx.1 hx.2).symm⟩
theorem NumAt.weak {N F N' p m i most : Nat} {w : World} (h : NumAt N' p m F i most w) (hN : N ≤ N') : NumAt N p m F i most w := ⟨Nat.le_trans hN h.hp, Nat.le_trans hN h.hm, h.cp, h.cm⟩
theorem FI.call1 {N F : Nat} {w0 : World} {b1 b2 b3 : Bool} {u3 u4 u5 u9 u13 u17 : Value} {w w' : World} {p m : Nat} (h : FI N F w0 0 b1 b2 b3 u3 u4 u5 u9 u13 u17 w) (hn : NumAt w.heap.size p m F 1 16 w') (hb : Below w.heap.size w w') : FI N F w0 1 b1 b2 b3 u3 u4 u5 (fieldV p m) u13 u17 w' := by
  have g := h.mono hb
  exact ⟨g.below, g.hN, fun _ => ⟨p, m, rfl, hn.weak h.hN⟩, fun q => by omega, fun q => by omega, g.x1, g.x2, g.x3, g.d12, g.d13, g.d23⟩
theorem FI.call2 {N F : Nat} {w0 : World} {b1 b2 b3 : Bool} {u3 u4 u5 u9 u13 u17 : Value} {w w' : World} {p m : Nat} (h : FI N F w0 1 b1 b2 b3 u3 u4 u5 u9 u13 u17 w) (hn : NumAt w.heap.size p m F 2 1099511627776 w') (hb : Below w.heap.size w w') : FI N F w0 2 b1 b2 b3 u3 u4 u5 u9 (fieldV p m) u17 w' := by
  have g := h.mono hb
  exact ⟨g.below, g.hN, fun _ => g.k1 (by omega), fun _ => ⟨p, m, rfl, hn.weak h.hN⟩, fun q => by omega, g.x1, g.x2, g.x3, g.d12, g.d13, g.d23⟩
theorem FI.call3 {N F : Nat} {w0 : World} {b1 b2 b3 : Bool} {u3 u4 u5 u9 u13 u17 : Value} {w w' : World} {p m : Nat} (h : FI N F w0 2 b1 b2 b3 u3 u4 u5 u9 u13 u17 w) (hn : NumAt w.heap.size p m F 3 1099511627776 w') (hb : Below w.heap.size w w') : FI N F w0 3 b1 b2 b3 u3 u4 u5 u9 u13 (fieldV p m) w' := by
  have g := h.mono hb
  exact ⟨g.below, g.hN, fun _ => g.k1 (by omega), fun _ => g.k2 (by omega), fun _ => ⟨p, m, rfl, hn.weak h.hN⟩, g.x1, g.x2, g.x3, g.d12, g.d13, g.d23⟩

/-- The frame of the call, in that region. -/
def frF (F : Nat) (u3 u4 u5 u9 u13 u17 : Value) : Act :=
  { tmps := #[.pointer (some ⟨F, 0, none⟩), undef, .slice none 0 0, u3, u4, u5, .pointer (some ⟨F, 0, none⟩), .pointer (some ⟨F, 0, none⟩), .pointer (some ⟨F, 1, none⟩), u9,
      .pointer (some ⟨F, 0, none⟩), .pointer (some ⟨F, 0, none⟩), .pointer (some ⟨F, 2, none⟩), u13, .pointer (some ⟨F, 0, none⟩), .pointer (some ⟨F, 0, none⟩), .pointer (some ⟨F, 3, none⟩), u17,
      undef, undef, undef, undef, undef, undef, undef, undef, undef, undef, undef, undef, undef, undef, undef, undef], defers := [] }
/-- What has come up. -/
def lstF (c : Nat) (b1 b2 b3 : Bool) : Array Bool := #[true, true, true, decide (1 ≤ c), true, true, true, decide (2 ≤ c), true, true, true, decide (3 ≤ c), b1, b2, b3, false, false, false]
/-- What may come up. -/
def rdyF (c : Nat) (b1 b2 b3 : Bool) : List Nat :=
  (if c = 0 then [3] else if c = 1 then [7] else if c = 2 then [11] else []) ++ ((if b1 then [] else [12]) ++ ((if b2 then [] else [13]) ++ (if b3 then [] else [14])))
theorem mem_rdyF {c : Nat} {b1 b2 b3 : Bool} {i : Nat} (h : i ∈ rdyF c b1 b2 b3) : (i = 3 ∧ c = 0) ∨ (i = 7 ∧ c = 1) ∨ (i = 11 ∧ c = 2) ∨ (i = 12 ∧ b1 = false) ∨ (i = 13 ∧ b2 = false) ∨ (i = 14 ∧ b3 = false) := by
  unfold rdyF at h
  rcases List.mem_append.1 h with h | h
  · split at h
    · rename_i q; exact .inl ⟨by simpa using h, q⟩
    · split at h
      · rename_i q; exact .inr (.inl ⟨by simpa using h, q⟩)
      · split at h
        · rename_i q; exact .inr (.inr (.inl ⟨by simpa using h, q⟩))
        · cases h
  · rcases List.mem_append.1 h with h | h
    · cases b1
      · exact .inr (.inr (.inr (.inl ⟨by simpa using h, rfl⟩)))
      · cases h
    · rcases List.mem_append.1 h with h | h
      · cases b2
        · exact .inr (.inr (.inr (.inr (.inl ⟨by simpa using h, rfl⟩))))
        · cases h
      · cases b3
        · exact .inr (.inr (.inr (.inr (.inr ⟨by simpa using h, rfl⟩))))
        · cases h

theorem if_zero : ∀ b : Bool, (if b then 0 else 1) = 0 → b = true := by decide
theorem and_zero {x : Nat} {b1 b2 b3 : Bool} (h : 0 = x + ((if b1 then 0 else 1) + ((if b2 then 0 else 1) + (if b3 then 0 else 1)))) : x = 0 ∧ b1 = true ∧ b2 = true ∧ b3 = true := by
  have h := h.symm
  rw [Nat.add_eq_zero_iff, Nat.add_eq_zero_iff, Nat.add_eq_zero_iff] at h
  exact ⟨h.1, if_zero _ h.2.1, if_zero _ h.2.2.1, if_zero _ h.2.2.2⟩
theorem any_orderF {P : Program} {ops : Array Oper} {Q : Exit → Act → World → Prop} {N F : Nat} {w0 : World}
    (s3 : ∀ (K : Act → World → Prop) u3 u4 u5 u9 u13 u17 w, (∀ p m w', NumAt w.heap.size p m F 1 16 w' → Below w.heap.size w w' → K (frF F u3 u4 u5 (fieldV p m) u13 u17) w') → wpOp P ops Q 3 K (frF F u3 u4 u5 u9 u13 u17) w)
    (s7 : ∀ (K : Act → World → Prop) u3 u4 u5 u9 u13 u17 w, (∀ p m w', NumAt w.heap.size p m F 2 1099511627776 w' → Below w.heap.size w w' → K (frF F u3 u4 u5 u9 (fieldV p m) u17) w') → wpOp P ops Q 7 K (frF F u3 u4 u5 u9 u13 u17) w)
    (s11 : ∀ (K : Act → World → Prop) u3 u4 u5 u9 u13 u17 w, (∀ p m w', NumAt w.heap.size p m F 3 1099511627776 w' → Below w.heap.size w w' → K (frF F u3 u4 u5 u9 u13 (fieldV p m)) w') → wpOp P ops Q 11 K (frF F u3 u4 u5 u9 u13 u17) w)
    (s12 : ∀ (K : Act → World → Prop) u3 u4 u5 u9 u13 u17 w, K (frF F (.pointer (some ⟨w.heap.size, 0, none⟩)) u4 u5 u9 u13 u17) (w.alloc (.cells #[.nilFunc, .nilFunc] 50)) → wpOp P ops Q 12 K (frF F u3 u4 u5 u9 u13 u17) w)
    (s13 : ∀ (K : Act → World → Prop) u3 u4 u5 u9 u13 u17 w, K (frF F u3 (.pointer (some ⟨w.heap.size, 0, none⟩)) u5 u9 u13 u17) (w.alloc (.cells #[.nilFunc, .nilFunc] 50)) → wpOp P ops Q 13 K (frF F u3 u4 u5 u9 u13 u17) w)
    (s14 : ∀ (K : Act → World → Prop) u3 u4 u5 u9 u13 u17 w, K (frF F u3 u4 (.pointer (some ⟨w.heap.size, 0, none⟩)) u9 u13 u17) (w.alloc (.cells #[.nilFunc, .nilFunc] 50)) → wpOp P ops Q 14 K (frF F u3 u4 u5 u9 u13 u17) w)
    (rd : ∀ c b1 b2 b3, c ≤ 3 → rdyF c b1 b2 b3 ≠ [] → Region.ready .any ops (lstF c b1 b2 b3) = rdyF c b1 b2 b3)
    (fin : ∀ u3 u4 u5 u9 u13 u17 w, FI N F w0 3 true true true u3 u4 u5 u9 u13 u17 w → wpAny P .any ops Q 3 (lstF 3 true true true) (frF F u3 u4 u5 u9 u13 u17) w) :
    ∀ n c b1 b2 b3 u3 u4 u5 u9 u13 u17 w, c ≤ 3 → n = (3 - c) + ((if b1 then 0 else 1) + ((if b2 then 0 else 1) + (if b3 then 0 else 1))) → FI N F w0 c b1 b2 b3 u3 u4 u5 u9 u13 u17 w →
      wpAny P .any ops Q (n + 3) (lstF c b1 b2 b3) (frF F u3 u4 u5 u9 u13 u17) w := by
  intro n
  induction n with
  | zero =>
    intro c b1 b2 b3 u3 u4 u5 u9 u13 u17 w hc hn hI
    obtain ⟨hc0, h1, h2, h3⟩ := and_zero hn
    subst h1 h2 h3
    obtain rfl : c = 3 := by omega
    exact fin _ _ _ _ _ _ _ hI
  | succ n ih =>
    intro c b1 b2 b3 u3 u4 u5 u9 u13 u17 w hc hn hI
    have hne : rdyF c b1 b2 b3 ≠ [] := by
      intro e
      unfold rdyF at e
      rcases Nat.lt_or_ge c 3 with g | g
      · match c, g with
        | 0, _ => cases e
        | 1, _ => cases e
        | 2, _ => cases e
      · obtain rfl : c = 3 := by omega
        cases b1 <;> cases b2 <;> cases b3 <;> first | (cases e; done) | (simp at hn)
    show wpAny P .any ops Q ((n + 3) + 1) _ _ _
    refine wpAny_all (rd c b1 b2 b3 hc hne) hne fun i hi => ?_
    rcases mem_rdyF hi with ⟨rfl, rfl⟩ | ⟨rfl, rfl⟩ | ⟨rfl, rfl⟩ | ⟨rfl, rfl⟩ | ⟨rfl, rfl⟩ | ⟨rfl, rfl⟩
    · exact s3 _ _ _ _ _ _ _ _ fun p m w' h hb => ih 1 b1 b2 b3 _ _ _ _ _ _ _ (by omega) (by omega) (hI.call1 h hb)
    · exact s7 _ _ _ _ _ _ _ _ fun p m w' h hb => ih 2 b1 b2 b3 _ _ _ _ _ _ _ (by omega) (by omega) (hI.call2 h hb)
    · exact s11 _ _ _ _ _ _ _ _ fun p m w' h hb => ih 3 b1 b2 b3 _ _ _ _ _ _ _ (by omega) (by omega) (hI.call3 h hb)
    · exact s12 _ _ _ _ _ _ _ _ (ih c true b2 b3 _ _ _ _ _ _ _ hc (by simp at hn ⊢; omega) hI.alloc1)
    · exact s13 _ _ _ _ _ _ _ _ (ih c b1 true b3 _ _ _ _ _ _ _ hc (by simp at hn ⊢; omega) hI.alloc2)
    · exact s14 _ _ _ _ _ _ _ _ (ih c b1 b2 true _ _ _ _ _ _ _ hc (by simp at hn ⊢; omega) hI.alloc3)
theorem cset_at {w : World} {a p : Addr} {v u : Value} (hne : p.block ≠ a.block) (h : w.cell? p = some v) : (w.setCell a u).cell? p = some v := by
  rw [World.cell?_setCell_other]
  · exact h
  · intro e; exact hne (by rw [e])
/-- The three boxes with their fields. -/
def Three (N F : Nat) (w0 : World) (x y z : Value) (w : World) : Prop := ∃ a b c p1 m1 p2 m2 p3 m3, x = .pointer (some ⟨a, 0, none⟩) ∧ y = .pointer (some ⟨b, 0, none⟩) ∧ z = .pointer (some ⟨c, 0, none⟩) ∧
  w.heap[a]? = some (.cells #[numPutV p1, numReadV m1 p1] 50 (0, 0)) ∧ w.heap[b]? = some (.cells #[numPutV p2, numReadV m2 p2] 50 (0, 0)) ∧ w.heap[c]? = some (.cells #[numPutV p3, numReadV m3 p3] 50 (0, 0)) ∧
  NumAt N p1 m1 F 1 16 w ∧ NumAt N p2 m2 F 2 1099511627776 w ∧ NumAt N p3 m3 F 3 1099511627776 w ∧ Below N w0 w

theorem apart_box {N p m F i most x : Nat} {w : World} (h : NumAt N p m F i most w) (hx : NilBox N x w) : p ≠ x ∧ m ≠ x := by
  have h0 : w.cell? ⟨x, 0, none⟩ = some Value.nilFunc := cell_of_row _ _ 0 _ _ _ hx.2
  constructor
  · rintro rfl
    have := h.cp
    rw [h0] at this
    cases this
  · rintro rfl
    have := h.cm
    rw [h0] at this
    cases this
theorem NumAt.set {N p m F i most : Nat} {w : World} (h : NumAt N p m F i most w) {a : Addr} (h1 : p ≠ a.block) (h2 : m ≠ a.block) (v : Value) : NumAt N p m F i most (w.setCell a v) :=
  ⟨h.hp, h.hm, cset_at h1 h.cp, cset_at h2 h.cm⟩
/-- What the three stores leave. -/
def stored3 (w : World) (x y z p1 m1 p2 m2 p3 m3 : Nat) : World :=
  (((((w.setCell ⟨x, 0, none⟩ (numPutV p1)).setCell ⟨x, 1, none⟩ (numReadV m1 p1)).setCell ⟨y, 0, none⟩ (numPutV p2)).setCell ⟨y, 1, none⟩ (numReadV m2 p2)).setCell ⟨z, 0, none⟩ (numPutV p3)).setCell ⟨z, 1, none⟩ (numReadV m3 p3)
theorem three_fin {N F : Nat} {w0 w : World} {x y z p1 m1 p2 m2 p3 m3 : Nat} {u9 u13 u17 : Value} (h : FI N F w0 3 true true true (.pointer (some ⟨x, 0, none⟩)) (.pointer (some ⟨y, 0, none⟩)) (.pointer (some ⟨z, 0, none⟩)) u9 u13 u17 w)
    (h1 : NumAt N p1 m1 F 1 16 w) (h2 : NumAt N p2 m2 F 2 1099511627776 w) (h3 : NumAt N p3 m3 F 3 1099511627776 w) (hx : NilBox N x w) (hy : NilBox N y w) (hz : NilBox N z w) :
    Three N F w0 (.pointer (some ⟨x, 0, none⟩)) (.pointer (some ⟨y, 0, none⟩)) (.pointer (some ⟨z, 0, none⟩)) (stored3 w x y z p1 m1 p2 m2 p3 m3) := by
  have nxy : x ≠ y := fun e => h.d12 rfl rfl (by rw [e])
  have nxz : x ≠ z := fun e => h.d13 rfl rfl (by rw [e])
  have nyz : y ≠ z := fun e => h.d23 rfl rfl (by rw [e])
  obtain ⟨a1, a2⟩ := apart_box h1 hx
  obtain ⟨a3, a4⟩ := apart_box h1 hy
  obtain ⟨a5, a6⟩ := apart_box h1 hz
  obtain ⟨b1, b2⟩ := apart_box h2 hx
  obtain ⟨b3, b4⟩ := apart_box h2 hy
  obtain ⟨b5, b6⟩ := apart_box h2 hz
  obtain ⟨c1, c2⟩ := apart_box h3 hx
  obtain ⟨c3, c4⟩ := apart_box h3 hy
  obtain ⟨c5, c6⟩ := apart_box h3 hz
  unfold stored3
  refine ⟨x, y, z, p1, m1, p2, m2, p3, m3, rfl, rfl, rfl, ?_, ?_, ?_, ?_, ?_, ?_, ?_⟩
  · exact (box_other nxz 1 _).trans ((box_other nxz 0 _).trans ((box_other nxy 1 _).trans ((box_other nxy 0 _).trans (box_set (box_set hx.2 0 _) 1 _))))
  · exact (box_other nyz 1 _).trans ((box_other nyz 0 _).trans (box_set (box_set ((box_other (Ne.symm nxy) 1 _).trans ((box_other (Ne.symm nxy) 0 _).trans hy.2)) 0 _) 1 _))
  · exact box_set (box_set ((box_other (Ne.symm nyz) 1 _).trans ((box_other (Ne.symm nyz) 0 _).trans ((box_other (Ne.symm nxz) 1 _).trans ((box_other (Ne.symm nxz) 0 _).trans hz.2)))) 0 _) 1 _
  · exact (((((h1.set a1 a2 _).set a1 a2 _).set a3 a4 _).set a3 a4 _).set a5 a6 _).set a5 a6 _
  · exact (((((h2.set b1 b2 _).set b1 b2 _).set b3 b4 _).set b3 b4 _).set b5 b6 _).set b5 b6 _
  · exact (((((h3.set c1 c2 _).set c1 c2 _).set c3 c4 _).set c3 c4 _).set c5 c6 _).set c5 c6 _
  · exact (((((h.below.setCell hx.1 _).setCell hx.1 _).setCell hy.1 _).setCell hy.1 _).setCell hz.1 _).setCell hz.1 _

end Go.Proofs.Ytckknopjhmpnhaa
