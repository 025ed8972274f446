/- Bytes that are made one with others: rows of bytes that may be written. (As in the law CrcTurned, which has them in its own text: never both.) -/
import Derived.Test.YtckknopjhmpnhaaConvOwn
import Derived.Test.YtckknopjhmpnhaaCrcEq4
import Derived.Test.YtckknopjhmpnhaaCrcMore
namespace Go.Proofs.Ytckknopjhmpnhaa
open Go.RowKit

/-- A text of which the k bytes from a place on are made one with others. -/
def turnL (l : List UInt8) (at_ : Nat) (xs : Nat → UInt8) : Nat → List UInt8
  | 0 => l
  | k + 1 => (turnL l at_ xs k).set (at_ + k) ((turnL l at_ xs k)[at_ + k]?.getD 0 ^^^ xs k)
theorem turnL_length (l : List UInt8) (at_ : Nat) (xs : Nat → UInt8) : ∀ k, (turnL l at_ xs k).length = l.length
  | 0 => rfl
  | k + 1 => by unfold turnL; rw [List.length_set, turnL_length]
theorem four_split (l : List UInt8) (n : Nat) (h : n + 4 ≤ l.length) : ∃ p a b c d q, l = p ++ (a :: b :: c :: d :: q) ∧ p.length = n := by
  refine ⟨l.take n, l[n], l[n + 1], l[n + 2], l[n + 3], l.drop (n + 4), ?_, by rw [List.length_take]; omega⟩
  rw [← List.drop_eq_getElem_cons (by omega), ← List.drop_eq_getElem_cons (by omega), ← List.drop_eq_getElem_cons (by omega), ← List.drop_eq_getElem_cons (by omega), List.take_append_drop]
theorem turn_four (p q : List UInt8) (a b c d : UInt8) (xs : Nat → UInt8) :
    turnL (p ++ (a :: b :: c :: d :: q)) p.length xs 4 = p ++ ((a ^^^ xs 0) :: (b ^^^ xs 1) :: (c ^^^ xs 2) :: (d ^^^ xs 3) :: q) := by
  simp [turnL]
/-- The bytes l lie in block B, and may be written. -/
def BRow (w : World) (B : Nat) (l : List UInt8) : Prop := ∀ j (h : j < l.length), w.cell? ⟨B, j, none⟩ = some (.int .u8 (l[j].toNat : Nat)) ∧ w.frozen? ⟨B, j, none⟩ = false
theorem BRow.set {w : World} {B : Nat} {l : List UInt8} (h : BRow w B l) (i : Nat) (v : UInt8) : BRow (w.setCell ⟨B, i, none⟩ (.int .u8 (v.toNat : Nat))) B (l.set i v) := fun j hj => by
  rw [List.length_set] at hj
  obtain ⟨h1, h2⟩ := h j hj
  refine ⟨?_, by rw [World.frozen?_setCell]; exact h2⟩
  by_cases e : i = j
  · subst e
    rw [World.cell?_setCell_same _ _ _ h1]
    simp
  · rw [World.cell?_setCell_other _ _ _ _ (by intro he; cases he; exact e rfl), h1]
    simp [e]
theorem BRow.drew {w : World} {B : Nat} {l : List UInt8} (h : BRow w B l) : BRow w.drew B l := h
theorem bytes_row (w : World) (s : ByteArray) (cap : Nat) (t : TypeId) : BRow (w.alloc (.cells (bytesRow s cap) t ((bytesRow s cap).size, (bytesRow s cap).size + 1))) w.heap.size s.data.toList := fun j hj => by
  have hj' : j < s.data.size := by simpa using hj
  refine ⟨?_, ?_⟩
  · rw [World.cell?_alloc_mark, bytesRow_at s cap j hj']
    simp
  · rw [World.frozen?_alloc_mark]
    have : ¬ (bytesRow s cap).size ≤ j := by
      have : s.data.size ≤ (bytesRow s cap).size := by simp [bytesRow]
      omega
    simp [this]
/-- The four bytes that a text is made one with. -/
def four (x0 x1 x2 x3 : UInt8) : Nat → UInt8
  | 0 => x0
  | 1 => x1
  | 2 => x2
  | _ => x3
theorem xor8 (a b : UInt8) : bits BinOp.xor IntKind.u8 (a.toNat : Int) (b.toNat : Int) = ((a ^^^ b).toNat : Nat) := by
  rw [UInt8.toNat_xor]; exact u8_xor_nat _ _ a.toNat_lt b.toNat_lt

theorem keepTurned {B : Nat} {x0 x1 x2 x3 : Value} {w W W' : World} (h : W.cell? ⟨B, 0, none⟩ = some x0 ∧ W.cell? ⟨B, 1, none⟩ = some x1 ∧ W.cell? ⟨B, 2, none⟩ = some x2 ∧ W.cell? ⟨B, 3, none⟩ = some x3 ∧ Below B w W) (hb : Below W.heap.size W W') :
    W'.cell? ⟨B, 0, none⟩ = some x0 ∧ W'.cell? ⟨B, 1, none⟩ = some x1 ∧ W'.cell? ⟨B, 2, none⟩ = some x2 ∧ W'.cell? ⟨B, 3, none⟩ = some x3 ∧ Below B w W' := by
  have hl : B < W.heap.size := World.block_lt_of_cell? W _ h.1
  obtain ⟨h0, h1, h2, h3, h4⟩ := h
  exact ⟨(hb.cell (p := ⟨B, 0, none⟩) hl).trans h0, (hb.cell (p := ⟨B, 1, none⟩) hl).trans h1, (hb.cell (p := ⟨B, 2, none⟩) hl).trans h2, (hb.cell (p := ⟨B, 3, none⟩) hl).trans h3, h4.trans (hb.mono (Nat.le_of_lt hl))⟩

theorem xor_self_zero {a x : UInt8} (h : a ^^^ x = a) : x = 0 := by
  have := congrArg (fun z => a ^^^ z) h
  simpa [← UInt8.xor_assoc] using this
theorem turn_same {l : List UInt8} {n : Nat} {xs : Nat → UInt8} (h : n + 4 ≤ l.length) (he : turnL l n xs 4 = l) : xs 0 = 0 ∧ xs 1 = 0 ∧ xs 2 = 0 ∧ xs 3 = 0 := by
  obtain ⟨p, a, b, c, d, q, rfl, rfl⟩ := four_split l n h
  rw [turn_four] at he
  have := List.append_cancel_left he
  simp only [List.cons.injEq, and_true] at this
  exact ⟨xor_self_zero this.1, xor_self_zero this.2.1, xor_self_zero this.2.2.1, xor_self_zero this.2.2.2⟩
end Go.Proofs.Ytckknopjhmpnhaa
