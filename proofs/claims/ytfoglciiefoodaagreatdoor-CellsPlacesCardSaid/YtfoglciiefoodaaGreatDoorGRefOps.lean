/- Texts of this proof, joined. -/
import Derived.Test.YtfoglciiefoodaaGreatDoorGPlain
import Derived.Test.YtfoglciiefoodaaGreatDoorGReads64
import Derived.Test.YtfoglciiefoodaaGreatDoorGNameEq
import Derived.Laws.StructEq
namespace Go.Proofs.YtfoglciiefoodaaGreatDoor
open Go.RowKit

def opV (s q n k a : Int) (t : ByteArray) (sp : Value) : Value := .agg #[.int .i64 s, .int .i64 q, .int .i64 n, .int .i64 k, .int .i64 a, .string t, sp]
def OBox (N : Nat) (s q n k a : Int) (t : ByteArray) (sp : Value) (w W : World) : Prop :=
  W.cell? ⟨N, 0, none⟩ = some (.int .i64 s) ∧ W.cell? ⟨N, 1, none⟩ = some (.int .i64 q) ∧ W.cell? ⟨N, 2, none⟩ = some (.int .i64 n) ∧ W.cell? ⟨N, 3, none⟩ = some (.int .i64 k) ∧
    W.cell? ⟨N, 4, none⟩ = some (.int .i64 a) ∧ W.cell? ⟨N, 5, none⟩ = some (.string t) ∧ W.cell? ⟨N, 6, none⟩ = some sp ∧ Below N w W
theorem OBox.keep {N : Nat} {s q n k a : Int} {t : ByteArray} {sp : Value} {w W W' : World} (h : OBox N s q n k a t sp w W) (hb : Below W.heap.size W W') : OBox N s q n k a t sp w W' := by
  obtain ⟨h0, h1, h2, h3, h4, h5, h6, h7⟩ := h
  have hl : N < W.heap.size := World.block_lt_of_cell? W _ h0
  exact ⟨cell_stays hb h0, cell_stays hb h1, cell_stays hb h2, cell_stays hb h3, cell_stays hb h4, cell_stays hb h5, cell_stays hb h6, h7.trans (hb.mono (Nat.le_of_lt hl))⟩
theorem OBox.new (s q n k a : Int) (t : ByteArray) (sp : Value) (w : World) (ty : TypeId) : OBox w.heap.size s q n k a t sp w (w.alloc (.cells #[.int .i64 s, .int .i64 q, .int .i64 n, .int .i64 k, .int .i64 a, .string t, sp] ty)) := by
  have h := heap_alloc_new w (.cells #[.int .i64 s, .int .i64 q, .int .i64 n, .int .i64 k, .int .i64 a, .string t, sp] ty)
  exact ⟨cell_of_row _ _ 0 _ _ _ h, cell_of_row _ _ 1 _ _ _ h, cell_of_row _ _ 2 _ _ _ h, cell_of_row _ _ 3 _ _ _ h, cell_of_row _ _ 4 _ _ _ h, cell_of_row _ _ 5 _ _ _ h, cell_of_row _ _ 6 _ _ _ h, (Below.refl _ w).alloc (Nat.le_refl _) _⟩
end Go.Proofs.YtfoglciiefoodaaGreatDoor

namespace Go.Proofs.YtfoglciiefoodaaGreatDoor
open Go.RowKit

theorem list_data (x : ByteArray) : x.toList = x.data.toList := by obtain ⟨⟨l⟩⟩ := x; simp
end Go.Proofs.YtfoglciiefoodaaGreatDoor

namespace Go.Proofs.YtfoglciiefoodaaGreatDoor
open Go.RowKit

def RowC (sz : Nat) (W : World) (v : Value) (n : Nat) (cs : List Value) : Prop :=
  cs.length = n * sz ∧ ∃ ao cap, v = .slice ao n cap ∧ n ≤ cap ∧ cap ≤ maxLen ∧ (ao = none → cap = 0) ∧ ∀ ad, ao = some ad → ∃ b off, ad = ⟨b, off, none⟩ ∧ b < W.heap.size ∧ ∀ j u, cs[j]? = some u → W.cell? ⟨b, off + j, none⟩ = some u
theorem RowC.nil (sz : Nat) (W : World) : RowC sz W (.slice none 0 0) 0 [] := ⟨by simp, none, 0, rfl, Nat.le_refl _, Nat.zero_le _, fun _ => rfl, fun _ h => by cases h⟩
theorem RowC.below {sz : Nat} {W W' : World} {v : Value} {n : Nat} {cs : List Value} (h : RowC sz W v n cs) (hb : Below W.heap.size W W') : RowC sz W' v n cs := by
  obtain ⟨hl, ao, cap, rfl, h1, h2, h3, h4⟩ := h
  refine ⟨hl, ao, cap, rfl, h1, h2, h3, fun ad ha => ?_⟩
  obtain ⟨b, off, e, hlt, hc⟩ := h4 ad ha
  exact ⟨b, off, e, Nat.lt_of_lt_of_le hlt hb.size, fun j u hj => cell_stays hb (hc j u hj)⟩
theorem RowC.reads {sz : Nat} {W : World} {v : Value} {n : Nat} {cs : List Value} (h : RowC sz W v n cs) : RowR sz W v n cs := by
  obtain ⟨hl, ao, cap, rfl, h1, h2, h3, h4⟩ := h
  refine ⟨hl, ao, cap, rfl, fun hn => ?_⟩
  cases ao with
  | none => have := h3 rfl; omega
  | some ad =>
    obtain ⟨b, off, rfl, _, hc⟩ := h4 _ rfl
    exact ⟨b, off, rfl, hc⟩
theorem RowC.of_own {sz : Nat} {W : World} {base : Nat} {e : TypeId} {v : Value} {n : Nat} {cs : List Value} (h : W.ownsRow base e sz v n cs) : RowC sz W v n cs := by
  refine ⟨h.1, ?_⟩
  rcases h.2 with ⟨hv, h0⟩ | ⟨g, cap, cur, hv, _, hg, h1, h2, _⟩
  · exact ⟨none, 0, by rw [hv, h0], by omega, Nat.zero_le _, fun _ => rfl, fun _ q => by cases q⟩
  · subst hv
    refine ⟨_, cap, rfl, h1, h2, (fun q => by cases q), fun ad q => ?_⟩
    cases q
    refine ⟨g, 0, rfl, (Array.getElem?_eq_some_iff.1 hg).1, fun j u hj => ?_⟩
    have hjl := (List.getElem?_eq_some_iff.1 hj).1
    rw [Nat.zero_add, h.cellAt j (by rw [← h.1]; exact hjl)]
    exact hj
def cV (c : PCell) : List Value := [.int .i64 c.site, .int .i64 c.seq, .int .i64 c.off, .int .i32 c.r, .bool c.gone]
def cCells : List PCell → List Value
  | [] => []
  | c :: r => cV c ++ cCells r
theorem cCells_append : ∀ a b, cCells (a ++ b) = cCells a ++ cCells b
  | [], _ => rfl
  | c :: r, b => by show cV c ++ cCells (r ++ b) = _; rw [cCells_append r b, ← List.append_assoc]; rfl
theorem cCells_length : ∀ l, (cCells l).length = l.length * 5
  | [] => rfl
  | c :: r => by
    show (cV c ++ cCells r).length = (r.length + 1) * 5
    rw [List.length_append, cCells_length r, show (cV c).length = 5 from rfl]
    omega
theorem cCells_at : ∀ (l : List PCell) (i j : Nat) (c : PCell), l[i]? = some c → j < 5 → (cCells l)[i * 5 + j]? = (cV c)[j]?
  | [], i, _, _, h, _ => by simp at h
  | d :: r, 0, j, c, h, hj => by
    obtain rfl : d = c := by simpa using h
    show (cV d ++ cCells r)[0 * 5 + j]? = _
    rw [List.getElem?_append_left (by show 0 * 5 + j < 5; omega), show 0 * 5 + j = j by omega]
  | d :: r, i + 1, j, c, h, hj => by
    show (cV d ++ cCells r)[(i + 1) * 5 + j]? = _
    rw [List.getElem?_append_right (by show 5 ≤ (i + 1) * 5 + j; omega), show (i + 1) * 5 + j - (cV d).length = i * 5 + j by show (i + 1) * 5 + j - 5 = _; omega]
    exact cCells_at r i j c (by simpa using h) hj
theorem cCells_take (l : List PCell) (k : Nat) (hk : k ≤ l.length) : (cCells l).take (k * 5) = cCells (l.take k) := by
  have e := cCells_append (l.take k) (l.drop k)
  rw [List.take_append_drop] at e
  rw [e, List.take_left' (by rw [cCells_length, List.length_take]; omega)]
theorem cCells_drop (l : List PCell) (k : Nat) (hk : k ≤ l.length) : (cCells l).drop (k * 5) = cCells (l.drop k) := by
  have e := cCells_append (l.take k) (l.drop k)
  rw [List.take_append_drop] at e
  rw [e, List.drop_left' (by rw [cCells_length, List.length_take]; omega)]
theorem cV_one (c : PCell) : ∀ u ∈ cV c, u.oneCell' = true := by
  intro u hu
  simp only [cV, List.mem_cons, List.not_mem_nil, or_false] at hu
  rcases hu with rfl | rfl | rfl | rfl | rfl <;> rfl
theorem cCells_ones : ∀ (l : List PCell), ∀ u ∈ cCells l, u.oneCell' = true
  | [], u, h => by cases h
  | c :: r, u, h => by
    rcases List.mem_append.1 h with h | h
    · exact cV_one c u h
    · exact cCells_ones r u h
def CAt (W : World) (v : Value) (l : List PCell) : Prop := RowC 5 W v l.length (cCells l)
theorem CAt.nil (W : World) : CAt W (.slice none 0 0) [] := RowC.nil 5 W
theorem CAt.below {W W' : World} {v : Value} {l : List PCell} (h : CAt W v l) (hb : Below W.heap.size W W') : CAt W' v l := RowC.below h hb
theorem CAt.of_own {W : World} {base : Nat} {e : TypeId} {v : Value} {n : Nat} {l : List PCell} (h : W.ownsRow base e 5 v n (cCells l)) (hn : n = l.length) : CAt W v l := by
  subst hn
  exact RowC.of_own h
theorem CAt.shape {W : World} {v : Value} {l : List PCell} (h : CAt W v l) : ∃ ao cap, v = .slice ao l.length cap ∧ l.length ≤ cap ∧ cap ≤ maxLen := by
  obtain ⟨_, ao, cap, e, h1, h2, _⟩ := h
  exact ⟨ao, cap, e, h1, h2⟩
theorem CAt.at {W : World} {v : Value} {l : List PCell} (h : CAt W v l) {i : Nat} {c : PCell} (hi : l[i]? = some c) : ∃ b off cap, v = .slice (some ⟨b, off, none⟩) l.length cap ∧
    W.cell? ⟨b, off + i * 5, none⟩ = some (.int .i64 c.site) ∧ W.cell? ⟨b, off + i * 5 + 1, none⟩ = some (.int .i64 c.seq) ∧ W.cell? ⟨b, off + i * 5 + 2, none⟩ = some (.int .i64 c.off) ∧
    W.cell? ⟨b, off + i * 5 + 3, none⟩ = some (.int .i32 c.r) ∧ W.cell? ⟨b, off + i * 5 + 4, none⟩ = some (.bool c.gone) := by
  obtain ⟨_, ao, cap, rfl, h2⟩ := h.reads
  have hl := (List.getElem?_eq_some_iff.1 hi).1
  obtain ⟨b, off, rfl, hc⟩ := h2 (by omega)
  have e : ∀ j, j < 5 → W.cell? ⟨b, off + i * 5 + j, none⟩ = (cV c)[j]? := fun j hj => by
    have q := cCells_at l i j c hi hj
    have hlt : j < (cV c).length := hj
    rw [List.getElem?_eq_getElem hlt] at q ⊢
    rw [Nat.add_assoc]
    exact hc _ _ q
  refine ⟨b, off, cap, rfl, ?_, e 1 (by decide), e 2 (by decide), e 3 (by decide), e 4 (by decide)⟩
  exact e 0 (by decide)
end Go.Proofs.YtfoglciiefoodaaGreatDoor

namespace Go.Proofs.YtfoglciiefoodaaGreatDoor
open Go.RowKit

def cA (c : PCell) : Value := .agg #[.int .i64 c.site, .int .i64 c.seq, .int .i64 c.off, .int .i32 c.r, .bool c.gone]
end Go.Proofs.YtfoglciiefoodaaGreatDoor
