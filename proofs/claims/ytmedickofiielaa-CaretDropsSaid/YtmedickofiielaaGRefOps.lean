/- Texts of this proof, joined. -/
import Derived.Test.YtmedickofiielaaGPlain
import Derived.Test.YtmedickofiielaaGReads64
import Derived.Test.YtmedickofiielaaGNameEq
import Derived.Laws.StructEq
namespace Go.Proofs.Ytmedickofiielaa
open Go.RowKit

def opV (s q n k a : Int) (t : ByteArray) (sp : Value) : Value := .agg #[.int .i64 s, .int .i64 q, .int .i64 n, .int .i64 k, .int .i64 a, .string t, sp]
def OBox (N : Nat) (s q n k a : Int) (t : ByteArray) (sp : Value) (w W : World) : Prop :=
 W.cell? ⟨N, 0, none⟩ = some (.int .i64 s) ∧ W.cell? ⟨N, 1, none⟩ = some (.int .i64 q) ∧ W.cell? ⟨N, 2, none⟩ = some (.int .i64 n) ∧ W.cell? ⟨N, 3, none⟩ = some (.int .i64 k) ∧
  W.cell? ⟨N, 4, none⟩ = some (.int .i64 a) ∧ W.cell? ⟨N, 5, none⟩ = some (.string t) ∧ W.cell? ⟨N, 6, none⟩ = some sp ∧ Below N w W
theorem OBox.keep {N : Nat} {s q n k a : Int} {t : ByteArray} {sp : Value} {w W W' : World} (h : OBox N s q n k a t sp w W) (hb : Below W.heap.size W W') : OBox N s q n k a t sp w W' := by
 obtain ⟨h0, h1, h2, h3, h4, h5, h6, h7⟩ := h
 have hl : N < W.heap.size := World.block_lt_of_cell? W _ h0
 exact ⟨cell_stays hb h0, cell_stays hb h1, cell_stays hb h2, cell_stays hb h3, cell_stays hb h4, cell_stays hb h5, cell_stays hb h6, h7.trans (hb.mono (Nat.le_of_lt hl))⟩
theorem OBox.new (s q n k a : Int) (t : ByteArray) (sp : Value) (w : World) (ty : TypeId) : OBox w.heap.size s q n k a t sp w (w.alloc (.cells #[.int .i64 s, .int .i64 q, .int .i64 n, .int .i64 k, .int .i64 a, .string t, sp] ty)) := by
 have h := heap_alloc_new w (.cells #[.int .i64 s, .int .i64 q, .int .i64 n, .int .i64 k, .int .i64 a, .string t, sp] ty)
 exact ⟨cell_of_row _ _ 0 _ _ _ h, cell_of_row _ _ 1 _ _ _ h, cell_of_row _ _ 2 _ _ _ h, cell_of_row _ _ 3 _ _ _ h, cell_of_row _ _ 4 _ _ _ h, cell_of_row _ _ 5 _ _ _ h, cell_of_row _ _ 6 _ _ _ h, (Below.refl _ w).alloc (Nat.le_refl _) _⟩
end Go.Proofs.Ytmedickofiielaa

namespace Go.Proofs.Ytmedickofiielaa
open Go.RowKit

def mkSame (s a t s' a' t' : Int) : Bool := s == s' && (a == a' && t == t')
set_option maxHeartbeats 2000000 in
theorem mkEqR (w : World) (s a t s' a' t' : Int) : (Op.equalIn 10000 23 (mkA s a t) (mkA s' a' t')).run Try.prog w = .ok (mkSame s a t s' a' t') w := by
 have gi := Try.underlying3
 have ga := Try.isAgg3
 have gz := Try.sizeOf3
 unfold mkA mkSame
 rw [show (10000 : Nat) = 9999 + 1 from rfl, run_equalIn_struct w 9999 23 _ _ (by kernel_rfl) (by kernel_rfl)]
 simp only [Program.fieldsOf, Try.underlying23]
 simp only [Op.eqFields]
 go_simp
 by_cases h0 : s = s' <;> by_cases h1 : a = a' <;> by_cases h2 : t = t' <;> simp [h0, h1, h2]
theorem mkSame_self (s a t : Int) : mkSame s a t s a t = true := by simp [mkSame]
theorem mkEqR_eql (w : World) (s a t s' a' t' : Int) (x : Bool) (hx : mkSame s a t s' a' t' = x) :
  (binOp .eql 23 (.agg #[.int .i64 s, .int .i64 a, .int .i64 t]) (.agg #[.int .i64 s', .int .i64 a', .int .i64 t'])).run Try.prog w = .ok (.bool x) w := by
 rw [run_eql_struct]
 have h := mkEqR w s a t s' a' t'
 unfold mkA at h
 rw [h, hx]; rfl
end Go.Proofs.Ytmedickofiielaa

namespace Go.Proofs.Ytmedickofiielaa
open Go.RowKit

theorem list_data (x : ByteArray) : x.toList = x.data.toList := by obtain ⟨⟨l⟩⟩ := x; simp
end Go.Proofs.Ytmedickofiielaa

namespace Go.Proofs.Ytmedickofiielaa
open Go.RowKit

end Go.Proofs.Ytmedickofiielaa

namespace Go.Proofs.Ytmedickofiielaa
open Go.RowKit

def cA (c : PCell) : Value := .agg #[.int .i64 c.site, .int .i64 c.seq, .int .i64 c.off, .int .i32 c.r, .bool c.gone]
end Go.Proofs.Ytmedickofiielaa
