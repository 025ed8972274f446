/- Names as the keys of a map. -/
import Derived.Test.YtmedickofiielaaGNumsPlain
import Derived.Maps.Own
import Derived.Maps.OwnSet
import Derived.Maps.Views
import Derived.DeepKeys4
import Derived.MapViews
namespace Go.Proofs.Ytmedickofiielaa
open Go.RowKit Go.Maps Go.WideMaps

set_option maxRecDepth 100000 in
theorem name_row : (39 : TypeId) < Try.prog.types.size := of_decide_eq_true (by kernel_rfl)
theorem name_wide : (match Try.prog.underlying 39 with | some (.array _ _) | some (.struct _) => true | _ => false) = true := by rw [Try.underlying39]
theorem laid_out : laidOutB Try.prog = true := by kernel_rfl
set_option maxRecDepth 100000 in
theorem name_law : Keyed Try.prog 39 := Keyed.of_law (deep_law_laid laid_out (m := 2) (by omega) name_row (by kernel_rfl) name_wide)
theorem name_keyType : Try.prog.keyType 39 = true := by kernel_rfl
theorem name_cells : Try.prog.cellsOf 39 = 2 := by kernel_rfl
theorem int_cells : Try.prog.cellsOf 3 = 1 := by kernel_rfl
set_option maxRecDepth 100000 in
theorem types_size : ∃ m, Try.prog.types.size = m + 1 := ⟨_, (Nat.succ_pred_eq_of_pos (Nat.lt_of_le_of_lt (Nat.zero_le _) name_row)).symm⟩
def nkey (p : Int × Int) : Lit := .string (keyBytes [.int .i64 p.1, .int .i64 p.2])
set_option maxRecDepth 100000 in
theorem keyOf_name {s q : Int} (ws : (Lit.int .i64 s).wf = true) (wq : (Lit.int .i64 q).wf = true) : keyOf Try.prog 39 (.agg #[.int .i64 s, .int .i64 q]) = some (nkey (s, q)) := by
 obtain ⟨m, hm⟩ := types_size
 unfold keyOf
 simp only [Try.underlying39]
 rw [if_pos (by simp [name_keyType, Value.formed, Try.underlying39, name_cells]), hm]
 unfold Program.keyLits
 simp only [Try.underlying39, Value.cells]
 rw [if_pos (by rw [name_cells]; exact ⟨rfl, by simp⟩)]
 unfold nkey
 simp [int_cells, Program.keyLits, Try.underlying3, ws, wq]
theorem nkey_inj {p q : Int × Int} (wp1 : (Lit.int .i64 p.1).wf = true) (wp2 : (Lit.int .i64 p.2).wf = true) (wq1 : (Lit.int .i64 q.1).wf = true) (wq2 : (Lit.int .i64 q.2).wf = true) (h : nkey p = nkey q) : p = q := by
 have h1 := keyOf_name wp1 wp2
 have h2 := keyOf_name wq1 wq2
 have h3 := name_law.inj (h1.trans (congrArg some h)) h2
 obtain ⟨p1, p2⟩ := p
 obtain ⟨q1, q2⟩ := q
 simp at h3
 rw [h3.1, h3.2]
def nWf (p : Int × Int) : Prop := (Lit.int .i64 p.1).wf = true ∧ (Lit.int .i64 p.2).wf = true
end Go.Proofs.Ytmedickofiielaa
