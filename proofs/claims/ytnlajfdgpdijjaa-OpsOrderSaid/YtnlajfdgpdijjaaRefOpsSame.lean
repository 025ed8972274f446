/- Texts of this proof, joined. -/
import Derived.Test.YtnlajfdgpdijjaaRefVect
import Derived.Laws.StructEq
import Derived.Test.YtnlajfdgpdijjaaOpsPlain
import Derived.Test.YtnlajfdgpdijjaaReadsSp
import Derived.Test.YtnlajfdgpdijjaaRefSpNorm

/- Two names held against each other. -/
namespace Go.Proofs.Ytnlajfdgpdijjaa
open Go.RowKit

set_option maxHeartbeats 2000000 in
theorem nmEq (w : World) (s q s' q' : Int) :
    (Op.equalIn 10000 23 (.agg #[.int .i64 s, .int .i64 q]) (.agg #[.int .i64 s', .int .i64 q'])).run Try.prog w = .ok (s == s' && q == q') w := by
  have gi := Try.underlying3
  have ga := Try.isAgg3
  have gz := Try.sizeOf3
  rw [show (10000 : Nat) = 9999 + 1 from rfl, run_equalIn_struct w 9999 23 _ _ (by kernel_rfl) (by kernel_rfl)]
  simp only [Program.fieldsOf, Try.underlying23]
  simp only [Op.eqFields]
  go_simp
  by_cases h0 : s = s' <;> by_cases h1 : q = q' <;> simp [h0, h1]
theorem nmEq_eql (w : World) (s q s' q' : Int) (x : Bool) (hx : (s == s' && q == q') = x) :
    (binOp .eql 23 (.agg #[.int .i64 s, .int .i64 q]) (.agg #[.int .i64 s', .int .i64 q'])).run Try.prog w = .ok (.bool x) w := by
  rw [run_eql_struct, nmEq, hx]; rfl
theorem nmEq_neq (w : World) (s q s' q' : Int) (x : Bool) (hx : (s == s' && q == q') = x) :
    (binOp .neq 23 (.agg #[.int .i64 s, .int .i64 q]) (.agg #[.int .i64 s', .int .i64 q'])).run Try.prog w = .ok (.bool (!x)) w := by
  rw [run_neq_struct, nmEq, hx]; rfl
end Go.Proofs.Ytnlajfdgpdijjaa

/- The document's operations: a value of one, its box; Before. -/
namespace Go.Proofs.Ytnlajfdgpdijjaa
open Go.RowKit

/-- An operation by value. -/
def opV (s q n k a : Int) (t : ByteArray) (sp : Value) : Value := .agg #[.int .i64 s, .int .i64 q, .int .i64 n, .int .i64 k, .int .i64 a, .string t, sp]
/-- An operation's box. -/
def OBox (N : Nat) (s q n k a : Int) (t : ByteArray) (sp : Value) (w W : World) : Prop :=
  W.cell? ⟨N, 0, none⟩ = some (.int .i64 s) ∧ W.cell? ⟨N, 1, none⟩ = some (.int .i64 q) ∧ W.cell? ⟨N, 2, none⟩ = some (.int .i64 n) ∧ W.cell? ⟨N, 3, none⟩ = some (.int .i64 k) ∧
    W.cell? ⟨N, 4, none⟩ = some (.int .i64 a) ∧ W.cell? ⟨N, 5, none⟩ = some (.string t) ∧ W.cell? ⟨N, 6, none⟩ = some sp ∧ Below N w W
theorem OBox.keep {N : Nat} {s q n k a : Int} {t : ByteArray} {sp : Value} {w W W' : World} (h : OBox N s q n k a t sp w W) (hb : Below W.heap.size W W') : OBox N s q n k a t sp w W' := by
  obtain ⟨h0, h1, h2, h3, h4, h5, h6, h7⟩ := h
  have hl : N < W.heap.size := World.block_lt_of_cell? W _ h0
  exact ⟨cell_stays hb h0, cell_stays hb h1, cell_stays hb h2, cell_stays hb h3, cell_stays hb h4, cell_stays hb h5, cell_stays hb h6, h7.trans (hb.mono (Nat.le_of_lt hl))⟩
theorem OBox.new (s q n k a : Int) (t : ByteArray) (sp : Value) (w : World) (ty : TypeId) : OBox w.heap.size s q n k a t sp w (w.alloc (.cells #[.int .i64 s, .int .i64 q, .int .i64 n, .int .i64 k, .int .i64 a, .string t, sp] ty)) := by
  have h := heap_alloc_new w (.cells #[.int .i64 s, .int .i64 q, .int .i64 n, .int .i64 k, .int .i64 a, .string t, sp] ty)
  exact ⟨cell_of_row _ _ 0 _ _ _ h, cell_of_row _ _ 1 _ _ _ h, cell_of_row _ _ 2 _ _ _ h, cell_of_row _ _ 3 _ _ _ h, cell_of_row _ _ 4 _ _ _ h, cell_of_row _ _ 5 _ _ _ h, cell_of_row _ _ 6 _ _ _ h, (Below.refl _ w).alloc (Nat.le_refl _) _⟩
theorem OBox.draws {N : Nat} {s q n k a : Int} {t : ByteArray} {sp : Value} {w W : World} (h : OBox N s q n k a t sp w W) (m : Nat) : OBox N s q n k a t sp w (W.drewN m) := ⟨h.1, h.2.1, h.2.2.1, h.2.2.2.1, h.2.2.2.2.1, h.2.2.2.2.2.1, h.2.2.2.2.2.2.1, below_draws h.2.2.2.2.2.2.2 m⟩
set_option maxRecDepth 100000 in
set_option maxHeartbeats 4000000 in
theorem rBefore_any (s q n k a : Int) (t : ByteArray) (sp : Value) (s' q' n' k' a' : Int) (t' : ByteArray) (sp' : Value) (w : World) :
    Calls Try.prog 17 #[opV s q n k a t sp, opV s' q' n' k' a' t' sp'] w fun e w' => e = .returned (.bool (bef n s q n' s' q')) ∧ Below w.heap.size w w' := by
  have hL := fun W => rLess_any s q s' q' W
  unfold nmV at hL
  unfold opV
  have hbx := ((Below.refl w.heap.size w).alloc (Nat.le_refl _) (.cells #[.int .i64 s, .int .i64 q, .int .i64 n, .int .i64 k, .int .i64 a, .string t, sp] 26))
  have HBX := Lib.hid (hbx.alloc hbx.size (.cells #[.int .i64 s', .int .i64 q', .int .i64 n', .int .i64 k', .int .i64 a', .string t', sp'] 26))
  clear hbx
  by_cases h1 : n = n'
  · subst h1
    have hB := Lib.hid (show bef n s q n s' q' = nLess s q s' q' by unfold bef; rw [if_pos rfl])
    generalize nLess s q s' q' = r at *
    go_enter Try.func17, Try.ntmps17
    go_wp2_with fail
    refine (hL _).mono ?_
    clear hL
    rintro e w1 ⟨rfl, hb⟩
    have HW := Lib.hid (HBX.out.trans (hb.mono HBX.out.size))
    clear hb
    go_wp2
    go_ret
    exact ⟨ret_bool hB.out.symm, HW.out⟩
  · have e1 : (n == n') = false := beq_eq_false_iff_ne.2 h1
    clear hL
    by_cases h0 : n = 0
    · have hB := Lib.hid (show bef n s q n' s' q' = false by unfold bef; rw [if_neg h1, if_pos h0])
      have e0 : (n == 0) = true := beq_iff_eq.2 h0
      clear h0 h1
      go_enter Try.func17, Try.ntmps17
      go_wp2
      go_ret
      exact ⟨ret_bool hB.out.symm, HBX.out⟩
    · have e0 : (n == 0) = false := beq_eq_false_iff_ne.2 h0
      by_cases h2 : n' = 0
      · have hB := Lib.hid (show bef n s q n' s' q' = true by unfold bef; rw [if_neg h1, if_neg h0]; exact decide_eq_true (.inl h2))
        have e2 : (n' == 0) = true := beq_iff_eq.2 h2
        clear h0 h1 h2
        go_enter Try.func17, Try.ntmps17
        go_wp2
        go_ret
        exact ⟨ret_bool hB.out.symm, HBX.out⟩
      · have hB := Lib.hid (show bef n s q n' s' q' = decide (n < n') by unfold bef; rw [if_neg h1, if_neg h0]; exact decide_eq_decide.2 (by omega))
        have e2 : (n' == 0) = false := beq_eq_false_iff_ne.2 h2
        clear h0 h1 h2
        go_enter Try.func17, Try.ntmps17
        go_wp2
        go_ret
        exact ⟨ret_bool hB.out.symm, HBX.out⟩
end Go.Proofs.Ytnlajfdgpdijjaa

/- The document's operations: Same. -/
namespace Go.Proofs.Ytnlajfdgpdijjaa
open Go.RowKit

theorem list_data (x : ByteArray) : x.toList = x.data.toList := by obtain ⟨⟨l⟩⟩ := x; simp
theorem bytes_same {a b : ByteArray} (h : a.data.toList = b.data.toList) : a = b := by
  obtain ⟨⟨l⟩⟩ := a
  obtain ⟨⟨m⟩⟩ := b
  simp only at h
  rw [h]
set_option maxRecDepth 100000 in
set_option maxHeartbeats 4000000 in
theorem rOSame_any (s q n k a : Int) (t : ByteArray) (sp : Value) (s' q' n' k' a' : Int) (t' : ByteArray) (sp' : Value) (xs ys : List Sp) (w : World) (h1 : SpAt w sp xs) (h2 : SpAt w sp' ys) (hx : xs.length ≤ 1000000000) :
    Calls Try.prog 15 #[opV s q n k a t sp, opV s' q' n' k' a' t' sp'] w fun e w' => e = .returned (.bool (decide ((s = s' ∧ q = q') ∧ n = n' ∧ k = k' ∧ a = a' ∧ t = t' ∧ xs = ys))) ∧ Below w.heap.size w w' := by
  have hbx := ((Below.refl w.heap.size w).alloc (Nat.le_refl _) (.cells #[.int .i64 s, .int .i64 q, .int .i64 n, .int .i64 k, .int .i64 a, .string t, sp] 26))
  have hbx := hbx.alloc hbx.size (.cells #[.int .i64 s', .int .i64 q', .int .i64 n', .int .i64 k', .int .i64 a', .string t', sp'] 26)
  have hS := rSpSame_any sp sp' xs ys _ (h1.below hbx) (h2.below hbx) hx
  have HBX := Lib.hid hbx
  clear hbx h1 h2
  unfold opV
  obtain ⟨r, hr⟩ : ∃ r, decide ((s = s' ∧ q = q') ∧ n = n' ∧ k = k' ∧ a = a' ∧ t = t' ∧ xs = ys) = r := ⟨_, rfl⟩
  rw [hr]
  have HR := Lib.hid hr
  clear hr
  by_cases g1 : s = s' ∧ q = q'
  case neg =>
    have HV := Lib.hid (show r = false from HR.out.symm.trans (decide_eq_false fun h => g1 h.1))
    have hE := fun w => nmEq_eql w s q s' q' false (by
      cases hz : (s == s' && q == q') with
      | false => rfl
      | true =>
        obtain ⟨z1, z2⟩ := Bool.and_eq_true_iff.1 hz
        exact absurd ⟨by simpa using z1, by simpa using z2⟩ g1)
    clear g1 hS
    go_enter Try.func15, Try.ntmps15
    go_wp2
    go_ret
    exact ⟨ret_bool HV.out.symm, HBX.out⟩
  obtain ⟨rfl, rfl⟩ := g1
  have hE := fun w => nmEq_eql w s q s q true (by simp)
  by_cases g : n = n'
  case neg =>
    have HV := Lib.hid (show r = false from HR.out.symm.trans (decide_eq_false fun h => g h.2.1))
    have g0 : (n == n') = false := beq_eq_false_iff_ne.2 g
    clear g hS
    go_enter Try.func15, Try.ntmps15
    go_wp2
    go_ret
    exact ⟨ret_bool HV.out.symm, HBX.out⟩
  subst g
  by_cases g : k = k'
  case neg =>
    have HV := Lib.hid (show r = false from HR.out.symm.trans (decide_eq_false fun h => g h.2.2.1))
    have g0 : (k == k') = false := beq_eq_false_iff_ne.2 g
    clear g hS
    go_enter Try.func15, Try.ntmps15
    go_wp2
    go_ret
    exact ⟨ret_bool HV.out.symm, HBX.out⟩
  subst g
  by_cases g : a = a'
  case neg =>
    have HV := Lib.hid (show r = false from HR.out.symm.trans (decide_eq_false fun h => g h.2.2.2.1))
    have g0 : (a == a') = false := beq_eq_false_iff_ne.2 g
    clear g hS
    go_enter Try.func15, Try.ntmps15
    go_wp2
    go_ret
    exact ⟨ret_bool HV.out.symm, HBX.out⟩
  subst g
  by_cases g : t = t'
  case neg =>
    have HV := Lib.hid (show r = false from HR.out.symm.trans (decide_eq_false fun h => g h.2.2.2.2.1))
    have g1 : ¬ t.toList = t'.toList := fun e => g (bytes_same (by rwa [list_data, list_data] at e))
    clear g
    clear hS
    go_enter Try.func15, Try.ntmps15
    go_wp2
    go_ret
    exact ⟨ret_bool HV.out.symm, HBX.out⟩
  subst g
  have HV := Lib.hid (show r = decide (xs = ys) from HR.out.symm.trans (decide_eq_decide.2 ⟨fun h => h.2.2.2.2.2, fun h => ⟨⟨rfl, rfl⟩, rfl, rfl, rfl, rfl, h⟩⟩))
  clear HR
  generalize decide (xs = ys) = r' at *
  go_enter Try.func15, Try.ntmps15
  go_wp2_with fail
  refine hS.mono ?_
  clear hS
  rintro e w1 ⟨rfl, hb⟩
  have HW := Lib.hid (HBX.out.trans (hb.mono HBX.out.size))
  clear hb
  go_wp2
  go_ret
  exact ⟨ret_bool HV.out.symm, HW.out⟩
end Go.Proofs.Ytnlajfdgpdijjaa
