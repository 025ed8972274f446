/- The document's operations: May of any size, May of edits, a number's bytes. -/
import Derived.Test.YtnlajfdgpdijjaaRefOpsMay
import Derived.Test.YtnlajfdgpdijjaaNumsPut
namespace Go.Proofs.Ytnlajfdgpdijjaa
open Go.RowKit
open Go.Lib (uvarint)

set_option maxRecDepth 100000 in
set_option maxHeartbeats 2000000 in
theorem rOAny_any (s q n k a : Int) (t : ByteArray) (sp : Value) (xs : List Sp) (ht : t.size ≤ 1000000) (w : World) (h : SpAt w sp xs) (hx : xs.length ≤ 1000000000) (ha : (Lit.int .i64 a).wf = true) :
    Calls Try.prog 19 #[opV s q n k a t sp] w fun e w' => e = .returned (.bool (oAny ⟨s, q, n, k, a, t.data.toList, xs⟩)) ∧ Below w.heap.size w w' := by
  have hbx := OBox.new s q n k a t sp w 26
  have hs := h.below hbx.2.2.2.2.2.2.2
  have hM := fun size => rOMay_any s q n k a size t sp xs ht _ hs hx ha
  have HB := Lib.hid hbx.2.2.2.2.2.2.2
  clear hbx hs
  unfold opV at hM ⊢
  by_cases hk : k = 1
  · have hV := Lib.hid (show oAny ⟨s, q, n, k, a, t.data.toList, xs⟩ = oMay ⟨s, q, n, k, a, t.data.toList, xs⟩ a from if_pos hk)
    have hM := hM a
    generalize oMay ⟨s, q, n, k, a, t.data.toList, xs⟩ a = r at *
    subst hk
    go_enter Try.func19, Try.ntmps19
    go_wp2_with fail
    refine hM.mono ?_
    clear hM
    rintro e w1 ⟨rfl, hb⟩
    have HW := Lib.hid (HB.out.trans (hb.mono HB.out.size))
    clear hb
    go_wp2
    go_ret
    exact ⟨ret_bool hV.out.symm, HW.out⟩
  · have hV := Lib.hid (show oAny ⟨s, q, n, k, a, t.data.toList, xs⟩ = oMay ⟨s, q, n, k, a, t.data.toList, xs⟩ 20000 from if_neg hk)
    have hM := hM 20000
    generalize oMay ⟨s, q, n, k, a, t.data.toList, xs⟩ 20000 = r at *
    have hk1 : (k == 1) = false := beq_eq_false_iff_ne.2 hk
    clear hk
    go_enter Try.func19, Try.ntmps19
    go_wp2_with fail
    refine hM.mono ?_
    clear hM
    rintro e w1 ⟨rfl, hb⟩
    have HW := Lib.hid (HB.out.trans (hb.mono HB.out.size))
    clear hb
    go_wp2
    go_ret
    exact ⟨ret_bool hV.out.symm, HW.out⟩
set_option maxRecDepth 100000 in
set_option maxHeartbeats 2000000 in
theorem rOn_any (x : Nat) (hx : x < 9223372036854775808) (w : World) :
    Calls Try.prog 48 #[.int .i64 x] w fun e w' => e = .returned (.string ⟨(uvarint x).toArray⟩) ∧ Below w.heap.size w w' := by
  have hP := rput_any x (by omega) w
  have hw : IntKind.u64.wrap (x : Int) = (x : Int) := by simp only [IntKind.wrap_u64]; omega
  go_enter Try.func48, Try.ntmps48
  go_wp2_with fail
  refine hP.mono ?_
  clear hP
  rintro e w1 ⟨rfl, hb⟩
  go_wp2
  go_ret
  exact ⟨rfl, hb⟩
/-- An edit by value. -/
def edV (s q c k a l : Int) (t : ByteArray) : Value := .agg #[.int .i64 s, .int .i64 q, .int .i64 c, .int .i64 k, .int .i64 a, .int .i64 l, .string t]
/-- An edit's box. -/
def EBox (N : Nat) (s q c k a l : Int) (t : ByteArray) (w W : World) : Prop :=
  W.cell? ⟨N, 0, none⟩ = some (.int .i64 s) ∧ W.cell? ⟨N, 1, none⟩ = some (.int .i64 q) ∧ W.cell? ⟨N, 2, none⟩ = some (.int .i64 c) ∧ W.cell? ⟨N, 3, none⟩ = some (.int .i64 k) ∧
    W.cell? ⟨N, 4, none⟩ = some (.int .i64 a) ∧ W.cell? ⟨N, 5, none⟩ = some (.int .i64 l) ∧ W.cell? ⟨N, 6, none⟩ = some (.string t) ∧ Below N w W
theorem EBox.keep {N : Nat} {s q c k a l : Int} {t : ByteArray} {w W W' : World} (h : EBox N s q c k a l t w W) (hb : Below W.heap.size W W') : EBox N s q c k a l t w W' := by
  obtain ⟨h0, h1, h2, h3, h4, h5, h6, h7⟩ := h
  have hl : N < W.heap.size := World.block_lt_of_cell? W _ h0
  exact ⟨cell_stays hb h0, cell_stays hb h1, cell_stays hb h2, cell_stays hb h3, cell_stays hb h4, cell_stays hb h5, cell_stays hb h6, h7.trans (hb.mono (Nat.le_of_lt hl))⟩
theorem EBox.new (s q c k a l : Int) (t : ByteArray) (w : World) (ty : TypeId) : EBox w.heap.size s q c k a l t w (w.alloc (.cells #[.int .i64 s, .int .i64 q, .int .i64 c, .int .i64 k, .int .i64 a, .int .i64 l, .string t] ty)) := by
  have h := heap_alloc_new w (.cells #[.int .i64 s, .int .i64 q, .int .i64 c, .int .i64 k, .int .i64 a, .int .i64 l, .string t] ty)
  exact ⟨cell_of_row _ _ 0 _ _ _ h, cell_of_row _ _ 1 _ _ _ h, cell_of_row _ _ 2 _ _ _ h, cell_of_row _ _ 3 _ _ _ h, cell_of_row _ _ 4 _ _ _ h, cell_of_row _ _ 5 _ _ _ h, cell_of_row _ _ 6 _ _ _ h, (Below.refl _ w).alloc (Nat.le_refl _) _⟩
theorem eMay_no {s q c k a l : Int} {t : List UInt8} (h : ¬ (nMay s q = true ∧ 0 ≤ c ∧ c ≤ 1099511627776 ∧ 0 ≤ a ∧ a ≤ 20000)) : eMay ⟨s, q, c, k, a, l, t⟩ = false := by
  cases hz : eMay ⟨s, q, c, k, a, l, t⟩ with
  | false => rfl
  | true =>
    unfold eMay at hz
    dsimp only at hz
    simp only [Bool.and_eq_true, decide_eq_true_eq] at hz
    exact absurd ⟨hz.1.1.1, hz.1.1.2.1, hz.1.1.2.2, hz.1.2.1, hz.1.2.2⟩ h
theorem eMay_yes {s q c k a l : Int} {t : List UInt8} (h : nMay s q = true ∧ 0 ≤ c ∧ c ≤ 1099511627776 ∧ 0 ≤ a ∧ a ≤ 20000) :
    eMay ⟨s, q, c, k, a, l, t⟩ = if k = 1 then decide (l = 0) && mayT t else decide (k = 2) && decide (1 ≤ l ∧ l ≤ 20000) && decide (t = []) := by
  unfold eMay
  dsimp only
  rw [h.1, decide_eq_true (show 0 ≤ c ∧ c ≤ 1099511627776 from ⟨h.2.1, h.2.2.1⟩), decide_eq_true (show 0 ≤ a ∧ a ≤ 20000 from h.2.2.2)]
  simp
set_option maxRecDepth 100000 in
set_option maxHeartbeats 4000000 in
theorem rEMay_any (s q c k a l : Int) (t : ByteArray) (ht : t.size ≤ 1000000) (w : World) :
    Calls Try.prog 30 #[edV s q c k a l t] w fun e w' => e = .returned (.bool (eMay ⟨s, q, c, k, a, l, t.data.toList⟩)) ∧ Below w.heap.size w w' := by
  have hM := fun W => rMayName_any s q W
  unfold nmV at hM
  have hT := fun W => rOText_any t ht W
  have hbx := EBox.new s q c k a l t w 49
  obtain ⟨R, hR⟩ : ∃ R, eMay ⟨s, q, c, k, a, l, t.data.toList⟩ = R := ⟨_, rfl⟩
  rw [hR]
  have HNO := Lib.hid (show ¬ (nMay s q = true ∧ 0 ≤ c ∧ c ≤ 1099511627776 ∧ 0 ≤ a ∧ a ≤ 20000) → R = false from fun g => by rw [← hR]; exact eMay_no g)
  have HR := Lib.hid hR
  have HB := Lib.hid hbx
  clear hR hbx
  unfold edV
  go_enter Try.func30, Try.ntmps30
  go_wp2_with fail
  refine (hM _).mono ?_
  clear hM
  rintro e w1 ⟨rfl, hb⟩
  have H1 := Lib.hid (HB.out.keep hb)
  clear hb HB
  obtain ⟨c0, c1, c2, c3, c4, c5, c6, _⟩ := id H1.out
  cases hm : nMay s q with
  | false =>
    have hV := Lib.hid (HNO.out (by rw [hm]; intro q; exact Bool.noConfusion q.1))
    clear hm
    go_wp2
    go_ret
    exact ⟨ret_bool hV.out.symm, H1.out.2.2.2.2.2.2.2⟩
  | true =>
  by_cases g : 0 ≤ c ∧ c ≤ 1099511627776 ∧ 0 ≤ a ∧ a ≤ 20000
  case neg =>
    have hV := Lib.hid (HNO.out (fun z => g z.2))
    clear hm HNO HR
    have hq : c < 0 ∨ (¬ c < 0 ∧ 1099511627776 < c) ∨ (¬ c < 0 ∧ ¬ 1099511627776 < c ∧ a < 0) ∨ (¬ c < 0 ∧ ¬ 1099511627776 < c ∧ ¬ a < 0 ∧ 20000 < a) := by omega
    clear g
    rcases hq with q1 | ⟨q1, q2⟩ | ⟨q1, q2, q3⟩ | ⟨q1, q2, q3, q4⟩
    all_goals
      go_wp2
      go_ret
      exact ⟨ret_bool hV.out.symm, H1.out.2.2.2.2.2.2.2⟩
  have HR1 := Lib.hid (HR.out.symm.trans (eMay_yes (k := k) (l := l) (t := t.data.toList) ⟨hm, g⟩))
  obtain ⟨q1, q2, q3, q4⟩ := g
  have p1 : ¬ c < 0 := by omega
  have p2 : ¬ 1099511627776 < c := by omega
  have p3 : ¬ a < 0 := by omega
  have p4 : ¬ 20000 < a := by omega
  clear hm HNO HR
  by_cases hk : k = 1
  · subst hk
    rw [if_pos rfl] at HR1
    by_cases l0 : l = 0
    · subst l0
      have HR2 := Lib.hid (show R = mayT t.data.toList by rw [HR1.out]; simp)
      generalize mayT t.data.toList = r at *
      go_wp2_with fail
      refine (hT _).mono ?_
      clear hT
      rintro e w2 ⟨rfl, hb⟩
      have H2 := Lib.hid (H1.out.keep hb)
      clear hb
      go_wp2
      go_ret
      exact ⟨ret_bool HR2.out.symm, H2.out.2.2.2.2.2.2.2⟩
    · have hV := Lib.hid (show R = false by rw [HR1.out, decide_eq_false l0]; rfl)
      have l1 : (l == 0) = false := beq_eq_false_iff_ne.2 l0
      clear l0
      go_wp2
      go_ret
      exact ⟨ret_bool hV.out.symm, H1.out.2.2.2.2.2.2.2⟩
  · rw [if_neg hk] at HR1
    have hk1 : (k == 1) = false := beq_eq_false_iff_ne.2 hk
    clear hT
    by_cases k2 : k = 2
    case neg =>
      have hV := Lib.hid (show R = false by rw [HR1.out, decide_eq_false k2]; rfl)
      have k2' : (k == 2) = false := beq_eq_false_iff_ne.2 k2
      clear k2 hk
      go_wp2
      go_ret
      exact ⟨ret_bool hV.out.symm, H1.out.2.2.2.2.2.2.2⟩
    subst k2
    by_cases gl : 1 ≤ l ∧ l ≤ 20000
    case neg =>
      have hV := Lib.hid (show R = false by rw [HR1.out, decide_eq_false gl]; rfl)
      have hq : ¬ 1 ≤ l ∨ (1 ≤ l ∧ ¬ l ≤ 20000) := by omega
      clear gl hk
      rcases hq with z1 | ⟨z1, z2⟩
      all_goals
        go_wp2
        go_ret
        exact ⟨ret_bool hV.out.symm, H1.out.2.2.2.2.2.2.2⟩
    obtain ⟨z1, z2⟩ := gl
    by_cases t0 : t.data.toList = []
    · have hV := Lib.hid (show R = true by rw [HR1.out, decide_eq_true t0, decide_eq_true (show 1 ≤ l ∧ l ≤ 20000 from ⟨z1, z2⟩)]; rfl)
      have t0' : t.toList = [] := by rw [list_data]; exact t0
      clear t0 hk
      go_wp2
      go_ret
      exact ⟨ret_bool hV.out.symm, H1.out.2.2.2.2.2.2.2⟩
    · have hV := Lib.hid (show R = false by rw [HR1.out, decide_eq_false t0]; simp)
      have t0' : ¬ t.toList = [] := by rw [list_data]; exact t0
      have HE := Lib.hid (show t.toList.isEmpty = false by
        cases hz : t.toList with
        | nil => exact absurd hz t0'
        | cons x y => rfl)
      clear t0 hk
      go_wp2
      go_ret
      exact ⟨ret_bool (HE.out.trans hV.out.symm), H1.out.2.2.2.2.2.2.2⟩
end Go.Proofs.Ytnlajfdgpdijjaa
