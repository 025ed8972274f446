/- The document's spans: Norm, Same, Ahead, Has. -/
import Derived.Test.YtnlajfdgpdijjaaRefSpMade
import Derived.Laws.StructEq
namespace Go.Proofs.Ytnlajfdgpdijjaa
open Go.RowKit

/-- A list that is made, and whether. -/
def SpOkPost (b : Bool) (l : List Sp) (w : World) (e : Ending) (w' : World) : Prop := ∃ v, e = .returned (.tuple #[v, .bool b]) ∧ SpAt w' v (if b then l else []) ∧ Below w.heap.size w w'
theorem SpOkPost.no {b : Bool} {l : List Sp} {w w' : World} (h : b = false) (hb : Below w.heap.size w w') : SpOkPost b l w (.returned (.tuple #[.slice none 0 0, .bool false])) w' := ⟨_, by rw [h], by rw [h]; exact SpAt.nil _, hb⟩
theorem SpOkPost.yes {b : Bool} {l : List Sp} {w w' : World} {v : Value} (h : b = true) (hv : SpAt w' v l) (hb : Below w.heap.size w w') : SpOkPost b l w (.returned (.tuple #[v, .bool true])) w' := ⟨_, by rw [h], by rw [h]; exact hv, hb⟩
set_option maxHeartbeats 2000000 in
theorem spEq (w : World) (s q s' q' : Int) :
    (Op.equalIn 10000 69 (.agg #[.int .i64 s, .int .i64 q]) (.agg #[.int .i64 s', .int .i64 q'])).run Try.prog w = .ok (s == s' && q == q') w := by
  have gi := Try.underlying3
  have ga := Try.isAgg3
  have gz := Try.sizeOf3
  rw [show (10000 : Nat) = 9999 + 1 from rfl, run_equalIn_struct w 9999 69 _ _ (by kernel_rfl) (by kernel_rfl)]
  simp only [Program.fieldsOf, Try.underlying69]
  simp only [Op.eqFields]
  go_simp
  by_cases h0 : s = s' <;> by_cases h1 : q = q' <;> simp [h0, h1]
theorem spEq_neq (w : World) (s q s' q' : Int) (x : Bool) (hx : (s == s' && q == q') = x) :
    (binOp .neq 69 (.agg #[.int .i64 s, .int .i64 q]) (.agg #[.int .i64 s', .int .i64 q'])).run Try.prog w = .ok (.bool (!x)) w := by
  rw [run_neq_struct, spEq, hx]; rfl
theorem take_moreS {xs ys : List Sp} {k : Nat} (h : xs.take k = ys.take k) (hx : k < xs.length) (hy : k < ys.length) (e : xs.getD k (0, 0) = ys.getD k (0, 0)) : xs.take (k + 1) = ys.take (k + 1) := by
  rw [List.take_succ_eq_append_getElem hx, List.take_succ_eq_append_getElem hy, h, getD_cell hx, getD_cell hy, e]
set_option maxRecDepth 100000 in
set_option maxHeartbeats 4000000 in
theorem rSpSame_any (u v : Value) (xs ys : List Sp) (w : World) (h1 : SpAt w u xs) (h2 : SpAt w v ys) (hx : xs.length ≤ 1000000000) :
    Calls Try.prog 40 #[u, v] w fun e w' => e = .returned (.bool (decide (xs = ys))) ∧ Below w.heap.size w w' := by
  by_cases hl : xs.length = ys.length
  · have H1 := Lib.hid h1
    have H2 := Lib.hid h2
    obtain ⟨ao, cap, rfl, _⟩ := h1
    obtain ⟨ao2, cap2, rfl, _⟩ := h2
    obtain ⟨n, hn⟩ : ∃ n, xs.length = n := ⟨_, rfl⟩
    rw [← hl, hn]
    have Hn := Lib.hid hn
    have Hm := Lib.hid (hl.symm.trans hn)
    rw [hn] at hx
    clear hn hl
    go_enter Try.func40, Try.ntmps40
    go_wp2
    go_loopw [5] (fun i wr => ∃ k : Nat, i = .int .i64 k ∧ k ≤ n ∧ xs.take k = ys.take k ∧ Below w.heap.size w wr) (fun i _ => n - (intOf i).toNat)
    case atStart => exact ⟨0, rfl, Nat.zero_le _, rfl, Below.refl _ _⟩
    case round =>
      obtain ⟨k, rfl, hk, ht, hb⟩ := hrel
      have Ht := Lib.hid ht
      have Hb := Lib.hid hb
      clear ht hb
      rcases Nat.lt_or_ge k n with hlt | hge
      · have hxk : k < xs.length := by rw [Hn.out]; exact hlt
        have hyk : k < ys.length := by rw [Hm.out]; exact hlt
        obtain ⟨b, off, c1, hv1, hc1, hc1'⟩ := (H1.out.below Hb.out).at hxk
        obtain ⟨b2, off2, c2, hv2, hc2, hc2'⟩ := (H2.out.below Hb.out).at hyk
        rw [Hn.out] at hv1
        rw [Hm.out] at hv2
        cases hv1
        cases hv2
        obtain ⟨x, ex⟩ : ∃ x, xs.getD k (0, 0) = x := ⟨_, rfl⟩
        obtain ⟨y, ey⟩ : ∃ y, ys.getD k (0, 0) = y := ⟨_, rfl⟩
        rw [ex] at hc1 hc1'
        rw [ey] at hc2 hc2'
        have hi : (0 : Int) ≤ (k : Int) ∧ (k : Int) < (n : Int) := ⟨by omega, by omega⟩
        by_cases hxy : x = y
        · subst hxy
          have HN := Lib.hid (take_moreS Ht.out hxk hyk (ex.trans ey.symm))
          have hE := fun w => spEq_neq w x.1 x.2 x.1 x.2 true (by simp)
          clear ex ey hxk hyk
          generalize x.1 = F at *
          generalize x.2 = E at *
          go_wp2_with fail
          go_quiet (fail)
          go_wp2
          go_roundw
          case rel => exact ⟨k + 1, by go_num, by omega, HN.out, below_draws Hb.out _⟩
          case measure => simp [intOf]; omega
        · have hV := Lib.hid (show decide (xs = ys) = false from decide_eq_false fun e => hxy (by rw [← ex, ← ey, e]))
          have hE := fun w => spEq_neq w x.1 x.2 y.1 y.2 false (by
            cases hq : (x.1 == y.1 && x.2 == y.2) with
            | false => rfl
            | true =>
              obtain ⟨q1, q2⟩ := Bool.and_eq_true_iff.1 hq
              exact absurd (Prod.ext (by simpa using q1) (by simpa using q2)) hxy)
          clear ex ey hxk hyk hxy
          generalize x.1 = F at *
          generalize x.2 = E at *
          generalize y.1 = F' at *
          generalize y.2 = E' at *
          go_wp2_with fail
          go_quiet (fail)
          go_wp2
          go_ret
          exact ⟨ret_bool hV.out.symm, below_draws Hb.out _⟩
      · obtain rfl : k = n := by omega
        have hV := Lib.hid (show decide (xs = ys) = true from decide_eq_true (by
          have := Ht.out
          rwa [List.take_of_length_le (by rw [Hn.out]; exact Nat.le_refl _), List.take_of_length_le (by rw [Hm.out]; exact Nat.le_refl _)] at this))
        go_wp2
        go_ret
        exact ⟨ret_bool hV.out.symm, Hb.out⟩
  · have hV := Lib.hid (show decide (xs = ys) = false from decide_eq_false fun e => hl (by rw [e]))
    obtain ⟨ao, cap, rfl, _⟩ := h1
    obtain ⟨ao2, cap2, rfl, _⟩ := h2
    generalize xs.length = n at *
    generalize ys.length = m at *
    have hne : ¬ (n : Int) = (m : Int) := by omega
    have hne1 : ((n : Int) != (m : Int)) = true := bne_iff_ne.2 hne
    have hbq : Below w.heap.size w w := Below.refl _ _
    go_enter Try.func40, Try.ntmps40
    go_wp2
    go_ret
    exact ⟨ret_bool hV.out.symm, Below.refl _ _⟩
end Go.Proofs.Ytnlajfdgpdijjaa
