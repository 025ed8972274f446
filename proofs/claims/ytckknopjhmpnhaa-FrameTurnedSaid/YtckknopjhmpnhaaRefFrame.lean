/- The document's frames: May. -/
import Derived.Test.YtckknopjhmpnhaaRefText
namespace Go.Proofs.Ytckknopjhmpnhaa
open Go.RowKit Go.Shelf

/-- A frame as a value. -/
def frV (k s q a : Int) (b : ByteArray) : Value := .agg #[.int .i64 k, .int .i64 s, .int .i64 q, .int .i64 a, .string b]
/-- May these fields be? -/
def mayI (k s q a : Int) (n : Nat) : Bool := decide ((1 ≤ s ∧ s ≤ 16 ∧ 0 ≤ a ∧ a ≤ 1099511627776) ∧ ((k = 1 ∧ 1 ≤ q ∧ q ≤ 1099511627776 ∧ n ≤ 1048576) ∨ (k = 2 ∧ q = 0 ∧ n = 0)))
theorem empty_is (b : ByteArray) : b.toList.isEmpty = decide (b.size = 0) := by
  rw [Lib.toList_data, Lib.size_eq]
  cases b.data.toList <;> rfl

set_option maxRecDepth 100000 in
set_option maxHeartbeats 4000000 in
theorem rMay_any (k s q a : Int) (b : ByteArray) (w : World) (hb : b.size ≤ 9223372036854775807) :
    Calls Try.prog 12 #[frV k s q a b] w fun e w' => e = .returned (.bool (mayI k s q a b.size)) ∧ Below w.heap.size w w' := by
  unfold frV
  have hB := (Below.refl w.heap.size w).alloc (Nat.le_refl _) (.cells #[.int .i64 k, .int .i64 s, .int .i64 q, .int .i64 a, .string b] 23)
  by_cases p1 : 1 ≤ s
  by_cases p2 : s ≤ 16
  by_cases p3 : 0 ≤ a
  by_cases p4 : a ≤ 1099511627776
  · by_cases k1 : k = 1
    · subst k1
      by_cases g1 : 1 ≤ q
      by_cases g2 : q ≤ 1099511627776
      · rw [show mayI 1 s q a b.size = decide ((b.size : Int) ≤ 1048576) from decide_eq_decide.2 (by omega)]
        go_enter Try.func12, Try.ntmps12
        go_wp2
        go_ret
        exact ⟨rfl, hB⟩
      · rw [show mayI 1 s q a b.size = false from decide_eq_false (by omega)]
        go_enter Try.func12, Try.ntmps12
        go_wp2
        go_ret
        exact ⟨rfl, hB⟩
      · rw [show mayI 1 s q a b.size = false from decide_eq_false (by omega)]
        go_enter Try.func12, Try.ntmps12
        go_wp2
        go_ret
        exact ⟨rfl, hB⟩
    · have k1' : (k == 1) = false := beq_eq_false_iff_ne.2 k1
      by_cases k2 : k = 2
      · subst k2
        by_cases g1 : q = 0
        · subst g1
          rw [show mayI 2 s 0 a b.size = decide (b.size = 0) from decide_eq_decide.2 (by omega), ← empty_is]
          go_enter Try.func12, Try.ntmps12
          go_wp2
          go_ret
          exact ⟨rfl, hB⟩
        · have g1' : (q == 0) = false := beq_eq_false_iff_ne.2 g1
          rw [show mayI 2 s q a b.size = false from decide_eq_false (by omega)]
          go_enter Try.func12, Try.ntmps12
          go_wp2
          go_ret
          exact ⟨rfl, hB⟩
      · have k2' : (k == 2) = false := beq_eq_false_iff_ne.2 k2
        rw [show mayI k s q a b.size = false from decide_eq_false (by omega)]
        go_enter Try.func12, Try.ntmps12
        go_wp2
        go_ret
        exact ⟨rfl, hB⟩
  · rw [show mayI k s q a b.size = false from decide_eq_false (by omega)]
    go_enter Try.func12, Try.ntmps12
    go_wp2
    go_ret
    exact ⟨rfl, hB⟩
  · rw [show mayI k s q a b.size = false from decide_eq_false (by omega)]
    go_enter Try.func12, Try.ntmps12
    go_wp2
    go_ret
    exact ⟨rfl, hB⟩
  · rw [show mayI k s q a b.size = false from decide_eq_false (by omega)]
    go_enter Try.func12, Try.ntmps12
    go_wp2
    go_ret
    exact ⟨rfl, hB⟩
  · rw [show mayI k s q a b.size = false from decide_eq_false (by omega)]
    go_enter Try.func12, Try.ntmps12
    go_wp2
    go_ret
    exact ⟨rfl, hB⟩
end Go.Proofs.Ytckknopjhmpnhaa
