/- The document's Same: two lists of runes, held place by place. -/
import Derived.Test.YtbaofbbikdbppaaDoorRows
import Derived.WalkKit
import Derived.WalkSpells
import Derived.Lib.Hide
import Derived.Deep.QuietTactic
import Derived.BigQuiet
import Derived.WalkSmall
namespace Go.Proofs.YtbaofbbikdbppaaDoor
open Go.RowKit

/-- A slice of runes reads as xs. -/
def Reads32 (W : World) (v : Value) (xs : List Int) : Prop :=
  ∃ ao cap, v = .slice ao xs.length cap ∧ (xs ≠ [] → ∃ b off, ao = some ⟨b, off, none⟩ ∧ ∀ i, i < xs.length → W.cell? ⟨b, off + i, none⟩ = some (.int .i32 (xs.getD i 0)))

theorem Reads32.of_own {W : World} {base : Nat} {v : Value} {xs : List Int} (h : W.ownsRow base 21 1 v xs.length (xs.map (Value.int .i32))) : Reads32 W v xs := by
  rcases h.2 with ⟨hv, h0⟩ | ⟨g, cap, cur, hv, _⟩
  · exact ⟨none, 0, by rw [hv, h0], fun hx => absurd (List.eq_nil_of_length_eq_zero h0) hx⟩
  · subst hv
    refine ⟨_, cap, rfl, fun _ => ⟨g, 0, rfl, fun i hi => ?_⟩⟩
    rw [Nat.zero_add, h.cellAt i (by omega)]
    simp [hi]
theorem Reads32.drew {W : World} {v : Value} {xs : List Int} (h : Reads32 W v xs) (n : Nat) : Reads32 (W.drewN n) v xs := h
theorem Reads32.below {W W' : World} {v : Value} {xs : List Int} (h : Reads32 W v xs) (hb : Below W.heap.size W W') : Reads32 W' v xs := by
  obtain ⟨ao, cap, rfl, h2⟩ := h
  refine ⟨ao, cap, rfl, fun hx => ?_⟩
  obtain ⟨b, off, rfl, hc⟩ := h2 hx
  refine ⟨b, off, rfl, fun i hi => ?_⟩
  have hlt : b < W.heap.size := by
    rcases Nat.lt_or_ge b W.heap.size with h' | h'
    · exact h'
    · have := hc i hi
      simp [World.cell?, Array.getElem?_eq_none h'] at this
  rw [hb.cell (p := ⟨b, off + i, none⟩) hlt]
  exact hc i hi

theorem take_next {xs ys : List Int} {k : Nat} (h : xs.take k = ys.take k) (hx : k < xs.length) (hy : k < ys.length) (e : xs.getD k 0 = ys.getD k 0) : xs.take (k + 1) = ys.take (k + 1) := by
  rw [List.take_succ_eq_append_getElem hx, List.take_succ_eq_append_getElem hy, h]
  simp [List.getD, hx, hy] at e
  rw [e]

set_option maxRecDepth 100000 in
set_option maxHeartbeats 1000000 in
theorem same_any (v u : Value) (xs ys : List Int) (hx : xs.length ≤ 1000000) (hy : ys.length ≤ 1000000) (w : World) (h1 : Reads32 w v xs) (h2 : Reads32 w u ys) :
    Calls Tryd.prog 15 #[v, u] w fun e w' => e = .returned (.bool (decide (xs = ys))) ∧ Below w.heap.size w w' := by
  obtain ⟨ao, c1, rfl, r1⟩ := h1
  obtain ⟨bo, c2, rfl, r2⟩ := h2
  by_cases hl : xs.length = ys.length
  · by_cases h0 : xs = []
    · subst h0
      obtain rfl : ys = [] := List.eq_nil_of_length_eq_zero hl.symm
      clear r1 r2 hl
      go_enter Tryd.func15, Tryd.ntmps15
      go_wp2
      go_loop [5] (fun i => i = .int .i64 0) (fun _ => 0)
      case atStart => rfl
      case round =>
        subst hrel
        go_wp2
        go_ret
        exact ⟨rfl, Below.refl _ _⟩
    · have h0' : ys ≠ [] := fun e => h0 (List.eq_nil_of_length_eq_zero (by rw [hl, e]; rfl))
      obtain ⟨b, off, rfl, q1⟩ := r1 h0
      obtain ⟨b', off', rfl, q2⟩ := r2 h0'
      clear r1 r2 h0 h0'
      obtain ⟨n, hn⟩ : ∃ n, ys.length = n := ⟨_, rfl⟩
      have hxn : xs.length = n := hl.trans hn
      rw [hn, hxn]
      have Hn := Lib.hid hn
      have Hxn := Lib.hid hxn
      have hn1 : n ≤ 1000000 := by omega
      clear hl hn hxn hx hy
      go_enter Tryd.func15, Tryd.ntmps15
      go_wp2
      go_loopw [5] (fun i wr => ∃ (k nq : Nat), i = .int .i64 k ∧ k ≤ n ∧ xs.take k = ys.take k ∧ wr = w.drewN nq) (fun i _ => n - (intOf i).toNat)
      case atStart => exact ⟨0, 0, rfl, Nat.zero_le _, rfl, rfl⟩
      case round =>
        obtain ⟨k, nq, rfl, hk, htk, rfl⟩ := hrel
        have Htk := Lib.hid htk
        clear htk
        rcases Nat.lt_or_ge k n with hlt | hge
        · have g1 := q1 k (by rw [Hxn.out]; exact hlt)
          have g2 := q2 k (by rw [Hn.out]; exact hlt)
          have hki : (k : Int) < n := by omega
          have hk0 : (0 : Int) ≤ k := by omega
          have Q1 := Lib.hid q1
          have Q2 := Lib.hid q2
          obtain ⟨x, ex⟩ : ∃ x, xs.getD k 0 = x := ⟨_, rfl⟩
          obtain ⟨y, ey⟩ : ∃ y, ys.getD k 0 = y := ⟨_, rfl⟩
          rw [ex] at g1
          rw [ey] at g2
          by_cases hxy : x = y
          · subst hxy
            have Hnx := Lib.hid (take_next Htk.out (by rw [Hxn.out]; exact hlt) (by rw [Hn.out]; exact hlt) (ex.trans ey.symm))
            clear q1 q2 ex ey
            go_wp2
            go_quiet (fail)
            go_wp2
            go_roundw
            case rel => exact ⟨k + 1, _, by go_num, hlt, Hnx.out, rfl⟩
            case measure => simp [intOf]; omega
          · have hne : (x == y) = false := beq_eq_false_iff_ne.2 hxy
            have hne2 : (x != y) = true := by rw [bne, hne]; rfl
            have hno : ¬ xs = ys := fun e => hxy (by rw [← ex, ← ey, e])
            have Hno := Lib.hid hno
            clear q1 q2 ex ey hno
            go_wp2
            go_quiet (fail)
            go_wp2
            go_ret
            exact ⟨by rw [decide_eq_false Hno.out]; rfl, below_drewN (below_drewN (Below.refl _ _) _) _⟩
        · obtain rfl : k = n := by omega
          have heq : xs = ys := by
            have := Htk.out
            rw [List.take_of_length_le (by rw [Hxn.out]; exact Nat.le_refl _), List.take_of_length_le (by rw [Hn.out]; exact Nat.le_refl _)] at this
            exact this
          have Heq := Lib.hid heq
          clear heq
          have Q1 := Lib.hid q1
          have Q2 := Lib.hid q2
          clear q1 q2
          go_wp2
          go_ret
          exact ⟨by rw [decide_eq_true Heq.out]; rfl, below_drewN (Below.refl _ _) _⟩
  · have hne : ((xs.length : Int) == (ys.length : Int)) = false := beq_eq_false_iff_ne.2 (by omega)
    have hne2 : ((xs.length : Int) != (ys.length : Int)) = true := by rw [bne, hne]; rfl
    have hno : ¬ xs = ys := fun e => hl (by rw [e])
    have Hno := Lib.hid hno
    clear hl hno r1 r2
    go_enter Tryd.func15, Tryd.ntmps15
    go_wp2
    go_ret
    exact ⟨by rw [decide_eq_false Hno.out]; rfl, Below.refl _ _⟩
end Go.Proofs.YtbaofbbikdbppaaDoor
