/- CrcAround: the law's walk. -/
import Derived.Test.YtniffodbpkcdpaaLawCrcJoins
import Derived.Deep.RegionHeld
namespace Go.Proofs.Ytniffodbpkcdpaa
open Go.RowKit

theorem sum_eq_run {l m : List Nat} : Crc.sum l = Crc.sum m ↔ Crc.run Crc.ones l = Crc.run Crc.ones m := by
  unfold Crc.sum Crc.more
  rw [Nat.xor_zero]
  constructor
  · intro h
    have := congrArg (fun x => Crc.ones ^^^ x) h
    simpa only [Crc.ones_twice] using this
  · intro h; rw [h]
theorem around_plain (a b p q : ByteArray) (h : a.size = b.size) : Crc.sum (byteL a) = Crc.sum (byteL b) ↔ Crc.sum (byteL (p ++ a ++ q)) = Crc.sum (byteL (p ++ b ++ q)) := by
  rw [sum_eq_run, sum_eq_run, byteL_append, byteL_append, byteL_append, byteL_append]
  exact Crc.around (byteL a) (byteL b) (byteL p) (byteL q) (by rw [byteL_length, byteL_length, h]) (byteL_lt a) (byteL_lt b) _ _
theorem sameB {x y u v : Nat} (h : x = y ↔ u = v) : ∃ c : Bool, ((x : Int) == (y : Int)) = c ∧ ((u : Int) == (v : Int)) = c := by
  by_cases e : x = y
  · have := h.1 e
    exact ⟨true, by simp [e], by simp [this]⟩
  · have : u ≠ v := fun h' => e (h.2 h')
    exact ⟨false, beq_eq_false_iff_ne.2 (by omega), beq_eq_false_iff_ne.2 (by omega)⟩

theorem keepAround {B : Nat} {x y : Value} {w W W' : World} (h : W.cell? ⟨B, 0, none⟩ = some x ∧ W.cell? ⟨B, 1, none⟩ = some y ∧ Below B w W) (hb : Below W.heap.size W W') :
    W'.cell? ⟨B, 0, none⟩ = some x ∧ W'.cell? ⟨B, 1, none⟩ = some y ∧ Below B w W' := by
  have hl : B < W.heap.size := World.block_lt_of_cell? W _ h.1
  exact ⟨(hb.cell (p := ⟨B, 0, none⟩) hl).trans h.1, (hb.cell (p := ⟨B, 1, none⟩) hl).trans h.2.1, h.2.2.trans (hb.mono (Nat.le_of_lt hl))⟩

set_option maxRecDepth 100000 in
set_option maxHeartbeats 4000000 in
theorem lawCrcAround_any (a b p q : ByteArray) (w : World) (ha : a.size ≤ maxLen) (hb : b.size ≤ maxLen) (hp : p.size ≤ maxLen) (hq : q.size ≤ maxLen) :
    Calls Try.prog 8 #[.string a, .string b, .agg #[.string p, .string q]] w fun e W' => e = .returned (.bool true) ∧ Below w.heap.size w W' := by
  have hA := calive_any (w.alloc (.cells #[.string p, .string q] 37))
  unfold maxLen at ha hb hp hq
  have hB0 : Below w.heap.size w (w.alloc (.cells #[.string p, .string q] 37)) := (Below.refl _ w).alloc (Nat.le_refl _) _
  have h00 : (w.alloc (.cells #[.string p, .string q] 37)).cell? ⟨w.heap.size, 0, none⟩ = some (.string p) := by rw [World.cell?_alloc_at _ _ _ _ rfl]; rfl
  have h01 : (w.alloc (.cells #[.string p, .string q] 37)).cell? ⟨w.heap.size, 1, none⟩ = some (.string q) := by rw [World.cell?_alloc_at _ _ _ _ rfl]; rfl
  by_cases h1 : a.size = b.size
  · have e1 : ((a.size : Int) == (b.size : Int)) = true := by simp [h1]
    have e2 : ((a.size : Int) != (b.size : Int)) = false := by simp [bne, e1]
    by_cases h2 : 2000 < a.size
    · clear h1
      go_enter Try.func8, Try.ntmps8
      go_wp2_with fail
      refine hA.mono ?_
      clear hA
      rintro e w1 ⟨rfl, hb1⟩
      have hbw := hB0.trans (hb1.mono hB0.size)
      have c0 : w1.cell? ⟨w.heap.size, 0, none⟩ = some (.string p) := by rw [hb1.cell (p := ⟨w.heap.size, 0, none⟩) (by simp)]; exact h00
      have c1 : w1.cell? ⟨w.heap.size, 1, none⟩ = some (.string q) := by rw [hb1.cell (p := ⟨w.heap.size, 1, none⟩) (by simp)]; exact h01
      clear h00 h01 hB0 hb1
      go_wp2
      go_ret
      exact ⟨rfl, hbw⟩
    · by_cases h3 : 2000 < p.size
      · clear h1
        go_enter Try.func8, Try.ntmps8
        go_wp2_with fail
        refine hA.mono ?_
        clear hA
        rintro e w1 ⟨rfl, hb1⟩
        have hbw := hB0.trans (hb1.mono hB0.size)
        have c0 : w1.cell? ⟨w.heap.size, 0, none⟩ = some (.string p) := by rw [hb1.cell (p := ⟨w.heap.size, 0, none⟩) (by simp)]; exact h00
        have c1 : w1.cell? ⟨w.heap.size, 1, none⟩ = some (.string q) := by rw [hb1.cell (p := ⟨w.heap.size, 1, none⟩) (by simp)]; exact h01
        clear h00 h01 hB0 hb1
        go_wp2
        go_ret
        exact ⟨rfl, hbw⟩
      · by_cases h4 : 2000 < q.size
        · clear h1
          go_enter Try.func8, Try.ntmps8
          go_wp2_with fail
          refine hA.mono ?_
          clear hA
          rintro e w1 ⟨rfl, hb1⟩
          have hbw := hB0.trans (hb1.mono hB0.size)
          have c0 : w1.cell? ⟨w.heap.size, 0, none⟩ = some (.string p) := by rw [hb1.cell (p := ⟨w.heap.size, 0, none⟩) (by simp)]; exact h00
          have c1 : w1.cell? ⟨w.heap.size, 1, none⟩ = some (.string q) := by rw [hb1.cell (p := ⟨w.heap.size, 1, none⟩) (by simp)]; exact h01
          clear h00 h01 hB0 hb1
          go_wp2
          go_ret
          exact ⟨rfl, hbw⟩
        · have hpl := around_plain a b p q h1
          have s1 := fun w => csum_any a (by unfold maxLen; omega) w
          have s2 := fun w => csum_any b (by unfold maxLen; omega) w
          have s3 := fun w => csum_any (p ++ a ++ q) (by rw [ByteArray.size_append, ByteArray.size_append]; unfold maxLen; omega) w
          have s4 := fun w => csum_any (p ++ b ++ q) (by rw [ByteArray.size_append, ByteArray.size_append]; unfold maxLen; omega) w
          generalize Crc.sum (byteL a) = x at *
          generalize Crc.sum (byteL b) = y at *
          generalize Crc.sum (byteL (p ++ a ++ q)) = u at *
          generalize Crc.sum (byteL (p ++ b ++ q)) = v at *
          obtain ⟨c, hc1, hc2⟩ := sameB hpl
          have hbs : b.size ≤ 2000 := by omega
          have hq2 : q.size ≤ 2000 := by omega
          have hp2 : p.size ≤ 2000 := by omega
          have ha2 : a.size ≤ 2000 := by omega
          clear h1 hpl h2 h3 h4 ha hb hp hq
          go_enter Try.func8, Try.ntmps8
          go_wp2_with fail
          refine hA.mono ?_
          clear hA
          rintro e w1 ⟨rfl, hb1⟩
          have hbw := hB0.trans (hb1.mono hB0.size)
          have c0 : w1.cell? ⟨w.heap.size, 0, none⟩ = some (.string p) := by rw [hb1.cell (p := ⟨w.heap.size, 0, none⟩) (by simp)]; exact h00
          have c1 : w1.cell? ⟨w.heap.size, 1, none⟩ = some (.string q) := by rw [hb1.cell (p := ⟨w.heap.size, 1, none⟩) (by simp)]; exact h01
          clear h00 h01 hB0 hb1
          go_wp2_with fail
          have k1 : ¬ (9223372036854775807 < p.size + a.size) := by omega
          have k2 : ¬ (9223372036854775807 < p.size + b.size) := by omega
          have k3 : ¬ (9223372036854775807 < p.size + a.size + q.size) := by omega
          have k4 : ¬ (9223372036854775807 < p.size + b.size + q.size) := by omega
          go_region_held (fun W => W.cell? ⟨w.heap.size, 0, none⟩ = some (.string p) ∧ W.cell? ⟨w.heap.size, 1, none⟩ = some (.string q) ∧ Below w.heap.size w W) (first | exact ⟨c0, c1, hbw.drew⟩ | assumption | exact keepAround (by assumption) hb) (first | (go_at_call 10; (first | (with_reducible refine (s1 _).mono ?_) | (with_reducible refine (s2 _).mono ?_) | (with_reducible refine (s3 _).mono ?_) | (with_reducible refine (s4 _).mono ?_)); rintro e w2 ⟨rfl, hb⟩))
          rename_i hHeld
          have hB' := hHeld.2.2
          clear hHeld
          go_wp2
          go_ret
          exact ⟨by first | rfl | (cases c <;> rfl), hB'⟩
  · have e1 : ((a.size : Int) == (b.size : Int)) = false := beq_eq_false_iff_ne.2 (by omega)
    have e2 : ((a.size : Int) != (b.size : Int)) = true := by simp [bne, e1]
    go_enter Try.func8, Try.ntmps8
    go_wp2_with fail
    refine hA.mono ?_
    clear hA
    rintro e w1 ⟨rfl, hb1⟩
    have hbw := hB0.trans (hb1.mono hB0.size)
    have c0 : w1.cell? ⟨w.heap.size, 0, none⟩ = some (.string p) := by rw [hb1.cell (p := ⟨w.heap.size, 0, none⟩) (by simp)]; exact h00
    have c1 : w1.cell? ⟨w.heap.size, 1, none⟩ = some (.string q) := by rw [hb1.cell (p := ⟨w.heap.size, 1, none⟩) (by simp)]; exact h01
    clear h00 h01 hB0 hb1
    go_wp2
    go_ret
    exact ⟨rfl, hbw⟩
end Go.Proofs.Ytniffodbpkcdpaa
