/- FrameGets: the law's walk. -/
import Derived.Test.YtckknopjhmpnhaaLawFramePuts
namespace Go.Proofs.Ytckknopjhmpnhaa
open Go.RowKit Go.Shelf

/-- What Get tells, field by field. -/
theorem getV_form (r : Except Int Fr) : ∃ (k s q a : Int) (b : ByteArray) (c : Int), getV r = .tuple #[frV k s q a b, .int .i64 c] := by
  cases r with
  | error c => exact ⟨0, 0, 0, 0, ⟨#[]⟩, c, rfl⟩
  | ok f => exact ⟨_, _, _, _, _, 0, rfl⟩
theorem keepTwo {N1 N2 : Nat} {k s q a k' s' q' a' : Int} {b b' : ByteArray} {w1 w2 W W' : World} (h : FBox N1 k s q a b w1 W ∧ FBox N2 k' s' q' a' b' w2 W) (hb : Below W.heap.size W W') : FBox N1 k s q a b w1 W' ∧ FBox N2 k' s' q' a' b' w2 W' := ⟨h.1.keep hb, h.2.keep hb⟩
set_option maxRecDepth 100000 in
set_option maxHeartbeats 8000000 in
theorem lawFrameGets_any (x : ByteArray) (w : World) (hx : x.size ≤ maxLen) :
    Calls Try.prog 4 #[.string x] w fun e w' => e = .returned (.bool true) ∧ Below w.heap.size w w' := by
  unfold maxLen at hx
  have hA := falive_any w
  by_cases hL : 3000 < x.size
  · go_enter Try.func4, Try.ntmps4
    go_wp2_with fail
    refine hA.mono ?_
    clear hA
    rintro e w1 ⟨rfl, hb1⟩
    go_wp2
    go_ret
    exact ⟨rfl, hb1⟩
  · have hG := fun w => pFGet_any x w (by omega)
    have hR := fun w => rFGet_any x w (by omega)
    obtain ⟨k, s, q, a, b, c, hv⟩ := getV_form (frGet x.data.toList)
    rw [hv] at hG hR
    clear hv
    have hO := fun w => plain_frame k s q a b w
    have hE := fun w => eqR_eql w k s q a k s q a b b true (by simp)
    unfold frV at hG hR hO
    go_enter Try.func4, Try.ntmps4
    go_wp2_with fail
    refine hA.mono ?_
    clear hA
    rintro e w1 ⟨rfl, hb1⟩
    go_wp2_with fail
    refine (hG _).mono ?_
    clear hG
    rintro e w2 ⟨rfl, hb2⟩
    have hb2' := hb1.trans (hb2.mono hb1.size)
    have hN := FBox.new k s q a b w2 28
    clear hb1 hb2
    go_wp2_with fail
    refine (hR _).mono ?_
    clear hR
    rintro e w3 ⟨rfl, hb3⟩
    have hN3 := (hN.keep hb3).keep ((Below.refl w3.heap.size w3).alloc (Nat.le_refl _) (.cells #[.int .i64 k, .int .i64 s, .int .i64 q, .int .i64 a, .string b] 23))
    have hM := FBox.new k s q a b w3 23
    have h2 := And.intro hN3.drew hM.drew
    clear hN hN3 hM hb3
    go_wp2_with fail
    go_region_held (fun W => (W.cell? ⟨w2.heap.size, 0, none⟩ = some (.int .i64 k) ∧ W.cell? ⟨w2.heap.size, 1, none⟩ = some (.int .i64 s) ∧ W.cell? ⟨w2.heap.size, 2, none⟩ = some (.int .i64 q) ∧ W.cell? ⟨w2.heap.size, 3, none⟩ = some (.int .i64 a) ∧ W.cell? ⟨w2.heap.size, 4, none⟩ = some (.string b) ∧ Below w2.heap.size w2 W) ∧
        (W.cell? ⟨w3.heap.size, 0, none⟩ = some (.int .i64 k) ∧ W.cell? ⟨w3.heap.size, 1, none⟩ = some (.int .i64 s) ∧ W.cell? ⟨w3.heap.size, 2, none⟩ = some (.int .i64 q) ∧ W.cell? ⟨w3.heap.size, 3, none⟩ = some (.int .i64 a) ∧ W.cell? ⟨w3.heap.size, 4, none⟩ = some (.string b) ∧ Below w3.heap.size w3 W))
      (first | exact h2 | assumption | exact keepTwo (by assumption) hb)
      (first | (go_at_call 16; refine (hO _).mono ?_; rintro e w4 ⟨rfl, hb⟩))
    all_goals
      rename_i hHeld
      have hz := hb2'.trans (hHeld.1.2.2.2.2.2.mono hb2'.size)
      clear hHeld h2 hO hE
      go_wp2
      go_ret
      exact ⟨rfl, hz⟩
end Go.Proofs.Ytckknopjhmpnhaa
