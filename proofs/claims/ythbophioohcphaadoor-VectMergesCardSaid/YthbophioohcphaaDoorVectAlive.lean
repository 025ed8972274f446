/- The statements' own example. -/
import Derived.Test.YthbophioohcphaaDoorVectAsked
namespace Go.Proofs.YthbophioohcphaaDoor
open Go.RowKit

/-- A row of ints that is written out. -/
theorem Reads64.lit (w : World) (xs : List Int) (n cap : Nat) (cs : Array Value) (t : TypeId) (hn : xs.length = n) (hc : cs.toList = xs.map (Value.int .i64)) : Reads64 (w.alloc (.cells cs t)) (.slice (some ⟨w.heap.size, 0, none⟩) n cap) xs := by
  subst hn
  refine ⟨some ⟨w.heap.size, 0, none⟩, cap, rfl, fun _ => ⟨w.heap.size, 0, rfl, fun i hi => ?_⟩⟩
  have h := heap_alloc_new w (.cells cs t)
  have hg : cs[i]? = some (.int .i64 (xs.getD i 0)) := by
    rw [← Array.getElem?_toList, hc]
    simp [List.getD, hi]
  rw [Nat.zero_add]
  exact cell_of_row _ _ i _ _ _ h
    |>.trans (by simp [hg])
set_option maxRecDepth 100000 in
set_option maxHeartbeats 4000000 in
theorem valive_any (C : VC) (w : World) : Calls Tryd.prog 9 #[] w fun e w' => e = .returned (.bool true) ∧ Below w.heap.size w w' := by
  have a1 := C.raise (.slice (some ⟨w.heap.size, 0, none⟩) 3 3) [1, 0, 3] 2 1 _ (Reads64.lit w [1, 0, 3] 3 3 #[.int .i64 1, .int .i64 0, .int .i64 3] 3 rfl rfl) (by decide) (by decide) (by decide)
  have hB1 := (Below.refl w.heap.size w).alloc (Nat.le_refl _) (.cells #[.int .i64 1, .int .i64 0, .int .i64 3] 3)
  unfold nmV at a1
  go_enter Tryd.func9, Tryd.ntmps9
  go_wp2_with fail
  refine a1.mono ?_
  clear a1
  rintro e w1 ⟨v, rfl, hr, hb1⟩
  rw [show raiseC [1, 0, 3] 2 1 = 0 from rfl, if_pos rfl, show vRaise [1, 0, 3] 2 1 = [1, 1, 3] from rfl] at hr
  rw [show raiseC [1, 0, 3] 2 1 = 0 from rfl]
  have hw1 := hB1.trans (hb1.mono hB1.size)
  have hB2 := (Below.refl w1.heap.size w1).alloc (Nat.le_refl _) (.cells #[.int .i64 1, .int .i64 1, .int .i64 3] 3)
  have a2 := rSame_any v (.slice (some ⟨w1.heap.size, 0, none⟩) 3 3) [1, 1, 3] [1, 1, 3] _ (hr.below hB2) (Reads64.lit w1 [1, 1, 3] 3 3 #[.int .i64 1, .int .i64 1, .int .i64 3] 3 rfl rfl) (by decide)
  have hw2 := hw1.trans (hB2.mono hw1.size)
  clear hB1 hb1 hw1 hr hB2
  go_wp2_with fail
  refine a2.mono ?_
  clear a2
  rintro e w3 ⟨rfl, hb3⟩
  have hw3 := hw2.trans (hb3.mono hw2.size)
  have a3 := C.text 2 10 w3 (by decide)
  rw [show nText 2 10 = [50, 46, 49, 48] by
    unfold nText
    rw [if_pos (by decide), show (2 : Int).toNat = 2 from rfl, show (10 : Int).toNat = 10 from rfl, Lib.decDigits_one (by decide), Lib.decDigits_two (by decide) (by decide)]
    rfl] at a3
  unfold nmV at a3
  clear hw2 hb3
  go_wp2_with fail
  refine a3.mono ?_
  clear a3
  rintro e w4 ⟨rfl, hb4⟩
  have hw4 := hw3.trans (hb4.mono hw3.size)
  have hB5 := below_pair w4 (.cells #[.int .i64 1] 3) (.cells #[.int .i64 0, .int .i64 1] 3)
  have hB6 := (Below.refl (w4.alloc (.cells #[.int .i64 1] 3)).heap.size (w4.alloc (.cells #[.int .i64 1] 3))).alloc (Nat.le_refl _) (.cells #[.int .i64 0, .int .i64 1] 3)
  have a4 := C.order (.slice (some ⟨w4.heap.size, 0, none⟩) 1 1) (.slice (some ⟨w4.heap.size + 1, 0, none⟩) 2 2) [1] [0, 1] _ ((Reads64.lit w4 [1] 1 1 #[.int .i64 1] 3 rfl rfl).below hB6)
    (by have h := Reads64.lit (w4.alloc (.cells #[.int .i64 1] 3)) [0, 1] 2 2 #[.int .i64 0, .int .i64 1] 3 rfl rfl; simpa using h) (by decide) (by decide)
  have hw5 := hw4.trans (hB5.mono hw4.size)
  clear hw3 hb4 hw4 hB5 hB6
  go_wp2_with fail
  refine a4.mono ?_
  clear a4
  rintro e w6 ⟨rfl, hb6⟩
  have hw6 := hw5.trans (hb6.mono hw5.size)
  rw [show vOrder [1] [0, 1] = 3 by decide]
  clear hw5 hb6
  go_wp2
  go_ret
  exact ⟨rfl, hw6⟩
end Go.Proofs.YthbophioohcphaaDoor
