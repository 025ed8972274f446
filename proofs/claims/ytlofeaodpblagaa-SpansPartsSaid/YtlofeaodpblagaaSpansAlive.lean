/- The statements' own example, and whether a list is great. -/
import Derived.Test.YtlofeaodpblagaaSpansAsked
namespace Go.Proofs.Ytlofeaodpblagaa
open Go.RowKit

theorem sMade_eq {g : Nat → Bool} {l : List Sp} (hl : sGood l) (h : ∀ i, i < 20000 → g i = sMark l i) : sMade g 20000 = l := (sMade_congr h).trans (sMade_self hl)
theorem ex1_full : ¬ sFull (sMark [((2 : Int), (4 : Int))]) 3 3 := by
  rintro ⟨i, h1, h2, h3, h4⟩
  obtain ⟨s, hs, g1, g2⟩ := (sMark_iff _ _).1 h3
  simp at hs
  subst hs
  dsimp only at g1 g2
  omega
theorem ex1_code : opC [((2 : Int), (4 : Int))] 3 3 = 0 := by
  unfold opC
  rw [if_pos (show spArgs [((2 : Int), (4 : Int))] 3 3 = true by decide)]
  rw [show Int.toNat 3 = 3 from rfl, if_neg (fun q => ex1_full ((fullB_iff _ _ _).1 q))]
theorem ex1_good : sGood [((2 : Int), (1 : Int)), (6, 3)] := (sMay_good _).1 (by decide)
theorem ex1_list : opL [((2 : Int), (4 : Int))] 3 3 = [(2, 1), (6, 3)] := by
  refine sMade_eq ex1_good fun i _ => ?_
  rw [Bool.eq_iff_iff, sMark_iff]
  have hm : ∀ j : Nat, sMark [((2 : Int), (4 : Int))] j = true ↔ 2 ≤ j ∧ j < 6 := fun j => by
    rw [sMark_iff]
    constructor
    · rintro ⟨s, hs, g1, g2⟩
      simp at hs
      subst hs
      dsimp only at g1 g2
      omega
    · intro q
      exact ⟨(2, 4), by simp, by dsimp only; omega, by dsimp only; omega⟩
  have hR : (∃ s ∈ [((2 : Int), (1 : Int)), (6, 3)], s.1 ≤ (i : Int) ∧ (i : Int) < s.1 + s.2) ↔ i = 2 ∨ (6 ≤ i ∧ i < 9) := by
    constructor
    · rintro ⟨s, hs, g1, g2⟩
      simp at hs
      rcases hs with rfl | rfl <;> dsimp only at g1 g2 <;> omega
    · rintro (q | q)
      · exact ⟨(2, 1), by simp, by dsimp only; omega, by dsimp only; omega⟩
      · exact ⟨(6, 3), by simp, by dsimp only; omega, by dsimp only; omega⟩
  rw [hR]
  show sOpenM _ 3 3 i = true ↔ _
  unfold sOpenM
  by_cases h1 : i < 3
  · rw [if_pos h1, hm]; omega
  · rw [if_neg h1]
    by_cases h2 : i < 3 + 3
    · rw [if_pos h2]; constructor
      · intro q; cases q
      · omega
    · rw [if_neg h2, hm]; omega
theorem ex1_total : cntTo (sMark [((2 : Int), (1 : Int)), (6, 3)]) 20000 = 4 := by
  rw [show (20000 : Nat) = 9 + 19991 from rfl, cntTo_none fun i h1 h2 => by
    cases hz : sMark [((2 : Int), (1 : Int)), (6, 3)] i with
    | false => rfl
    | true =>
      obtain ⟨s, hs, g1, g2⟩ := (sMark_iff _ _).1 hz
      simp at hs
      rcases hs with rfl | rfl <;> dsimp only at g1 g2 <;> omega]
  decide
/-- Spans that are written out. -/
theorem SpAt.lit (w : World) (xs : List Sp) (n cap : Nat) (cs : Array Value) (t : TypeId) (hn : xs.length = n) (hc : cs.toList = spCells xs) : SpAt (w.alloc (.cells cs t)) (.slice (some ⟨w.heap.size, 0, none⟩) n cap) xs := by
  subst hn
  have h := heap_alloc_new w (.cells cs t)
  refine ⟨_, cap, rfl, fun _ => ⟨w.heap.size, 0, rfl, fun i hi => ?_⟩⟩
  obtain ⟨h1, h2⟩ := spCells_at xs i hi
  rw [← hc, Array.getElem?_toList] at h1 h2
  rw [Nat.zero_add]
  exact ⟨(cell_of_row _ _ _ _ _ _ h).trans h1, (cell_of_row _ _ _ _ _ _ h).trans h2⟩
set_option maxRecDepth 100000 in
set_option maxHeartbeats 2000000 in
theorem sgreat_any (v : Value) (n : Nat) (ao : Option Addr) (cap : Nat) (w : World) (hv : v = .slice ao n cap) :
    Calls Try.prog 9 #[v] w fun e w' => e = .returned (.bool (decide ((60 : Int) < n))) ∧ w = w' := by
  subst hv
  go_enter Try.func9, Try.ntmps9
  go_wp2
  go_ret
  exact ⟨rfl, rfl⟩
set_option maxRecDepth 100000 in
set_option maxHeartbeats 4000000 in
theorem salive_any (C : SC) (w : World) : Calls Try.prog 8 #[] w fun e w' => e = .returned (.bool true) ∧ Below w.heap.size w w' := by
  have a1 := C.opened (.slice (some ⟨w.heap.size, 0, none⟩) 1 1) [(2, 4)] 3 3 _ (SpAt.lit w [(2, 4)] 1 1 #[.int .i64 2, .int .i64 4] 42 rfl rfl) (by decide) (sWf_may (by decide)) (by decide) (by decide)
  have hB1 := (Below.refl w.heap.size w).alloc (Nat.le_refl _) (.cells #[.int .i64 2, .int .i64 4] 42)
  go_enter Try.func8, Try.ntmps8
  go_wp2_with fail
  refine a1.mono ?_
  clear a1
  rintro e w1 ⟨v, rfl, hr, hb1⟩
  rw [ex1_code, if_pos rfl, ex1_list] at hr
  rw [ex1_code]
  have hw1 := hB1.trans (hb1.mono hB1.size)
  have hB2 := (Below.refl w1.heap.size w1).alloc (Nat.le_refl _) (.cells #[.int .i64 2, .int .i64 1, .int .i64 6, .int .i64 3] 42)
  have hr2 := hr.below hB2
  have a2 := rSpSame_any v (.slice (some ⟨w1.heap.size, 0, none⟩) 2 2) [(2, 1), (6, 3)] [(2, 1), (6, 3)] _ hr2 (SpAt.lit w1 [(2, 1), (6, 3)] 2 2 #[.int .i64 2, .int .i64 1, .int .i64 6, .int .i64 3] 42 rfl rfl) (by decide)
  rw [decide_eq_true rfl] at a2
  have hw2 := hw1.trans (hB2.mono hw1.size)
  clear hB1 hb1 hw1 hr hB2
  go_wp2_with fail
  refine a2.mono ?_
  clear a2
  rintro e w3 ⟨rfl, hb3⟩
  have hw3 := hw2.trans (hb3.mono hw2.size)
  have a3 := C.total v [(2, 1), (6, 3)] w3 (hr2.below hb3) (by decide) (sWf_may (by decide))
  rw [if_pos (show sMay [((2 : Int), (1 : Int)), (6, 3)] = true by decide), ex1_total] at a3
  clear hb3 hw2 hr2
  go_wp2_with fail
  refine a3.mono ?_
  clear a3
  rintro e w4 ⟨rfl, hb4⟩
  have hw4 := hw3.trans (hb4.mono hw3.size)
  clear hw3 hb4
  go_wp2
  go_ret
  exact ⟨rfl, hw4⟩
end Go.Proofs.Ytlofeaodpblagaa
