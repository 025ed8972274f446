/- The statements' own Of and Plain: a frame as the program has it, and as the document has it. -/
import Derived.Test.YtckknopjhmpnhaaRefFramePut
namespace Go.Proofs.Ytckknopjhmpnhaa
open Go.RowKit Go.Shelf

theorem info28 : (Try.prog.info? 28).map (·.size) = some 5 := by kernel_rfl
theorem info23' : (Try.prog.info? 23).map (·.size) = some 5 := by kernel_rfl
set_option maxRecDepth 100000 in
set_option maxHeartbeats 1000000 in
theorem of_frame (k s q a : Int) (b : ByteArray) (w : World) :
    Calls Try.prog 10 #[frV k s q a b] w fun e w' => e = .returned (frV k s q a b) ∧ Below w.heap.size w w' := by
  unfold frV
  go_enter Try.func10, Try.ntmps10
  go_wp2
  exact bodyPost_ret (v := frV k s q a b) (results_cell_row rfl _ _ (w.heap.size + 1) 28 _ (0, 0) _ rfl (heap_alloc2_new _ _ _) Try.underlying28 rfl info28) rfl ⟨rfl, below_two _ _ _⟩
set_option maxRecDepth 100000 in
set_option maxHeartbeats 1000000 in
theorem plain_frame (k s q a : Int) (b : ByteArray) (w : World) :
    Calls Try.prog 16 #[frV k s q a b] w fun e w' => e = .returned (frV k s q a b) ∧ Below w.heap.size w w' := by
  unfold frV
  go_enter Try.func16, Try.ntmps16
  go_wp2
  exact bodyPost_ret (v := frV k s q a b) (results_cell_row rfl _ _ (w.heap.size + 1) 23 _ (0, 0) _ rfl (heap_alloc2_new _ _ _) Try.underlying23 rfl info23') rfl ⟨rfl, below_two _ _ _⟩
/-- What may be is a frame of the plain sort. -/
theorem mayI_yes {k s q a : Int} {b : ByteArray} (h : mayI k s q a b.size = true) : ∃ f : Fr, frMay f ∧ frV k s q a b = frOf f ∧ f.body = b.data.toList := by
  have h := of_decide_eq_true h
  refine ⟨⟨k.toNat, s.toNat, q.toNat, a.toNat, b.data.toList⟩, ?_, ?_, rfl⟩
  · have hl := Lib.size_eq b
    unfold frMay
    simp only
    have : b.data.toList = [] ↔ b.data.toList.length = 0 := List.length_eq_zero_iff.symm
    rw [this, ← hl]
    omega
  · unfold frOf
    simp only
    rw [show ((k.toNat : Nat) : Int) = k by omega, show ((s.toNat : Nat) : Int) = s by omega, show ((q.toNat : Nat) : Int) = q by omega, show ((a.toNat : Nat) : Int) = a by omega]
end Go.Proofs.Ytckknopjhmpnhaa
