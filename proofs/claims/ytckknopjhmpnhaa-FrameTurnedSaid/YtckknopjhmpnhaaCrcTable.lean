/- The table: an array that a call makes and hands back by value. -/
import Derived.Test.YtckknopjhmpnhaaCrcRef
import Derived.Deep.WholeRow
import Derived.Laws.ResultCell
namespace Go.Proofs.Ytckknopjhmpnhaa
open Go.RowKit

/-- An array of n numbers of one kind, the first k of them told by f, the others 0. -/
def fillC (q : IntKind) (f : Nat → Nat) (n k : Nat) : Array Value := ((List.range n).map fun i => Value.int q (if i < k then f i else 0 : Nat)).toArray
theorem fillC_size (q : IntKind) (f : Nat → Nat) (n k : Nat) : (fillC q f n k).size = n := by simp [fillC]
theorem fillC_zero (q : IntKind) (f : Nat → Nat) (n : Nat) : fillC q f n 0 = Array.replicate n (.int q 0) := by
  apply Array.ext_getElem?
  intro i
  simp only [fillC, List.getElem?_toArray, List.getElem?_map, Array.getElem?_replicate]
  by_cases h : i < n <;> simp [h]
theorem fillC_at (q : IntKind) (f : Nat → Nat) (n k i : Nat) (h : i < n) : (fillC q f n k)[i]? = some (.int q (if i < k then f i else 0 : Nat)) := by
  simp [fillC, h]
theorem fillC_next (q : IntKind) (f : Nat → Nat) (n k : Nat) : (fillC q f n k).setIfInBounds k (.int q (f k : Nat)) = fillC q f n (k + 1) := by
  apply Array.ext_getElem?
  intro i
  by_cases hi : i < n
  · rw [fillC_at q f n (k + 1) i hi, Array.getElem?_setIfInBounds, fillC_size]
    by_cases e : k = i
    · subst e; simp [hi]
    · rw [if_neg e, fillC_at q f n k i hi]
      by_cases h1 : i < k
      · have : i < k + 1 := by omega
        simp [h1, this]
      · have : ¬ i < k + 1 := by omega
        simp [h1, this]
  · rw [Array.getElem?_eq_none (by simp [fillC_size]; omega), Array.getElem?_eq_none (by simp [fillC_size]; omega)]
theorem fillC_one (q : IntKind) (f : Nat → Nat) (n k : Nat) : (fillC q f n k).all (·.oneCell') = true := by
  rw [Array.all_eq_true_iff_forall_mem]
  intro v hv
  obtain ⟨i, hi, rfl⟩ := Array.mem_iff_getElem.1 hv
  simp [fillC, Value.oneCell']

theorem below_two (w : World) (A B : Obj) : Below w.heap.size w ((w.alloc A).alloc B) := ((Below.refl _ w).alloc (Nat.le_refl _) A).alloc ((Below.refl _ w).alloc (Nat.le_refl _) A).size B
theorem below_setRow {B : Nat} {a w : World} (h : Below B a w) {g : Nat} (hg : B ≤ g) (cs : Array Value) : Below B a (w.setRow g cs) :=
  h.trans ⟨rfl, rfl, rfl, by simp, fun k hk => setRow_other w g k cs (by omega)⟩
theorem zero256 : (Try.prog.info? 79).map (fun i => (i.zero, i.size)) = some (some (.agg (Array.replicate 256 (.int .u32 0))), 256) := by kernel_rfl

set_option maxRecDepth 100000 in
set_option maxHeartbeats 2000000 in
theorem ctable_any (w : World) : Calls Try.prog 44 #[] w fun e w' => e = .returned (.agg (fillC .u32 (Crc.steps 8) 256 256)) ∧ Below w.heap.size w w' := by
  obtain ⟨hz, hi⟩ := zero_of_info zero256
  have hu := Try.underlying79
  rw [← fillC_zero .u32 (Crc.steps 8) 256] at hz
  go_enter Try.func44, Try.ntmps44
  go_wp2
  clear hz
  go_loopw [3] (fun i wr => ∃ k : Nat, k ≤ 256 ∧ i = .int .i64 k ∧ wr = (w.alloc (.cells (fillC .u32 (Crc.steps 8) 256 0) 79)).alloc (.cells (fillC .u32 (Crc.steps 8) 256 k) 79)) (fun i _ => 256 - (intOf i).toNat)
  case atStart => exact ⟨0, by omega, rfl, rfl⟩
  case round =>
    rename_i wr
    obtain ⟨k, hk, rfl, rfl⟩ := hrel
    by_cases hlt : k < 256
    · have hn := Lib.hid (fillC_next .u32 (Crc.steps 8) 256 k)
      have hat := fillC_at .u32 (Crc.steps 8) 256 k k hlt
      have hS := fun w => steps_any k (by omega) w
      go_wp2_with (go_at_call 55; refine (hS _).mono ?_; clear hS; rintro e w' ⟨rfl, rfl⟩)
      go_roundw
      case rel => exact ⟨k + 1, by omega, by go_num, by rw [hn.out]⟩
      case measure => simp [intOf]; omega
    · obtain rfl : k = 256 := by omega
      have hsz := fillC_size .u32 (Crc.steps 8) 256 256
      have hi' : (Try.prog.info? 79).map (·.size) = some (fillC .u32 (Crc.steps 8) 256 256).size := by rw [hsz]; exact hi
      have hh := heap_alloc2_new w (.cells (fillC .u32 (Crc.steps 8) 256 0) 79) (.cells (fillC .u32 (Crc.steps 8) 256 256) 79)
      have hh0 := heap_alloc2_old w (.cells (fillC .u32 (Crc.steps 8) 256 0) 79) (.cells (fillC .u32 (Crc.steps 8) 256 256) 79)
      have hb : Below w.heap.size w ((w.alloc (.cells (fillC .u32 (Crc.steps 8) 256 0) 79)).alloc (.cells (fillC .u32 (Crc.steps 8) 256 256) 79)) := below_two _ _ _
      generalize (w.alloc (.cells (fillC .u32 (Crc.steps 8) 256 0) 79)).alloc (.cells (fillC .u32 (Crc.steps 8) 256 256) 79) = w2 at *
      have h1 := fillC_one .u32 (Crc.steps 8) 256 256
      have hold : (fillC .u32 (Crc.steps 8) 256 0).size = (fillC .u32 (Crc.steps 8) 256 256).size := by rw [hsz, fillC_size]
      go_wp2_with (first | (refine wpList_load_row rfl 79 _ rfl (w.heap.size + 1) rfl 79 _ (0, 0) _ hh hu rfl hi' ?_) | (refine wpList_store_row rfl 79 _ _ rfl w.heap.size _ rfl rfl 79 _ hh0 hi' hold h1 ?_))
      exact bodyPost_ret (v := .agg (fillC .u32 (Crc.steps 8) 256 256)) (results_cell_row rfl _ _ w.heap.size 79 _ (0, 0) _ rfl (setRow_heap w2 w.heap.size _ _ _ _ hh0) hu rfl hi') rfl ⟨rfl, below_setRow hb (Nat.le_refl _) _⟩
end Go.Proofs.Ytckknopjhmpnhaa
