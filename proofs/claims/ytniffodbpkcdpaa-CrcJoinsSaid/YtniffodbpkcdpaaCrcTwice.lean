/- The power of one zero byte, and of twice as many. -/
import Derived.Test.YtniffodbpkcdpaaCrcPow
namespace Go.Proofs.Ytniffodbpkcdpaa
open Go.RowKit

theorem zero32 : (Try.prog.info? 44).map (fun i => (i.zero, i.size)) = some (some (.agg (Array.replicate 32 (.int .u32 0))), 32) := by kernel_rfl
/-- What N zero bits make of each bit of a word. -/
def powF (N : Nat) (i : Nat) : Nat := Crc.steps N (2 ^ i)
theorem two_lt {i : Nat} (h : i < 32) : 2 ^ i < 4294967296 := by
  have : 2 ^ i < 2 ^ 32 := Nat.pow_lt_pow_right (by decide) h
  simpa using this
theorem powF_lt (N : Nat) {i : Nat} (h : i < 32) : powF N i < 4294967296 := Crc.steps_lt N (two_lt h)

theorem shl_one {k : Nat} (h : k < 32) : (2 : Int) ^ k % 4294967296 = ((2 ^ k : Nat) : Int) := by
  have h2 := two_lt h
  have e : ((2 ^ k : Nat) : Int) = (2 : Int) ^ k := by simp
  rw [← e]
  generalize 2 ^ k = x at h2
  omega

set_option maxRecDepth 100000 in
set_option maxHeartbeats 2000000 in
theorem one_any (w : World) : Calls Try.prog 27 #[] w fun e w' => e = .returned (.agg (fillC .u32 (powF 8) 32 32)) ∧ Below w.heap.size w w' := by
  obtain ⟨hz, hi⟩ := zero_of_info zero32
  have hu := Try.underlying44
  rw [← fillC_zero .u32 (powF 8) 32] at hz
  go_enter Try.func27, Try.ntmps27
  go_wp2
  clear hz
  go_loopw [3] (fun i wr => ∃ k : Nat, k ≤ 32 ∧ i = .int .i64 k ∧ wr = (w.alloc (.cells (fillC .u32 (powF 8) 32 0) 44)).alloc (.cells (fillC .u32 (powF 8) 32 k) 44)) (fun i _ => 32 - (intOf i).toNat)
  case atStart => exact ⟨0, by omega, rfl, rfl⟩
  case round =>
    rename_i wr
    obtain ⟨k, hk, rfl, rfl⟩ := hrel
    by_cases hlt : k < 32
    · have hn := Lib.hid (fillC_next .u32 (powF 8) 32 k)
      have hat := fillC_at .u32 (powF 8) 32 k k hlt
      have hS := fun w => steps_any (2 ^ k) (two_lt hlt) w
      rw [← shl_one hlt] at hS
      have hp : ((Crc.steps 8 (2 ^ k) : Nat) : Int) = (powF 8 k : Nat) := rfl
      rw [hp] at hS
      clear hp
      go_wp2_with (go_at_call 20; refine (hS _).mono ?_; clear hS; rintro e w' ⟨rfl, rfl⟩)
      go_roundw
      case rel => exact ⟨k + 1, by omega, by go_num, by rw [hn.out]⟩
      case measure => simp [intOf]; omega
    · obtain rfl : k = 32 := by omega
      have hsz := fillC_size .u32 (powF 8) 32 32
      have hi' : (Try.prog.info? 44).map (·.size) = some (fillC .u32 (powF 8) 32 32).size := by rw [hsz]; exact hi
      have hh := heap_alloc2_new w (.cells (fillC .u32 (powF 8) 32 0) 44) (.cells (fillC .u32 (powF 8) 32 32) 44)
      have hh0 := heap_alloc2_old w (.cells (fillC .u32 (powF 8) 32 0) 44) (.cells (fillC .u32 (powF 8) 32 32) 44)
      have hb := below_two w (.cells (fillC .u32 (powF 8) 32 0) 44) (.cells (fillC .u32 (powF 8) 32 32) 44)
      generalize (w.alloc (.cells (fillC .u32 (powF 8) 32 0) 44)).alloc (.cells (fillC .u32 (powF 8) 32 32) 44) = w2 at *
      have h1 := fillC_one .u32 (powF 8) 32 32
      have hold : (fillC .u32 (powF 8) 32 0).size = (fillC .u32 (powF 8) 32 32).size := by rw [hsz, fillC_size]
      go_wp2_with (first | (refine wpList_load_row rfl 44 _ rfl (w.heap.size + 1) rfl 44 _ (0, 0) _ hh hu rfl hi' ?_) | (refine wpList_store_row rfl 44 _ _ rfl w.heap.size _ rfl rfl 44 _ hh0 hi' hold h1 ?_))
      exact bodyPost_ret (v := .agg (fillC .u32 (powF 8) 32 32)) (results_cell_row rfl _ _ w.heap.size 44 _ (0, 0) _ rfl (setRow_heap w2 w.heap.size _ _ _ _ hh0) hu rfl hi') rfl ⟨rfl, below_setRow hb (Nat.le_refl _) _⟩

/-- The power of N bits goes through itself: that of twice as many. -/
theorem twice_next (N i : Nat) (h : i < 32) : ofL (powF N) (powF N i) 32 = powF (N + N) i := by
  have e : powF (N + N) i = Crc.steps N (powF N i) := Crc.steps_add N N (2 ^ i)
  rw [e]
  exact ofL_word N (powF_lt N h)

set_option maxRecDepth 100000 in
set_option maxHeartbeats 2000000 in
theorem twice_any (N b o : Nat) (w : World) (hc : ∀ i, i < 32 → w.cell? ⟨b, o + i, none⟩ = some (.int .u32 (powF N i : Nat))) :
    Calls Try.prog 28 #[.pointer (some ⟨b, o, none⟩)] w fun e w' => e = .returned (.agg (fillC .u32 (powF (N + N)) 32 32)) ∧ Below w.heap.size w w' := by
  obtain ⟨hz, hi⟩ := zero_of_info zero32
  have hu := Try.underlying44
  have hbl := World.block_lt_of_cell? w _ (hc 0 (by decide))
  have HC := Lib.hid hc
  clear hc
  rw [← fillC_zero .u32 (powF (N + N)) 32] at hz
  go_enter Try.func28, Try.ntmps28
  go_wp2
  clear hz
  go_loopw [5] (fun i wr => ∃ k : Nat, k ≤ 32 ∧ i = .int .i64 k ∧ wr = (w.alloc (.cells (fillC .u32 (powF (N + N)) 32 0) 44)).alloc (.cells (fillC .u32 (powF (N + N)) 32 k) 44)) (fun i _ => 32 - (intOf i).toNat)
  case atStart => exact ⟨0, by omega, rfl, rfl⟩
  case round =>
    rename_i wr
    obtain ⟨k, hk, rfl, rfl⟩ := hrel
    by_cases hlt : k < 32
    · have hn := Lib.hid (fillC_next .u32 (powF (N + N)) 32 k)
      have hat := fillC_at .u32 (powF (N + N)) 32 k k hlt
      have hcells : ∀ i, i < 32 → ((w.alloc (.cells (fillC .u32 (powF (N + N)) 32 0) 44)).alloc (.cells (fillC .u32 (powF (N + N)) 32 k) 44)).cell? ⟨b, o + i, none⟩ = some (.int .u32 (powF N i : Nat)) := fun i hi => by
        rw [(below_two w _ _).cell hbl]; exact HC.out i hi
      have hO := of_any (powF N) (fun i hi => powF_lt N hi) b o (powF N k) (powF_lt N hlt) _ hcells
      have hck := hcells k hlt
      rw [twice_next N k hlt] at hO
      clear hcells
      go_wp2_with (go_at_call 24; refine hO.mono ?_; clear hO; rintro e w' ⟨rfl, rfl⟩)
      go_roundw
      case rel => exact ⟨k + 1, by omega, by go_num, by rw [hn.out]⟩
      case measure => simp [intOf]; omega
    · obtain rfl : k = 32 := by omega
      have hsz := fillC_size .u32 (powF (N + N)) 32 32
      have hi' : (Try.prog.info? 44).map (·.size) = some (fillC .u32 (powF (N + N)) 32 32).size := by rw [hsz]; exact hi
      have hh := heap_alloc2_new w (.cells (fillC .u32 (powF (N + N)) 32 0) 44) (.cells (fillC .u32 (powF (N + N)) 32 32) 44)
      have hh0 := heap_alloc2_old w (.cells (fillC .u32 (powF (N + N)) 32 0) 44) (.cells (fillC .u32 (powF (N + N)) 32 32) 44)
      have hb := below_two w (.cells (fillC .u32 (powF (N + N)) 32 0) 44) (.cells (fillC .u32 (powF (N + N)) 32 32) 44)
      generalize (w.alloc (.cells (fillC .u32 (powF (N + N)) 32 0) 44)).alloc (.cells (fillC .u32 (powF (N + N)) 32 32) 44) = w2 at *
      have h1 := fillC_one .u32 (powF (N + N)) 32 32
      have hold : (fillC .u32 (powF (N + N)) 32 0).size = (fillC .u32 (powF (N + N)) 32 32).size := by rw [hsz, fillC_size]
      go_wp2_with (first | (refine wpList_load_row rfl 44 _ rfl (w.heap.size + 1) rfl 44 _ (0, 0) _ hh hu rfl hi' ?_) | (refine wpList_store_row rfl 44 _ _ rfl w.heap.size _ rfl rfl 44 _ hh0 hi' hold h1 ?_))
      exact bodyPost_ret (v := .agg (fillC .u32 (powF (N + N)) 32 32)) (results_cell_row rfl _ _ w.heap.size 44 _ (0, 0) _ rfl (setRow_heap w2 w.heap.size _ _ _ _ hh0) hu rfl hi') rfl ⟨rfl, below_setRow hb (Nat.le_refl _) _⟩
end Go.Proofs.Ytniffodbpkcdpaa
