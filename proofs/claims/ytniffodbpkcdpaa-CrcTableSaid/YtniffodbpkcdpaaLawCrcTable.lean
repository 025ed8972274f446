/- CrcTable: the law's walk. -/
import Derived.Test.YtniffodbpkcdpaaCrcAlive
import Derived.Deep.QuietTactic
import Derived.BigQuiet
namespace Go.Proofs.Ytniffodbpkcdpaa
open Go.RowKit

set_option maxRecDepth 100000 in
set_option maxHeartbeats 2000000 in
theorem lawCrcTable_any (w : World) :
    Calls Try.prog 4 #[] w fun e W' => e = .returned (.bool true) ∧ Below w.heap.size w W' := by
  have hA := calive_any w
  have hT := fun w => ctable_any w
  obtain ⟨hz, hi⟩ := zero_of_info zero256
  rw [← fillC_zero .u32 (Crc.steps 8) 256] at hz
  have hsz := fillC_size .u32 (Crc.steps 8) 256 256
  have hi' : (Try.prog.info? 28).map (·.size) = some (fillC .u32 (Crc.steps 8) 256 256).size := by rw [hsz]; exact hi
  have h1 := fillC_one .u32 (Crc.steps 8) 256 256
  have hold : (fillC .u32 (Crc.steps 8) 256 0).size = (fillC .u32 (Crc.steps 8) 256 256).size := by rw [hsz, fillC_size]
  go_enter Try.func4, Try.ntmps4
  go_wp2_with fail
  refine hA.mono ?_
  clear hA
  rintro e w1 ⟨rfl, hb1⟩
  go_wp2_with fail
  refine (hT _).mono ?_
  clear hT
  rintro e w2 ⟨rfl, hb⟩
  have hb2 := hb1.trans (hb.mono hb1.size)
  clear hb hi
  go_wp2_with (refine wpList_store_row rfl 28 _ _ rfl w2.heap.size _ rfl rfl 28 _ (heap_alloc_new w2 (.cells (fillC .u32 (Crc.steps 8) 256 0) 28)) hi' hold h1 ?_; rw [World.setRow_alloc_new])
  clear hi' h1 hold hsz hz
  have hcell : ∀ i : Nat, i < 256 → (w2.alloc (.cells (fillC .u32 (Crc.steps 8) 256 256) 28)).cell? ⟨w2.heap.size, i, none⟩ = some (.int .u32 (Crc.steps 8 i : Nat)) := fun i hi => by
    rw [World.cell?_alloc_at _ _ _ _ rfl, fillC_at _ _ _ _ i hi, if_pos hi]
  have hb3 : Below w.heap.size w (w2.alloc (.cells (fillC .u32 (Crc.steps 8) 256 256) 28)) := hb2.alloc hb2.size _
  generalize w2.alloc (.cells (fillC .u32 (Crc.steps 8) 256 256) 28) = w3 at *
  have HC := Lib.hid hcell
  clear hcell
  go_loopw [2] (fun i wr => ∃ k q : Nat, k ≤ 256 ∧ i = .int .i64 k ∧ wr = w3.drewN q) (fun i _ => 256 - (intOf i).toNat)
  case atStart => exact ⟨0, 0, by omega, rfl, rfl⟩
  case round =>
    rename_i wr
    obtain ⟨k, q, hk, rfl, rfl⟩ := hrel
    by_cases hlt : k < 256
    · have hW := fun w => word_any k hlt w
      have hck : (w3.drewN q).cell? ⟨w2.heap.size, k, none⟩ = some (.int .u32 (Crc.steps 8 k : Nat)) := by rw [World.cell?_drewN]; exact HC.out k hlt
      have hd : ∀ m, (w3.drewN q).drewN m = w3.drewN (q + m) := fun m => World.drewN_drewN _ _ _
      have HD := Lib.hid hd
      clear hd
      generalize Crc.steps 8 k = x at *
      generalize w3.drewN q = wq at *
      go_wp2_with fail
      go_quiet ((go_at_call 17; exact Calls.quiet_of_same (hW _)))
      go_wp2
      go_roundw
      case rel => exact ⟨k + 1, _, by omega, by go_num, HD.out _⟩
      case measure => simp [intOf]; omega
    · obtain rfl : k = 256 := by omega
      go_wp2
      go_ret
      exact ⟨rfl, below_drewN hb3 _⟩
end Go.Proofs.Ytniffodbpkcdpaa
