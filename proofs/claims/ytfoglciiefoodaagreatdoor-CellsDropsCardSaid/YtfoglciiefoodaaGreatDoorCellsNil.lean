/- Methods of no document. -/
import Derived.Test.YtfoglciiefoodaaGreatDoorGCellsGather
import Derived.Test.YtfoglciiefoodaaGreatDoorCellsRun
import Derived.Test.YtfoglciiefoodaaGreatDoorCellsSeen
import Derived.Test.YtfoglciiefoodaaGreatDoorGCellsAsked
namespace Go.Proofs.YtfoglciiefoodaaGreatDoor
open Go.RowKit Go.Shelf
attribute [local go_sem] Oper.semAt_some

theorem size0_any (w : World) : Calls Tryz.prog 15 #[.pointer none] w (Nothing (.int .i64 0) w) := (dsize_any none 0 0 w (by omega) (whole0_any w)).mono fun _ _ h => h
theorem live0_any (w : World) : Calls Tryz.prog 16 #[.pointer none] w (Nothing (.int .i64 0) w) := (dlive_any none 0 0 w (whole0_any w)).mono fun _ _ h => h
set_option maxRecDepth 100000 in
set_option maxHeartbeats 4000000 in
theorem do0_any (w : World) : Calls Tryz.prog 32 #[.pointer none, opV 0 0 0 0 0 ⟨#[]⟩ (.slice none 0 0)] w (Nothing (.int .i64 1) w) := by
  unfold opV Nothing
  have hb := (Below.refl w.heap.size w).alloc (Nat.le_refl _) (.cells #[.int .i64 0, .int .i64 0, .int .i64 0, .int .i64 0, .int .i64 0, .string ⟨#[]⟩, .slice none 0 0] 35)
  have HB := Lib.hid hb
  clear hb
  go_enter Tryz.func32, Tryz.ntmps32
  go_wp2
  try go_region
  try go_wp2
  go_ret
  first | exact ⟨rfl, HB.out⟩ | exact ⟨rfl, HB.out.drew⟩
set_option maxRecDepth 100000 in
set_option maxHeartbeats 4000000 in
theorem drop0_any (w : World) : Calls Tryz.prog 34 #[.pointer none, .slice none 0 0] w (Nothing (.int .i64 1) w) := by
  unfold Nothing
  go_enter Tryz.func34, Tryz.ntmps34
  go_wp2
  try go_region
  try go_wp2
  go_ret
  first | exact ⟨rfl, Below.refl _ _⟩ | exact ⟨rfl, (Below.refl _ _).drew⟩
set_option maxRecDepth 100000 in
set_option maxHeartbeats 4000000 in
theorem copy0_any (w : World) : Calls Tryz.prog 31 #[.pointer none] w (Nothing (.pointer none) w) := by
  unfold Nothing
  go_enter Tryz.func31, Tryz.ntmps31
  go_wp2
  go_ret
  exact ⟨rfl, Below.refl _ _⟩
set_option maxRecDepth 100000 in
set_option maxHeartbeats 4000000 in
theorem seen0_any (w : World) : Calls Tryz.prog 26 #[.pointer none, .int .i64 0] w (Nothing (.tuple #[.int .i64 0, .int .i64 1]) w) := by
  unfold Nothing
  have hb := ((Below.refl w.heap.size w).alloc (Nat.le_refl _) (.cells #[.pointer none] 26)).alloc (by simp) (.cells #[.int .i64 0] 3)
  have HB := Lib.hid hb
  clear hb
  go_enter Tryz.func26, Tryz.ntmps26
  go_wp2
  refine bodyPost_ret (seen_results _ _ 0 1 rfl rfl) rfl ?_
  exact ⟨rfl, HB.out⟩
set_option maxRecDepth 100000 in
set_option maxHeartbeats 4000000 in
theorem gap0_any (w : World) : Calls Tryz.prog 24 #[.pointer none, .int .i64 0] w (Nothing (.tuple #[.int .i64 0, .int .i64 1]) w) := by
  unfold Nothing
  go_enter Tryz.func24, Tryz.ntmps24
  go_wp2
  have r0 := row_al (heap_new w (.cells #[.int .i64 0] 3)) (.cells #[.int .i64 1] 27)
  have r1 := heap_new1 w (.cells #[.int .i64 0] 3) (.cells #[.int .i64 1] 27)
  exact bodyPost_ret (gap_results _ _ w.heap.size (w.heap.size + 1) 0 1 rfl rfl (box_cell r0 0) (box_cell r1 0)) rfl ⟨rfl, ((Below.refl _ w).alloc (Nat.le_refl _) _).alloc (by simp) _⟩
end Go.Proofs.YtfoglciiefoodaaGreatDoor
