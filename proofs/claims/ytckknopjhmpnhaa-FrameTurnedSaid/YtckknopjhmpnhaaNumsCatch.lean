/- What faults is caught: the deferred call of a read. -/
import Derived.Test.YtckknopjhmpnhaaNumsTake
import Derived.Test.YtckknopjhmpnhaaWorlds
import Derived.Defers
import Derived.Tactics
import Derived.Tactics2
namespace Go.Proofs.Ytckknopjhmpnhaa
open Go.RowKit Go.Shelf

theorem run_assert_fault (c : Int) (w : World) : (Instr.typeAssert (.iface 83 (.int .i64 c)) 20 83 false).run Try.prog w = .ok (.int .i64 c) w := by
  simp [Instr.typeAssert, run_underlying Try.underlying83]

set_option maxRecDepth 100000 in
set_option maxHeartbeats 2000000 in
theorem catchU_panicking (B a b : Nat) (s from_ : ByteArray) (f c : Int) (older : List PanicEntry) (w : World) (h : Rd B s f w) (ha : w.cell? ⟨a, 0, none⟩ = some (.pointer (some ⟨B, 0, none⟩))) (hb : w.cell? ⟨b, 0, none⟩ = some (.string from_)) :
    CallsD Try.prog 58 #[.pointer (some ⟨a, 0, none⟩), .pointer (some ⟨b, 0, none⟩)] (.panicking ({ v := .iface 83 (.int .i64 c), recovered := false } :: older)) w fun e u' w' =>
      e = .returned (.tuple #[]) ∧ u' = .panicking ({ v := .iface 83 (.int .i64 c), recovered := true } :: older) ∧ Rd B from_ c w' ∧ Keep (fun k => k = B) w.heap.size w w' := by
  refine callsD_of_wpS Try.func58 rfl fun c₀ cs hu => ?_
  apply wpS_seq
  apply wpS_region
  simp [wpOpsS, go_sem, recoverD, hu, Try.ntmps58, Exit.thenS]
  refine wpS_of_wp ?_
  change Code.wp _ _ _ { tmps := #[.pointer (some ⟨a, 0, none⟩), .pointer (some ⟨b, 0, none⟩), .iface 83 (.int .i64 c), .iface 83 (.int .i64 c), undef, undef, undef, undef, undef, undef, undef, undef, undef, undef, undef], defers := [] } w
  have hTA := run_assert_fault c
  have c0 := h.c0
  have c1 := h.c1
  have f0 := h.f0
  have f1 := h.f1
  go_wp2
  go_region
  go_wp2
  exact ⟨rfl, _, rfl, _, results_none rfl _ _ _, rfl, rfl, ((h.put1 c).put0 from_).drew, ((((Keep.refl (fun k => k = B) w.heap.size w).setCell (p := ⟨B, 1, none⟩) (.inl rfl) _).setCell (p := ⟨B, 0, none⟩) (.inl rfl) _).drewN 1)⟩

set_option maxRecDepth 100000 in
theorem catchU_idle (a b : Nat) (w : World) :
    CallsD Try.prog 58 #[.pointer (some ⟨a, 0, none⟩), .pointer (some ⟨b, 0, none⟩)] .returning w fun e u' w' => e = .returned (.tuple #[]) ∧ u' = .returning ∧ w' = w := by
  refine callsD_of_wpS Try.func58 rfl fun c₀ cs hu => ?_
  apply wpS_seq
  apply wpS_region
  simp [wpOpsS, go_sem, recoverD, hu, Try.ntmps58, Exit.thenS]
  refine wpS_of_wp ?_
  change Code.wp _ _ _ { tmps := #[.pointer (some ⟨a, 0, none⟩), .pointer (some ⟨b, 0, none⟩), .nilIface, .nilIface, undef, undef, undef, undef, undef, undef, undef, undef, undef, undef, undef], defers := [] } w
  go_wp2
  cases c₀
  simp_all [bodyPostS, results, Try.results58]

set_option maxRecDepth 100000 in
set_option maxHeartbeats 2000000 in
theorem catchT_panicking (B a b : Nat) (s from_ : ByteArray) (f c : Int) (older : List PanicEntry) (w : World) (h : Rd B s f w) (ha : w.cell? ⟨a, 0, none⟩ = some (.pointer (some ⟨B, 0, none⟩))) (hb : w.cell? ⟨b, 0, none⟩ = some (.string from_)) :
    CallsD Try.prog 60 #[.pointer (some ⟨a, 0, none⟩), .pointer (some ⟨b, 0, none⟩)] (.panicking ({ v := .iface 83 (.int .i64 c), recovered := false } :: older)) w fun e u' w' =>
      e = .returned (.tuple #[]) ∧ u' = .panicking ({ v := .iface 83 (.int .i64 c), recovered := true } :: older) ∧ Rd B from_ c w' ∧ Keep (fun k => k = B) w.heap.size w w' := by
  refine callsD_of_wpS Try.func60 rfl fun c₀ cs hu => ?_
  apply wpS_seq
  apply wpS_region
  simp [wpOpsS, go_sem, recoverD, hu, Try.ntmps60, Exit.thenS]
  refine wpS_of_wp ?_
  change Code.wp _ _ _ { tmps := #[.pointer (some ⟨a, 0, none⟩), .pointer (some ⟨b, 0, none⟩), .iface 83 (.int .i64 c), .iface 83 (.int .i64 c), undef, undef, undef, undef, undef, undef, undef, undef, undef, undef, undef], defers := [] } w
  have hTA := run_assert_fault c
  have c0 := h.c0
  have c1 := h.c1
  have f0 := h.f0
  have f1 := h.f1
  go_wp2
  go_region
  go_wp2
  exact ⟨rfl, _, rfl, _, results_none rfl _ _ _, rfl, rfl, ((h.put1 c).put0 from_).drew, ((((Keep.refl (fun k => k = B) w.heap.size w).setCell (p := ⟨B, 1, none⟩) (.inl rfl) _).setCell (p := ⟨B, 0, none⟩) (.inl rfl) _).drewN 1)⟩

set_option maxRecDepth 100000 in
theorem catchT_idle (a b : Nat) (w : World) :
    CallsD Try.prog 60 #[.pointer (some ⟨a, 0, none⟩), .pointer (some ⟨b, 0, none⟩)] .returning w fun e u' w' => e = .returned (.tuple #[]) ∧ u' = .returning ∧ w' = w := by
  refine callsD_of_wpS Try.func60 rfl fun c₀ cs hu => ?_
  apply wpS_seq
  apply wpS_region
  simp [wpOpsS, go_sem, recoverD, hu, Try.ntmps60, Exit.thenS]
  refine wpS_of_wp ?_
  change Code.wp _ _ _ { tmps := #[.pointer (some ⟨a, 0, none⟩), .pointer (some ⟨b, 0, none⟩), .nilIface, .nilIface, undef, undef, undef, undef, undef, undef, undef, undef, undef, undef, undef], defers := [] } w
  go_wp2
  cases c₀
  simp_all [bodyPostS, results, Try.results60]
end Go.Proofs.Ytckknopjhmpnhaa
