/- The document's example of layer 2; what statements let go of. -/
import Derived.Test.YtpldalmodcmfaaaDoorBufNew
import Derived.Test.YtpldalmodcmfaaaDoorBufPlace
namespace Go.Proofs.YtpldalmodcmfaaaDoor
open Go.RowKit

theorem exRunes : runesL [97, 98, 10, 99] = some [97, 98, 10, 99] := by decide +kernel
theorem exNew : insX [] 0 (some [97, 98, 10, 99]) = ([97, 98, 10, 99], 0) := by decide +kernel
theorem exFd : fd [97, 98, 10, 99] = [2] := by decide +kernel
theorem exCnt : cnt (fd [97, 98, 10, 99]) 3 = 1 := by decide +kernel
theorem exBeg : begL [97, 98, 10, 99] 1 = 3 := by decide +kernel
theorem exAt : atX [97, 98, 10, 99] 0 3 = (0, 3) := by decide +kernel

set_option maxRecDepth 100000 in
set_option maxHeartbeats 4000000 in
theorem galive_any (w : World) (hT : Lib.Utf8Tabs 0 1 w) :
    Calls Tryd.prog 8 #[] w fun e w' => e = .returned (.bool true) ∧ Below w.heap.size w w' := by
  have hN := new_any ⟨#[97, 98, 10, 99]⟩ (by decide) w hT
  have hr : runesL (⟨#[97, 98, 10, 99]⟩ : ByteArray).data.toList = some [97, 98, 10, 99] := exRunes
  rw [hr, exNew] at hN
  have HN := Lib.hid hN
  clear hN hr hT
  go_enter Tryd.func8, Tryd.ntmps8
  go_wp2_with fail
  refine HN.out.mono ?_
  clear HN
  rintro e w1 ⟨hb1, ⟨_, rfl, zs, ys, hz, hB⟩ | ⟨h, _⟩⟩
  · have hz' : zs ++ ys = [97, 98, 10, 99] := hz
    have hl : zs.length + ys.length = 4 := by rw [← List.length_append, hz']; rfl
    have hP0 := place_yes hB 3 (by omega)
    rw [hz'] at hP0
    have hP : Calls Tryd.prog 22 #[.pointer (some ⟨w.heap.size, 0, none⟩), .int .i64 3] w1 fun e w' => e = .returned (.tuple #[.int .i64 1, .int .i64 0, .int .i64 0]) ∧ Below w1.heap.size w1 w' := by
      refine hP0.mono ?_
      rintro e w' ⟨rfl, hb⟩
      refine ⟨?_, hb⟩
      have e1 : cnt (fd [97, 98, 10, 99]) ((3 : Nat) : Int) = 1 := exCnt
      rw [e1, exBeg]
      rfl
    have hAt : ∀ W, Below w1.heap.size w1 W → _ := fun W hb => bat_any (hB.fresh hb) 0 3
    rw [hz', exAt] at hAt
    have hLn : ∀ W, Below w1.heap.size w1 W → _ := fun W hb => lines_any (hB.fresh hb)
    rw [hz', exFd] at hLn
    have HAt := Lib.hid hAt
    have HLn := Lib.hid hLn
    clear hz hz' hB hl hP0 hAt hLn
    go_wp2_with (first
      | (go_at_call 22; refine hP.mono ?_; clear hP; rintro e w2 ⟨rfl, hb2⟩)
      | (go_at_call 24; refine (HAt.out _ hb2).mono ?_; clear HAt; rintro e w3 ⟨rfl, hb3⟩; have hb4 := hb2.trans (hb3.mono hb2.size))
      | (go_at_call 17; refine (HLn.out _ hb4).mono ?_; clear HLn; rintro e _ ⟨rfl, q, rfl⟩))
    go_ret
    exact ⟨rfl, hb1.trans ((below_drewN hb4 _).mono hb1.size)⟩
  · exact absurd rfl h
end Go.Proofs.YtpldalmodcmfaaaDoor
