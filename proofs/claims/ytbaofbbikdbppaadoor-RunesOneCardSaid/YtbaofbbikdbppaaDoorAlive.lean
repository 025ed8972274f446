/- alive: the document's example. -/
import Derived.Test.YtbaofbbikdbppaaDoorCut
namespace Go.Proofs.YtbaofbbikdbppaaDoor
open Go.RowKit Go.Shelf

theorem rHello : runesL [104, 101, 108, 108, 111] = some [104, 101, 108, 108, 111] := by decide +kernel
theorem rE : runesL [195, 169] = some [233] := by decide +kernel
theorem rBad : runesL [195] = none := by decide +kernel
theorem jEll : joinL (([104, 101, 108, 108, 111].drop 1).take 3) = [101, 108, 108] := by decide +kernel

set_option maxHeartbeats 1000000 in
theorem alive_any (w : World) (hT : Lib.Utf8Tabs 0 1 w) :
    Calls Tryd.prog 9 #[] w fun e W' => e = .returned (.bool true) ∧ Below w.heap.size w W' := by
  have h1 := cut_in ⟨#[104, 101, 108, 108, 111]⟩ (by decide) 1 3 w hT _ rHello (by decide) (by decide)
  rw [jEll] at h1
  have h2 := fun w1 (h : Below w.heap.size w w1) => len_any ⟨#[195, 169]⟩ (by decide) w1 (Utf8Tabs_below hT h)
  have h3 := fun w1 (h : Below w.heap.size w w1) => len_any ⟨#[195]⟩ (by decide) w1 (Utf8Tabs_below hT h)
  rw [lenL_some (show runesL (⟨#[195, 169]⟩ : ByteArray).data.toList = some [233] from rE)] at h2
  rw [lenL_none (show runesL (⟨#[195]⟩ : ByteArray).data.toList = none from rBad)] at h3
  go_enter Tryd.func9, Tryd.ntmps9
  go_wp2_with fail
  refine h1.mono ?_
  clear h1
  rintro e w1 ⟨rfl, hb1⟩
  go_wp2_with fail
  refine (h2 w1 hb1).mono ?_
  clear h2
  rintro e w2 ⟨rfl, hb2⟩
  have hb12 := hb1.trans (hb2.mono hb1.size)
  go_wp2_with fail
  refine (h3 w2 hb12).mono ?_
  clear h3
  rintro e w3 ⟨rfl, hb3⟩
  go_wp2
  go_ret
  exact ⟨rfl, hb12.trans (hb3.mono hb12.size)⟩
end Go.Proofs.YtbaofbbikdbppaaDoor
