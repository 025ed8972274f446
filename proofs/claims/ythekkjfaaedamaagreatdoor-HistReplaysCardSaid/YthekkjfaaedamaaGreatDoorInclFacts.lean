/- What the walks of Incl need of the values. -/
import Derived.Test.YthekkjfaaedamaaGreatDoorGPlain
import Derived.Test.YthekkjfaaedamaaGreatDoorGNameEq
import Derived.DataShut
namespace Go.Proofs.YthekkjfaaedamaaGreatDoor
open Go.RowKit

theorem OMay.len {o : POp} {size : Int} (h : OMay o size) : ∀ z ∈ o.spans, z.2 ≠ 0 := fun z hz => by
 obtain ⟨_, _, _, ⟨_, _, _, _, h, _⟩ | ⟨_, _, _, hg, _⟩⟩ := h
 ·rw [h] at hz; cases hz
 ·have := hg.1 z hz; omega
theorem OMay.kind {o : POp} {size : Int} (h : OMay o size) : o.kind = 1 ∨ o.kind = 2 := by
 obtain ⟨_, _, _, ⟨k, _⟩ | ⟨k, _⟩⟩ := h
 ·exact .inl k
 ·exact .inr k
end Go.Proofs.YthekkjfaaedamaaGreatDoor
