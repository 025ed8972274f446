/- Parts of bytes: what a part's put tells; put goes through a list of parts. -/
import Derived.Test.YthekkjfaaedamaaGreatDoorGWriteByte
import Derived.Test.YthekkjfaaedamaaGreatDoorGReads64
import Derived.Shelf.Abstract
namespace Go.Proofs.YthekkjfaaedamaaGreatDoor
open Go.RowKit Go.Shelf

def Puts (pv : Value) (bs : List UInt8) (w : World) : Prop :=
 ∃ (T : TypeId) (u : Value) (f : FuncId), pv = .iface T u ∧ (∀ W, (method 331 T u "foolscap/ops.put").run Tryz.prog W = .ok (f, u) W) ∧
  (∀ args W, (callFunc f args).run Tryz.prog W = .ok (.enter f args) W) ∧ bs.length ≤ 1000000000 ∧
  ∀ W, Below w.heap.size w W → Calls Tryz.prog f #[u] W fun e W' => e = .returned (.string ⟨bs.toArray⟩) ∧ Below W.heap.size W W'
theorem Puts.below {pv : Value} {bs : List UInt8} {w w' : World} (h : Puts pv bs w) (hb : Below w.heap.size w w') : Puts pv bs w' := by
 obtain ⟨T, u, f, h1, h2, h3, h4, h5⟩ := h
 exact ⟨T, u, f, h1, h2, h3, h4, fun W hW => h5 W (hb.trans (hW.mono hb.size))⟩
def PtAt (W : World) (v : Value) (ps : List Value) : Prop :=
 ∃ ao cap, v = .slice ao ps.length cap ∧ (0 < ps.length → ∃ b off, ao = some ⟨b, off, none⟩ ∧ ∀ i, i < ps.length → W.cell? ⟨b, off + i, none⟩ = some (ps.getD i undef))
theorem PtAt.nil (W : World) : PtAt W (.slice none 0 0) [] := ⟨none, 0, rfl, fun h => absurd h (by simp)⟩
theorem PtAt.below {W W' : World} {v : Value} {ps : List Value} (h : PtAt W v ps) (hb : Below W.heap.size W W') : PtAt W' v ps := by
 obtain ⟨ao, cap, rfl, h2⟩ := h
 refine ⟨ao, cap, rfl, fun h0 => ?_⟩
 obtain ⟨b, off, e, hc⟩ := h2 h0
 exact ⟨b, off, e, fun i hi => cell_stays hb (hc i hi)⟩
theorem PtAt.at {W : World} {v : Value} {ps : List Value} (h : PtAt W v ps) {i : Nat} (hi : i < ps.length) : ∃ b off cap, v = .slice (some ⟨b, off, none⟩) ps.length cap ∧ W.cell? ⟨b, off + i, none⟩ = some (ps.getD i undef) := by
 obtain ⟨ao, cap, rfl, h2⟩ := h
 obtain ⟨b, off, rfl, hc⟩ := h2 (by omega)
 exact ⟨b, off, cap, rfl, hc i hi⟩
end Go.Proofs.YthekkjfaaedamaaGreatDoor
