/- Texts of this proof, joined. -/
import Derived.Test.YtmedickofiielaaGNameEq
import Derived.Test.YtmedickofiielaaGReads64
import Derived.Deep.RegionHeld
import Derived.RangeFuncBox
import Derived.Deep.RegionLaw
import Derived.Deep.CutRange
import Derived.Deep.DeepCutAuto
namespace Go.Proofs.Ytmedickofiielaa
open Go.RowKit

set_option maxRecDepth 100000 in
set_option maxHeartbeats 2000000 in
theorem spEnd_any (s : Sp) (W : World) : Calls Try.prog 46 #[.agg #[.int .i64 s.1, .int .i64 s.2]] W fun e W' => e = .returned (.int .i64 (spEnd s)) ∧ W' = W.alloc (.cells #[.int .i64 s.1, .int .i64 s.2] 76) := by
 obtain ⟨a, b⟩ := s
 show Calls Try.prog 46 #[.agg #[.int .i64 a, .int .i64 b]] W fun e W' => e = .returned (.int .i64 (IntKind.i64.wrap (a + b))) ∧ W' = W.alloc (.cells #[.int .i64 a, .int .i64 b] 76)
 go_enter Try.func46, Try.ntmps46
 go_wp2
 go_ret
 exact ⟨ret_i64 (by unfold wrap64; exact (IntKind.wrap_i64 _).symm), rfl⟩
def PutH (N g cap k : Nat) (L : List Sp) (p q : Int) (w0 W : World) : Prop :=
 W.ownsRow N 76 2 (.slice (some ⟨g, 0, none⟩) (k + 1) cap) (k + 1) (spCells L) ∧ W.cell? ⟨g, k * 2, none⟩ = some (.int .i64 p) ∧ W.cell? ⟨g, k * 2 + 1, none⟩ = some (.int .i64 q) ∧ W.frozen? ⟨g, k * 2 + 1, none⟩ = false ∧ g < W.heap.size ∧ Below N w0 W
theorem PutH.drew {N g cap k : Nat} {L : List Sp} {p q : Int} {w0 W : World} (h : PutH N g cap k L p q w0 W) : PutH N g cap k L p q w0 W.drew := ⟨h.1, h.2.1, h.2.2.1, h.2.2.2.1, h.2.2.2.2.1, h.2.2.2.2.2.drew⟩
theorem PutH.alloc {N g cap k : Nat} {L : List Sp} {p q : Int} {w0 W : World} (h : PutH N g cap k L p q w0 W) (hN : N ≤ g) (o : Obj) : PutH N g cap k L p q w0 (W.alloc o) := by
 obtain ⟨h1, h2, h3, h4, h5, h6⟩ := h
 have hb : Below W.heap.size W (W.alloc o) := (Below.refl _ W).alloc (Nat.le_refl _) o
 have fr : (W.alloc o).frozen? ⟨g, k * 2 + 1, none⟩ = W.frozen? ⟨g, k * 2 + 1, none⟩ := (frozen_kept h3 (World.grownBy_alloc W o none) (fun r e => by cases e))
 exact ⟨h1.alloc o, cell_stays hb h2, cell_stays hb h3, fr.trans h4, by simp; omega, h6.alloc (by omega) o⟩
end Go.Proofs.Ytmedickofiielaa

namespace Go.Proofs.Ytmedickofiielaa
open Go.RowKit

theorem SpAt.kept {S : Nat → Prop} {W W' : World} {v : Value} {xs : List Sp} (h : SpAt W v xs) (hk : Keep S W.heap.size W W') (hS : ∀ b, v.ownBlock = some b → ¬ S b) : SpAt W' v xs := by
 obtain ⟨ao, cap, rfl, h2⟩ := h
 refine ⟨ao, cap, rfl, fun hx => ?_⟩
 obtain ⟨b, off, rfl, hc⟩ := h2 hx
 have key : ∀ o u, W.cell? ⟨b, o, none⟩ = some u → W'.cell? ⟨b, o, none⟩ = some u := fun o u q => (hk.cell (p := ⟨b, o, none⟩) (World.block_lt_of_cell? W _ q) (hS b rfl)).trans q
 exact ⟨b, off, rfl, fun i hi => ⟨key _ _ (hc i hi).1, key _ _ (hc i hi).2⟩⟩
end Go.Proofs.Ytmedickofiielaa
