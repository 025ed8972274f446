/- Texts of this proof, joined. -/
import Derived.Test.YtmedickofiielaaRows
import Derived.Lib.VarintMem
import Derived.Lib.VarintBits
import Derived.Lib.Zigzag
import Derived.ProofKit
import Derived.OpenShut
import Derived.Carry
import Derived.DataShut
namespace Go.Proofs.Ytmedickofiielaa
open Go.Lib

end Go.Proofs.Ytmedickofiielaa

namespace Go.Proofs.Ytmedickofiielaa
open Go.ChangeShapes Go.WideShapes Go.ChangeAt Go.RowKit

theorem own : ownKnob Try.prog.godebug = none := by kernel_rfl
theorem laidOut : laidOutB Try.prog = true := by kernel_rfl

theorem trodAll_below {H : Type} {enc : TypeId × Value → H} {P : Program} (hl : laidOutB P = true) {W W' : World} (hb : Below W.heap.size W W') :
  ∀ (ts : List TypeId) (_ : ts.all (fun t => P.readableRec t && decide (t < P.types.size)) = true) (vs : List Value) (ds : List (DataW H)) (ps : List MemPlace), (∀ x ∈ ps, x.block < W.heap.size) →
   DataW.TrodAll enc P W 0 (fun _ => true) true ts vs ds ps → DataW.TrodAll enc P W' 0 (fun b => decide (b < W.heap.size)) true ts vs ds ps
 | [], _, [], [], _, _, h => h
 | [], _, _ :: _, _, _, _, h => h.elim
 | [], _, [], _ :: _, _, _, h => h.elim
 | t :: ts, ht, v :: vs, d :: ds, ps, hp, ⟨p, q, h1, h2, e⟩ => by
  simp only [List.all_cons, Bool.and_eq_true, decide_eq_true_eq] at ht
  subst e
  exact ⟨p, q, Below.trod hl ht.1.1 ht.1.2 h1 hb (fun x hx => hp x (List.mem_append.2 (.inl hx))), trodAll_below hl hb ts ht.2 vs ds q (fun x hx => hp x (List.mem_append.2 (.inr hx))) h2, rfl⟩
 | _ :: _, _, [], _, _, _, h => h.elim
 | _ :: _, _, _ :: _, [], _, _, h => h.elim
theorem wf_i64 {n : Int} (h : (Lit.int .i64 n).wf = true) : -9223372036854775808 ≤ n ∧ n ≤ 9223372036854775807 := by
 have := (Lit.wf_int_iff _ _).1 h
 rw [show IntKind.i64.min = -9223372036854775808 from by decide, show IntKind.i64.max = 9223372036854775807 from by decide] at this
 omega
end Go.Proofs.Ytmedickofiielaa
