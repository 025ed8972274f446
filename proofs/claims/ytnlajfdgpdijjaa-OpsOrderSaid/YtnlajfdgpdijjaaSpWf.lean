/- Spans whose numbers are numbers. Nothing of a program's own text. -/
import Derived.Test.YtnlajfdgpdijjaaReadsSp
import Derived.OpenShut
import Derived.DataShut
namespace Go.Proofs.Ytnlajfdgpdijjaa
open Go.RowKit

/-- Numbers of a list that came in. -/
def sWf (xs : List Sp) : Prop := ∀ s ∈ xs, (Lit.int .i64 s.1).wf = true ∧ (Lit.int .i64 s.2).wf = true
theorem sWf_of_small {xs : List Sp} (h : ∀ s ∈ xs, -100000 ≤ s.1 ∧ s.1 ≤ 100000 ∧ -100000 ≤ s.2 ∧ s.2 ≤ 100000) : sWf xs := by
  have key : ∀ n : Int, -100000 ≤ n → n ≤ 100000 → (Lit.int .i64 n).wf = true := by
    intro n h1 h2
    rw [Lit.wf_int_iff, show IntKind.i64.min = -9223372036854775808 from by decide, show IntKind.i64.max = 9223372036854775807 from by decide]
    omega
  exact fun s hs => ⟨key _ (h s hs).1 (h s hs).2.1, key _ (h s hs).2.2.1 (h s hs).2.2.2⟩
theorem sWf_good {xs : List Sp} (h : sGood xs) : sWf xs := sWf_of_small fun s hs => by have := h.1 s hs; omega
theorem sWf_may {xs : List Sp} (h : sMay xs = true) : sWf xs := sWf_good ((sMay_good xs).1 h)
theorem sWf_nil : sWf [] := fun s hs => by cases hs
end Go.Proofs.Ytnlajfdgpdijjaa
