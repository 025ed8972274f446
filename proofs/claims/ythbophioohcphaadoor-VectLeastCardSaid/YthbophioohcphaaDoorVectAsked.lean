/- What the laws lean on of the program's own functions, as one premise: each stage's program gives it (VC.mk of its functions' contracts). -/
import Derived.Test.YthbophioohcphaaDoorRefName
import Derived.Test.YthbophioohcphaaDoorRefLeast
import Derived.Test.YthbophioohcphaaDoorGreat6
namespace Go.Proofs.YthbophioohcphaaDoor
open Go.RowKit

/-- How two vectors lie to each other. -/
def vOrder (a b : List Int) : Int :=
  if (vMay a && vMay b) = false then -1 else if vCov a b && vCov b a then 0 else if vCov a b then 1 else if vCov b a then 2 else 3
/-- A name that is read, with its error. -/
def PReadPost (L : List UInt8) (w : World) (e : Ending) (w' : World) : Prop :=
  ((∃ s q, nMay s q = true ∧ nText s q = L ∧ e = .returned (.tuple #[nmV s q, .int .i64 0])) ∨ (noName L ∧ e = .returned (.tuple #[nmV 0 0, .int .i64 9]))) ∧ Below w.heap.size w w'
/-- A vector that is made, or an error. -/
def PMadePost (ok : Bool) (xs : List Int) (w : World) (e : Ending) (w' : World) : Prop :=
  ∃ v, e = .returned (.tuple #[v, .int .i64 (if ok then 0 else 1)]) ∧ Reads64 w' v (if ok then xs else []) ∧ Below w.heap.size w w'
/-- The program's own functions, each as the document has it. -/
structure VC : Prop where
  mayName : ∀ (s q : Int) (w : World), Calls Tryd.prog 11 #[nmV s q] w fun e w' => e = .returned (.bool (nMay s q)) ∧ Below w.heap.size w w'
  less : ∀ (s q s' q' : Int) (w : World), Calls Tryd.prog 13 #[nmV s q, nmV s' q'] w fun e w' => e = .returned (.bool (nLess s q s' q')) ∧ Below w.heap.size w w'
  text : ∀ (s q : Int) (w : World), q ≤ 99 → Calls Tryd.prog 10 #[nmV s q] w fun e w' => e = .returned (.string ⟨(nText s q).toArray⟩) ∧ Below w.heap.size w w'
  may : ∀ (v : Value) (xs : List Int) (w : World), Reads64 w v xs → xs.length ≤ 1000 → Calls Tryd.prog 19 #[v] w fun e w' => e = .returned (.bool (vMay xs)) ∧ Below w.heap.size w w'
  count : ∀ (v : Value) (xs : List Int) (s : Int) (w : World), Reads64 w v xs → xs.length ≤ 1000 → (Lit.int .i64 s).wf = true → Calls Tryd.prog 23 #[v, .int .i64 s] w fun e w' => e = .returned (.int .i64 (if vMay xs then vCount xs s else 0)) ∧ Below w.heap.size w w'
  has : ∀ (v : Value) (xs : List Int) (s q : Int) (w : World), Reads64 w v xs → xs.length ≤ 1000 → (Lit.int .i64 s).wf = true → (Lit.int .i64 q).wf = true → Calls Tryd.prog 24 #[v, nmV s q] w fun e w' => e = .returned (.bool (vMay xs && nMay s q && decide (q ≤ vCount xs s))) ∧ Below w.heap.size w w'
  covers : ∀ (u v : Value) (xs ys : List Int) (w : World), Reads64 w u xs → Reads64 w v ys → xs.length ≤ 1000 → ys.length ≤ 1000 → Calls Tryd.prog 21 #[u, v] w fun e w' => e = .returned (.bool (vMay xs && vMay ys && vCov xs ys)) ∧ Below w.heap.size w w'
  order : ∀ (u v : Value) (xs ys : List Int) (w : World), Reads64 w u xs → Reads64 w v ys → xs.length ≤ 1000 → ys.length ≤ 1000 → Calls Tryd.prog 22 #[u, v] w fun e w' => e = .returned (.int .i64 (vOrder xs ys)) ∧ Below w.heap.size w w'
  raise : ∀ (v : Value) (xs : List Int) (s q : Int) (w : World), Reads64 w v xs → xs.length ≤ 1000 → (Lit.int .i64 s).wf = true → (Lit.int .i64 q).wf = true → Calls Tryd.prog 27 #[v, nmV s q] w (RaisePost xs s q w)
  merge : ∀ (u v : Value) (xs ys : List Int) (w : World), Reads64 w u xs → Reads64 w v ys → xs.length ≤ 1000 → ys.length ≤ 1000 → Calls Tryd.prog 30 #[u, v] w (PMadePost (vMay xs && vMay ys) (vMerge xs ys) w)
  least : ∀ (v : Value) (vs : Nat → Value) (xss : List (List Int)) (w : World), RowsAt w v vs xss → xss.length ≤ 1000 → (∀ xs ∈ xss, xs.length ≤ 1000) → Calls Tryd.prog 32 #[v] w (PMadePost (decide (xss ≠ []) && xss.all vMay) (vLeast xss) w)
end Go.Proofs.YthbophioohcphaaDoor
