/- What the laws lean on of the program's own functions, as one premise: the program that lands gives it (of its functions' contracts). -/
import Derived.Test.YtlofeaodpblagaaRefSpAsk
import Derived.Test.YtlofeaodpblagaaRefSpShut
import Derived.Test.YtlofeaodpblagaaRefSpTwo
import Derived.Test.YtlofeaodpblagaaEdgesPlain
namespace Go.Proofs.Ytlofeaodpblagaa
open Go.RowKit

/-- A list that is made, or an error. -/
def SpErrPost (b : Bool) (l : List Sp) (w : World) (e : Ending) (w' : World) : Prop := ∃ v, e = .returned (.tuple #[v, .int .i64 (if b then 0 else 1)]) ∧ SpAt w' v (if b then l else []) ∧ Below w.heap.size w w'
/-- The program's own functions, each as the document has it. -/
structure SC : Prop where
  may : ∀ (v : Value) (xs : List Sp) (w : World), SpAt w v xs → xs.length ≤ 1000000 → sWf xs → Calls Try.prog 12 #[v] w fun e w' => e = .returned (.bool (sMay xs)) ∧ Below w.heap.size w w'
  norm : ∀ (v : Value) (xs : List Sp) (w : World), SpAt w v xs → xs.length ≤ 1000000 → sWf xs → Calls Try.prog 10 #[v] w (SpErrPost (xs.all spOk) (sMade (sMark xs) 20000) w)
  total : ∀ (v : Value) (xs : List Sp) (w : World), SpAt w v xs → xs.length ≤ 1000000 → sWf xs → Calls Try.prog 15 #[v] w fun e w' => e = .returned (.int .i64 (if sMay xs then (cntTo (sMark xs) 20000 : Nat) else 0)) ∧ Below w.heap.size w w'
  has : ∀ (v : Value) (xs : List Sp) (p : Int) (w : World), SpAt w v xs → xs.length ≤ 1000000 → sWf xs → (Lit.int .i64 p).wf = true → Calls Try.prog 16 #[v, .int .i64 p] w fun e w' => e = .returned (.bool (sMay xs && hasI xs p)) ∧ Below w.heap.size w w'
  ahead : ∀ (v : Value) (xs : List Sp) (p : Int) (w : World), SpAt w v xs → xs.length ≤ 1000000 → sWf xs → (Lit.int .i64 p).wf = true → Calls Try.prog 17 #[v, .int .i64 p] w fun e w' => e = .returned (.int .i64 (if sMay xs then (cntTo (sMark xs) (min 20000 p.toNat) : Nat) else 0)) ∧ Below w.heap.size w w'
  opened : ∀ (v : Value) (xs : List Sp) (p n : Int) (w : World), SpAt w v xs → xs.length ≤ 1000000 → sWf xs → (Lit.int .i64 p).wf = true → (Lit.int .i64 n).wf = true → Calls Try.prog 20 #[v, .int .i64 p, .int .i64 n] w (OpenPost xs p n w)
  shut : ∀ (v : Value) (xs : List Sp) (p n : Int) (w : World), SpAt w v xs → xs.length ≤ 1000000 → sWf xs → (Lit.int .i64 p).wf = true → (Lit.int .i64 n).wf = true → Calls Try.prog 22 #[v, .int .i64 p, .int .i64 n] w (SpOkPost (shB xs p n) (shL xs p n) w)
  any : ∀ (u v : Value) (xs ys : List Sp) (w : World), SpAt w u xs → SpAt w v ys → xs.length ≤ 1000000 → ys.length ≤ 1000000 → sWf xs → sWf ys → Calls Try.prog 24 #[u, v] w (SpErrPost (sMay xs && sMay ys) (twoL 0 xs ys) w)
  both : ∀ (u v : Value) (xs ys : List Sp) (w : World), SpAt w u xs → SpAt w v ys → xs.length ≤ 1000000 → ys.length ≤ 1000000 → sWf xs → sWf ys → Calls Try.prog 25 #[u, v] w (SpErrPost (sMay xs && sMay ys) (twoL 1 xs ys) w)
  less : ∀ (u v : Value) (xs ys : List Sp) (w : World), SpAt w u xs → SpAt w v ys → xs.length ≤ 1000000 → ys.length ≤ 1000000 → sWf xs → sWf ys → Calls Try.prog 26 #[u, v] w (SpErrPost (sMay xs && sMay ys) (twoL 2 xs ys) w)
end Go.Proofs.Ytlofeaodpblagaa
