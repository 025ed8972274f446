/- What the laws lean on of the program's own functions that read nothing, as one premise. -/
import Derived.Test.YtnlajfdgpdijjaaRefOpsAny
import Derived.Test.YtnlajfdgpdijjaaOpsBytesPlain
import Derived.Test.YtnlajfdgpdijjaaSpWf
import Derived.Test.YtnlajfdgpdijjaaLen
namespace Go.Proofs.Ytnlajfdgpdijjaa
open Go.RowKit Go.Shelf

/-- Numbers that are numbers. -/
structure NWf (s q n k a : Int) : Prop where
  s : (Lit.int .i64 s).wf = true
  q : (Lit.int .i64 q).wf = true
  n : (Lit.int .i64 n).wf = true
  k : (Lit.int .i64 k).wf = true
  a : (Lit.int .i64 a).wf = true
/-- An operation that statements look at. -/
structure OWf (s q n k a : Int) (t : ByteArray) (xs : List Sp) : Prop extends NWf s q n k a where
  t : t.size ≤ 1000
  x : xs.length ≤ 40
  w : sWf xs
def EWf (s q c k a l : Int) (t : ByteArray) : Prop := NWf s q c k a ∧ (Lit.int .i64 l).wf = true ∧ t.size ≤ 1000
/-- The program's own functions, each as the document has it: all but the two that read. -/
structure OC0 : Prop where
  may : ∀ (s q n k a size : Int) (t : ByteArray) (sp : Value) (xs : List Sp) (w : World), LenAt t w → SpAt w sp xs → OWf s q n k a t xs → (Lit.int .i64 size).wf = true → Calls Try.prog 10 #[opV s q n k a t sp, .int .i64 size] w fun e w' => e = .returned (.bool (oMay ⟨s, q, n, k, a, t.data.toList, xs⟩ size)) ∧ Below w.heap.size w w'
  adds : ∀ (s q n k a : Int) (t : ByteArray) (sp : Value) (xs : List Sp) (w : World), LenAt t w → SpAt w sp xs → OWf s q n k a t xs → Calls Try.prog 12 #[opV s q n k a t sp] w fun e w' => e = .returned (.int .i64 (oAdds ⟨s, q, n, k, a, t.data.toList, xs⟩)) ∧ Below w.heap.size w w'
  same : ∀ (s q n k a : Int) (t : ByteArray) (sp : Value) (xs : List Sp) (s' q' n' k' a' : Int) (t' : ByteArray) (sp' : Value) (ys : List Sp) (w : World), SpAt w sp xs → SpAt w sp' ys → OWf s q n k a t xs → OWf s' q' n' k' a' t' ys →
    Calls Try.prog 14 #[opV s q n k a t sp, opV s' q' n' k' a' t' sp'] w fun e w' => e = .returned (.bool (decide ((s = s' ∧ q = q') ∧ n = n' ∧ k = k' ∧ a = a' ∧ t = t' ∧ xs = ys))) ∧ Below w.heap.size w w'
  before : ∀ (s q n k a : Int) (t : ByteArray) (sp : Value) (s' q' n' k' a' : Int) (t' : ByteArray) (sp' : Value) (w : World), NWf s q n k a → NWf s' q' n' k' a' →
    Calls Try.prog 16 #[opV s q n k a t sp, opV s' q' n' k' a' t' sp'] w fun e w' => e = .returned (.bool (bef n s q n' s' q')) ∧ Below w.heap.size w w'
  put : ∀ (s q n k a : Int) (t : ByteArray) (sp : Value) (xs : List Sp) (w : World), LenAt t w → SpAt w sp xs → OWf s q n k a t xs → Calls Try.prog 18 #[opV s q n k a t sp] w fun e w' =>
    e = .returned (if oAny ⟨s, q, n, k, a, t.data.toList, xs⟩ then .tuple #[.string ⟨(oPut ⟨s, q, n, k, a, t.data.toList, xs⟩).toArray⟩, .int .i64 0] else .tuple #[.string ⟨#[]⟩, .int .i64 1]) ∧ Below w.heap.size w w'
  mayE : ∀ (s q c k a l : Int) (t : ByteArray) (w : World), LenAt t w → EWf s q c k a l t → Calls Try.prog 29 #[edV s q c k a l t] w fun e w' => e = .returned (.bool (eMay ⟨s, q, c, k, a, l, t.data.toList⟩)) ∧ Below w.heap.size w w'
  putE : ∀ (s q c k a l : Int) (t : ByteArray) (w : World), LenAt t w → EWf s q c k a l t → Calls Try.prog 28 #[edV s q c k a l t] w fun e w' =>
    e = .returned (if eMay ⟨s, q, c, k, a, l, t.data.toList⟩ then .tuple #[.string ⟨(ePut ⟨s, q, c, k, a, l, t.data.toList⟩).toArray⟩, .int .i64 0] else .tuple #[.string ⟨#[]⟩, .int .i64 1]) ∧ Below w.heap.size w w'
end Go.Proofs.Ytnlajfdgpdijjaa
