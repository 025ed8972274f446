/-
  No cell of these rows narrows 'for every input' (looked for: loops, veiled, ifaces, maps, wideKeys, modest, calm, conditions, laid).
  DERIVED. THE GIVEN ROWS OF THIS SEAT. 5 by the template 'for every input the law returns true; each argument reads behind the call as it read before'; 0 by the template 'total and deterministic' (their statements: YtnlajfdgpdijjaaTotals.lean).
  GIVEN WITH THE SEED: the statements are not yours to turn. If you find one false, say at which input.
  Laid BY PROGRAM, IN A SANDBOX (cutbox-rows.mjs): the forced cells as the released guide's own fill.sh prints them over the translation 9846efe0a3a175f0… (all of the seat's roots in one cut). By AI agents, Wed Nov 11 2026. No macro, syntax, notation, axiom, sorry.
-/
import Derived.Test.YtnlajfdgpdijjaaChecked
import GoSem.Claim
import GoSem.ClaimJoined
import GoSem.ClaimMapViews
import Derived.JoinedTies
import Derived.KernelRfl
namespace Go.Proofs.Ytnlajfdgpdijjaa
/- THE CELL 'sum', in the pinned program and in every row, IS THE sha256 OF THE DUMP (.gsa) THAT YtnlajfdgpdijjaaProg.lean LOADS. Nothing in Lean hashes anything: it is a label: what it is worth is what the hold of that sum in a sandbox is worth. -/
noncomputable def Try.pinned : Pinned := { name := "ytnlajfdgpdijjaa", sum := "9846efe0a3a175f09e03c5f2a29f54e8e0c816a86c2fb883fea52f9488a4bc66", checked := Try.checked }
namespace Rows
def none {H : Type} : Left H := { results := [], args := [] }

/-- 'foolscaplaw08.OpsMay': WHATEVER THE INPUT: true; the input reads as it did. -/
def opsMaySpec : ChangeSpec := { name := "opsMay", fn := fun _ => fun
  | [d1, d2, d3] => { results := [.lit (.bool true)], args := [d1, d2, d3] }
  | _ => none }
def opsMayRow : OpenClaim := { program := "ytnlajfdgpdijjaa", sum := "9846efe0a3a175f09e03c5f2a29f54e8e0c816a86c2fb883fea52f9488a4bc66", func := "foolscap/foolscaplaw08.OpsMay", spec := "opsMay", inPlace := ["internal/abi.NoEscape"], unfollowed := true, recurses := true, apart := false }
def OpsMaySaid : Prop := opsMayRow.holds Try.pinned (OpenSpec.ofChange opsMaySpec)

/-- ITS FALSE NEIGHBOUR: 'it returns false'. Refute it at one input. -/
def opsMayWrong : ChangeSpec := { name := "opsMay", fn := fun _ => fun
  | [d1, d2, d3] => { results := [.lit (.bool false)], args := [d1, d2, d3] }
  | _ => none }
def OpsMayWrongFalsely : Prop := opsMayRow.holds Try.pinned (OpenSpec.ofChange opsMayWrong)

/-- 'foolscaplaw08.OpsBytes': WHATEVER THE INPUT: true; the input reads as it did. -/
def opsBytesSpec : ChangeSpec := { name := "opsBytes", fn := fun _ => fun
  | [d1, d2] => { results := [.lit (.bool true)], args := [d1, d2] }
  | _ => none }
def opsBytesRow : OpenClaim := { program := "ytnlajfdgpdijjaa", sum := "9846efe0a3a175f09e03c5f2a29f54e8e0c816a86c2fb883fea52f9488a4bc66", func := "foolscap/foolscaplaw08.OpsBytes", spec := "opsBytes", inPlace := ["internal/abi.NoEscape"], unfollowed := true, recurses := true, apart := false }
def OpsBytesSaid : Prop := opsBytesRow.holds Try.pinned (OpenSpec.ofChange opsBytesSpec)

/-- ITS FALSE NEIGHBOUR: 'it returns false'. Refute it at one input. -/
def opsBytesWrong : ChangeSpec := { name := "opsBytes", fn := fun _ => fun
  | [d1, d2] => { results := [.lit (.bool false)], args := [d1, d2] }
  | _ => none }
def OpsBytesWrongFalsely : Prop := opsBytesRow.holds Try.pinned (OpenSpec.ofChange opsBytesWrong)

/-- 'foolscaplaw08.OpsGets': WHATEVER THE INPUT: true; the input reads as it did. -/
def opsGetsSpec : ChangeSpec := { name := "opsGets", fn := fun _ => fun
  | [d] => { results := [.lit (.bool true)], args := [d] }
  | _ => none }
def opsGetsRow : OpenClaim := { program := "ytnlajfdgpdijjaa", sum := "9846efe0a3a175f09e03c5f2a29f54e8e0c816a86c2fb883fea52f9488a4bc66", func := "foolscap/foolscaplaw08.OpsGets", spec := "opsGets", inPlace := ["internal/abi.NoEscape"], unfollowed := true, recurses := true, apart := false }
def OpsGetsSaid : Prop := opsGetsRow.holds Try.pinned (OpenSpec.ofChange opsGetsSpec)

/-- ITS FALSE NEIGHBOUR: 'it returns false'. Refute it at one input. -/
def opsGetsWrong : ChangeSpec := { name := "opsGets", fn := fun _ => fun
  | [d] => { results := [.lit (.bool false)], args := [d] }
  | _ => none }
def OpsGetsWrongFalsely : Prop := opsGetsRow.holds Try.pinned (OpenSpec.ofChange opsGetsWrong)

/-- 'foolscaplaw08.OpsEdits': WHATEVER THE INPUT: true; the input reads as it did. -/
def opsEditsSpec : ChangeSpec := { name := "opsEdits", fn := fun _ => fun
  | [d1, d2] => { results := [.lit (.bool true)], args := [d1, d2] }
  | _ => none }
def opsEditsRow : OpenClaim := { program := "ytnlajfdgpdijjaa", sum := "9846efe0a3a175f09e03c5f2a29f54e8e0c816a86c2fb883fea52f9488a4bc66", func := "foolscap/foolscaplaw08.OpsEdits", spec := "opsEdits", inPlace := ["internal/abi.NoEscape"], unfollowed := true, recurses := true, apart := false }
def OpsEditsSaid : Prop := opsEditsRow.holds Try.pinned (OpenSpec.ofChange opsEditsSpec)

/-- ITS FALSE NEIGHBOUR: 'it returns false'. Refute it at one input. -/
def opsEditsWrong : ChangeSpec := { name := "opsEdits", fn := fun _ => fun
  | [d1, d2] => { results := [.lit (.bool false)], args := [d1, d2] }
  | _ => none }
def OpsEditsWrongFalsely : Prop := opsEditsRow.holds Try.pinned (OpenSpec.ofChange opsEditsWrong)

/-- 'foolscaplaw08.OpsOrder': WHATEVER THE INPUT: true; the input reads as it did. -/
def opsOrderSpec : ChangeSpec := { name := "opsOrder", fn := fun _ => fun
  | [d1, d2, d3] => { results := [.lit (.bool true)], args := [d1, d2, d3] }
  | _ => none }
def opsOrderRow : OpenClaim := { program := "ytnlajfdgpdijjaa", sum := "9846efe0a3a175f09e03c5f2a29f54e8e0c816a86c2fb883fea52f9488a4bc66", func := "foolscap/foolscaplaw08.OpsOrder", spec := "opsOrder", inPlace := ["internal/abi.NoEscape"], unfollowed := true, recurses := true, apart := false }
def OpsOrderSaid : Prop := opsOrderRow.holds Try.pinned (OpenSpec.ofChange opsOrderSpec)

/-- ITS FALSE NEIGHBOUR: 'it returns false'. Refute it at one input. -/
def opsOrderWrong : ChangeSpec := { name := "opsOrder", fn := fun _ => fun
  | [d1, d2, d3] => { results := [.lit (.bool false)], args := [d1, d2, d3] }
  | _ => none }
def OpsOrderWrongFalsely : Prop := opsOrderRow.holds Try.pinned (OpenSpec.ofChange opsOrderWrong)

/- THE SECOND FORM. 'bulk': how many values and letters a reading holds, each counted each time it is reached (what is shared counts as often as it is met; a slice's spare places count too). A statement '..UptoSaid' is the law's where the arguments, and the package variables that the reading takes, are together of bulk at most 1048576: NARROWER than '..Said'. Prove '..Said' where nothing that the law and all that it calls make is longer than what came in: it says more and counts as full. Else prove '..UptoSaid'. A law counts once. -/
mutual
def uptoBulk {H : Type} : DataW H → Nat
  | .lit (.string bytes) => bytes.length + 1
  | .lit _ => 1
  | .nil => 1
  | .ptr d => uptoBulk d + 1
  | .slice elems spare => uptoBulkAll elems + uptoBulkAll spare + 1
  | .agg parts => uptoBulkAll parts + 1
  | .iface _ d => uptoBulk d + 1
  | .map entries => uptoBulkEntries entries + 1
  | .held _ => 1
def uptoBulkAll {H : Type} : List (DataW H) → Nat
  | [] => 0
  | d :: r => uptoBulk d + uptoBulkAll r
def uptoBulkEntries {H : Type} : List (Lit × DataW H) → Nat
  | [] => 0
  | x :: r => uptoBulkEntry x + uptoBulkEntries r
def uptoBulkEntry {H : Type} : Lit × DataW H → Nat
  | (.string bytes, d) => bytes.length + uptoBulk d + 1
  | (_, d) => uptoBulk d + 1
 end
def uptoSmall : (H : Type) → List (DataW H) → Bool := fun _ ds => decide (uptoBulkAll ds ≤ 1048576)
def OpenSpec.upto (s : _root_.Go.ChangeSpec) : _root_.Go.OpenSpec := { _root_.Go.OpenSpec.ofChange s with cond := some uptoSmall }

/-- 'foolscaplaw08.OpsMay', WHERE WHAT IT READS IS OF BULK AT MOST 1048576: true; the input reads as it did. -/
def opsMayUptoRow : OpenClaim := { program := "ytnlajfdgpdijjaa", sum := "9846efe0a3a175f09e03c5f2a29f54e8e0c816a86c2fb883fea52f9488a4bc66", func := "foolscap/foolscaplaw08.OpsMay", spec := "opsMay", inPlace := ["internal/abi.NoEscape"], unfollowed := true, recurses := true, apart := false, narrowed := true }
def OpsMayUptoSaid : Prop := opsMayUptoRow.holds Try.pinned (OpenSpec.upto opsMaySpec)

/-- 'foolscaplaw08.OpsBytes', WHERE WHAT IT READS IS OF BULK AT MOST 1048576: true; the input reads as it did. -/
def opsBytesUptoRow : OpenClaim := { program := "ytnlajfdgpdijjaa", sum := "9846efe0a3a175f09e03c5f2a29f54e8e0c816a86c2fb883fea52f9488a4bc66", func := "foolscap/foolscaplaw08.OpsBytes", spec := "opsBytes", inPlace := ["internal/abi.NoEscape"], unfollowed := true, recurses := true, apart := false, narrowed := true }
def OpsBytesUptoSaid : Prop := opsBytesUptoRow.holds Try.pinned (OpenSpec.upto opsBytesSpec)

/-- 'foolscaplaw08.OpsGets', WHERE WHAT IT READS IS OF BULK AT MOST 1048576: true; the input reads as it did. -/
def opsGetsUptoRow : OpenClaim := { program := "ytnlajfdgpdijjaa", sum := "9846efe0a3a175f09e03c5f2a29f54e8e0c816a86c2fb883fea52f9488a4bc66", func := "foolscap/foolscaplaw08.OpsGets", spec := "opsGets", inPlace := ["internal/abi.NoEscape"], unfollowed := true, recurses := true, apart := false, narrowed := true }
def OpsGetsUptoSaid : Prop := opsGetsUptoRow.holds Try.pinned (OpenSpec.upto opsGetsSpec)

/-- 'foolscaplaw08.OpsEdits', WHERE WHAT IT READS IS OF BULK AT MOST 1048576: true; the input reads as it did. -/
def opsEditsUptoRow : OpenClaim := { program := "ytnlajfdgpdijjaa", sum := "9846efe0a3a175f09e03c5f2a29f54e8e0c816a86c2fb883fea52f9488a4bc66", func := "foolscap/foolscaplaw08.OpsEdits", spec := "opsEdits", inPlace := ["internal/abi.NoEscape"], unfollowed := true, recurses := true, apart := false, narrowed := true }
def OpsEditsUptoSaid : Prop := opsEditsUptoRow.holds Try.pinned (OpenSpec.upto opsEditsSpec)

/-- 'foolscaplaw08.OpsOrder', WHERE WHAT IT READS IS OF BULK AT MOST 1048576: true; the input reads as it did. -/
def opsOrderUptoRow : OpenClaim := { program := "ytnlajfdgpdijjaa", sum := "9846efe0a3a175f09e03c5f2a29f54e8e0c816a86c2fb883fea52f9488a4bc66", func := "foolscap/foolscaplaw08.OpsOrder", spec := "opsOrder", inPlace := ["internal/abi.NoEscape"], unfollowed := true, recurses := true, apart := false, narrowed := true }
def OpsOrderUptoSaid : Prop := opsOrderUptoRow.holds Try.pinned (OpenSpec.upto opsOrderSpec)

end Rows
end Go.Proofs.Ytnlajfdgpdijjaa
