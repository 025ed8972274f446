/- Texts of this proof, joined. -/
import Derived.Test.YthekkjfaaedamaaGreatDoorGWriteByte
import Derived.Test.YthekkjfaaedamaaGreatDoorGReads64
import Derived.Defers
import Derived.Tactics
import Derived.Tactics2
import Derived.Test.YthekkjfaaedamaaGreatDoorGPlain
namespace Go.Proofs.YthekkjfaaedamaaGreatDoor
open Go.RowKit Go.Shelf

end Go.Proofs.YthekkjfaaedamaaGreatDoor

namespace Go.Proofs.YthekkjfaaedamaaGreatDoor
open Go.RowKit Go.Shelf

def NumPost (B : Nat) (s : ByteArray) (most : Nat) (w : World) (e : Ending) (w' : World) : Prop :=
 (∃ c, takeL s.data.toList most = .error c ∧ e = .returned (.int .u64 0) ∧ Rd B s c w' ∧ Keep (fun k => k = B) w.heap.size w w') ∨ (∃ n k, takeL s.data.toList most = .ok (n, k) ∧ e = .returned (.int .u64 n) ∧ Rd B (s.extract k s.size) 0 w' ∧ Keep (fun k => k = B) w.heap.size w w')

theorem NumPost.weak {B : Nat} {s : ByteArray} {most : Nat} {w w1 w' : World} {e : Ending} (h : NumPost B s most w1 e w') (hb : Below w.heap.size w w1) : NumPost B s most w e w' := by
 rcases h with ⟨c, hc, he, hr, hk⟩ | ⟨n, k, hn, he, hr, hk⟩
 ·exact .inl ⟨c, hc, he, hr, (Keep.of_below hb (Nat.le_refl _)).trans (hk.weak hb.size (fun _ _ q => q))⟩
 ·exact .inr ⟨n, k, hn, he, hr, (Keep.of_below hb (Nat.le_refl _)).trans (hk.weak hb.size (fun _ _ q => q))⟩
end Go.Proofs.YthekkjfaaedamaaGreatDoor

namespace Go.Proofs.YthekkjfaaedamaaGreatDoor
open Go.RowKit Go.Shelf

def textL (l : List UInt8) (most : Nat) : Except Int (Nat × Nat) :=
 match takeL l most with
 | .error c => .error c
 | .ok (n, k) => if l.length - k < n then .error 8 else .ok (n, k)
def RowPost (B : Nat) (s : ByteArray) (most : Nat) (w : World) (e : Ending) (w' : World) : Prop :=
 (∃ c, textL s.data.toList most = .error c ∧ e = .returned (.string ⟨#[]⟩) ∧ Rd B s c w' ∧ Keep (fun k => k = B) w.heap.size w w') ∨
 (∃ n k, textL s.data.toList most = .ok (n, k) ∧ e = .returned (.string ((s.extract k s.size).extract 0 n)) ∧ Rd B ((s.extract k s.size).extract n (s.extract k s.size).size) 0 w' ∧ Keep (fun k => k = B) w.heap.size w w')
theorem RowPost.weak {B : Nat} {s : ByteArray} {most : Nat} {w w1 w' : World} {e : Ending} (h : RowPost B s most w1 e w') (hb : Below w.heap.size w w1) : RowPost B s most w e w' := by
 rcases h with ⟨c, hc, he, hr, hk⟩ | ⟨n, k, hn, he, hr, hk⟩
 ·exact .inl ⟨c, hc, he, hr, (Keep.of_below hb (Nat.le_refl _)).trans (hk.weak hb.size (fun _ _ q => q))⟩
 ·exact .inr ⟨n, k, hn, he, hr, (Keep.of_below hb (Nat.le_refl _)).trans (hk.weak hb.size (fun _ _ q => q))⟩

end Go.Proofs.YthekkjfaaedamaaGreatDoor

namespace Go.Proofs.YthekkjfaaedamaaGreatDoor
open Go.RowKit Go.Shelf

end Go.Proofs.YthekkjfaaedamaaGreatDoor

namespace Go.Proofs.YthekkjfaaedamaaGreatDoor
open Go.Lib (uvarint)

end Go.Proofs.YthekkjfaaedamaaGreatDoor

namespace Go.Proofs.YthekkjfaaedamaaGreatDoor
open Go.Lib (uvarint)

end Go.Proofs.YthekkjfaaedamaaGreatDoor
