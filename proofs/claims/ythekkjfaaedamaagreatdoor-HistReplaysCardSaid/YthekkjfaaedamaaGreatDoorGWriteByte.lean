/- Texts of this proof, joined. -/
import Derived.Test.YthekkjfaaedamaaGreatDoorGCopyCheck
import Derived.Test.YthekkjfaaedamaaGreatDoorGConvOwn
import Derived.Test.YthekkjfaaedamaaGreatDoorGNumsPlain
import Derived.WalkSpells
import Derived.WalkLawsBesides
import Derived.Lib.Hide
import Derived.BigCall
import Derived.WalkKit
import Derived.Lib.Strings
import Derived.Recover
import Derived.Laws.Pointers
namespace Go.Proofs.YthekkjfaaedamaaGreatDoor
open Go.RowKit Go.Shelf

end Go.Proofs.YthekkjfaaedamaaGreatDoor

namespace Go.Proofs.YthekkjfaaedamaaGreatDoor
open Go.RowKit Go.Shelf

end Go.Proofs.YthekkjfaaedamaaGreatDoor

namespace Go.Proofs.YthekkjfaaedamaaGreatDoor
open Go.RowKit Go.Shelf
open Go.Lib (uvarint uvarint_length64 uvarint_small uvarint_big uvarint_pos toUInt8_toNat zigzag)

end Go.Proofs.YthekkjfaaedamaaGreatDoor

namespace Go.Proofs.YthekkjfaaedamaaGreatDoor
open Go.RowKit Go.Shelf

def Rd (B : Nat) (s : ByteArray) (f : Int) (w : World) : Prop := w.heap[B]? = some (.cells #[.string s, .int .i64 f] 230 (0, 0))
theorem Rd.c0 {B : Nat} {s : ByteArray} {f : Int} {w : World} (h : Rd B s f w) : w.cell? ⟨B, 0, none⟩ = some (.string s) := cell_of_row w B 0 _ _ (0, 0) h
theorem Rd.c1 {B : Nat} {s : ByteArray} {f : Int} {w : World} (h : Rd B s f w) : w.cell? ⟨B, 1, none⟩ = some (.int .i64 f) := cell_of_row w B 1 _ _ (0, 0) h
theorem Rd.f0 {B : Nat} {s : ByteArray} {f : Int} {w : World} (h : Rd B s f w) : w.frozen? ⟨B, 0, none⟩ = false := frozen_of_row w B 0 _ _ h
theorem Rd.f1 {B : Nat} {s : ByteArray} {f : Int} {w : World} (h : Rd B s f w) : w.frozen? ⟨B, 1, none⟩ = false := frozen_of_row w B 1 _ _ h
theorem Rd.lt {B : Nat} {s : ByteArray} {f : Int} {w : World} (h : Rd B s f w) : B < w.heap.size := (Array.getElem?_eq_some_iff.1 h).1
theorem Rd.below {B N : Nat} {s : ByteArray} {f : Int} {w w' : World} (h : Rd B s f w) (hb : Below N w w') (hN : B < N) : Rd B s f w' := (hb.block B hN).trans h
theorem Rd.drew {B : Nat} {s : ByteArray} {f : Int} {w : World} (h : Rd B s f w) : Rd B s f w.drew := h

end Go.Proofs.YthekkjfaaedamaaGreatDoor

namespace Go.Proofs.YthekkjfaaedamaaGreatDoor
open Go.RowKit Go.Shelf

end Go.Proofs.YthekkjfaaedamaaGreatDoor
