/- An array of four bytes that came in by value. -/
import Derived.Test.YtckknopjhmpnhaaShut
namespace Go.Proofs.Ytckknopjhmpnhaa
open Go.ChangeShapes Go.WideShapes Go.ChangeAt Go.RowKit

theorem cellsU8 : Try.prog.cellsOf 5 = 1 := by kernel_rfl
theorem cellsBytes4 : Try.prog.cellsOf 41 = 4 := by kernel_rfl
theorem byte_of {n : Int} (h : (Lit.int .u8 n).wf = true) : ∃ b : UInt8, n = (b.toNat : Nat) := by
  have := (Lit.wf_int_iff _ _).1 h
  rw [show IntKind.u8.min = 0 from by decide, show IntKind.u8.max = 255 from by decide] at this
  refine ⟨UInt8.ofNat n.toNat, ?_⟩
  rw [UInt8.toNat_ofNat', Nat.mod_eq_of_lt (by omega)]
  omega

set_option maxRecDepth 100000 in
theorem open_bytes4 {H : Type} {enc : TypeId × Value → H} {W : World} {r : Reach} {b0 : Nat} {v : Value} {d : DataW H} {ps : List MemPlace} (hval : Value.okWide Try.prog W r b0 41 v)
    (hd : DataW.Trod enc Try.prog W 0 (fun _ => true) true 41 v d ps) : ∃ x0 x1 x2 x3 : UInt8, v = .agg #[.int .u8 (x0.toNat : Nat), .int .u8 (x1.toNat : Nat), .int .u8 (x2.toNat : Nat), .int .u8 (x3.toNat : Nat)] := by
  simp only [Value.okWide, Try.underlying41] at hval
  obtain ⟨cs, rfl, hsz, _⟩ := hval
  rw [cellsBytes4] at hsz
  obtain ⟨l⟩ := cs
  obtain ⟨fuel, hf⟩ := hd
  obtain ⟨xs, m, _, _, _, hl, hg⟩ := DataW.trod_array Try.underlying41 hf
  match l, hsz, xs, hl with
  | [c0, c1, c2, c3], _, [y0, y1, y2, y3], _ =>
    have g0 := hg 0 (by decide)
    have g1 := hg 1 (by decide)
    have g2 := hg 2 (by decide)
    have g3 := hg 3 (by decide)
    rw [cellsU8] at g0 g1 g2 g3
    have g0' : DataW.trod enc Try.prog W 0 (fun _ => true) true m 5 [c0] = some y0 := g0
    have g1' : DataW.trod enc Try.prog W 0 (fun _ => true) true m 5 [c1] = some y1 := g1
    have g2' : DataW.trod enc Try.prog W 0 (fun _ => true) true m 5 [c2] = some y2 := g2
    have g3' : DataW.trod enc Try.prog W 0 (fun _ => true) true m 5 [c3] = some y3 := g3
    obtain ⟨a0, e0, _, w0⟩ := DataW.trod_int Try.underlying5 g0'
    obtain ⟨a1, e1, _, w1⟩ := DataW.trod_int Try.underlying5 g1'
    obtain ⟨a2, e2, _, w2⟩ := DataW.trod_int Try.underlying5 g2'
    obtain ⟨a3, e3, _, w3⟩ := DataW.trod_int Try.underlying5 g3'
    cases e0
    cases e1
    cases e2
    cases e3
    obtain ⟨b0, rfl⟩ := byte_of w0
    obtain ⟨b1, rfl⟩ := byte_of w1
    obtain ⟨b2, rfl⟩ := byte_of w2
    obtain ⟨b3, rfl⟩ := byte_of w3
    exact ⟨b0, b1, b2, b3, rfl⟩
end Go.Proofs.Ytckknopjhmpnhaa
