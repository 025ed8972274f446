/- An array of two strings that came in by value. -/
import Derived.Test.YtniffodbpkcdpaaShut
namespace Go.Proofs.Ytniffodbpkcdpaa
open Go.ChangeShapes Go.WideShapes Go.ChangeAt Go.RowKit

theorem cellsStr1 : Try.prog.cellsOf 9 = 1 := by kernel_rfl
theorem cellsStrs2 : Try.prog.cellsOf 37 = 2 := by kernel_rfl

set_option maxRecDepth 100000 in
theorem open_strs2 {H : Type} {enc : TypeId × Value → H} {W : World} {r : Reach} {b0 : Nat} {v : Value} {d : DataW H} {ps : List MemPlace} (hval : Value.okWide Try.prog W r b0 37 v)
    (hd : DataW.Trod enc Try.prog W 0 (fun _ => true) true 37 v d ps) : ∃ a b : ByteArray, v = .agg #[.string a, .string b] ∧ a.size ≤ maxLen ∧ b.size ≤ maxLen := by
  simp only [Value.okWide, Try.underlying37] at hval
  obtain ⟨cs, rfl, hsz, _⟩ := hval
  rw [cellsStrs2] at hsz
  obtain ⟨l⟩ := cs
  obtain ⟨fuel, hf⟩ := hd
  obtain ⟨xs, m, _, _, _, hl, hg⟩ := DataW.trod_array Try.underlying37 hf
  match l, hsz, xs, hl with
  | [c0, c1], _, [y0, y1], _ =>
    have g0 := hg 0 (by decide)
    have g1 := hg 1 (by decide)
    rw [cellsStr1] at g0 g1
    have g0' : DataW.trod enc Try.prog W 0 (fun _ => true) true m 9 [c0] = some y0 := g0
    have g1' : DataW.trod enc Try.prog W 0 (fun _ => true) true m 9 [c1] = some y1 := g1
    obtain ⟨a, e0, _, h0⟩ := DataW.trod_string Try.underlying9 g0'
    obtain ⟨b, e1, _, h1⟩ := DataW.trod_string Try.underlying9 g1'
    cases e0
    cases e1
    exact ⟨a, b, rfl, h0, h1⟩
end Go.Proofs.Ytniffodbpkcdpaa
