/- Arrays of two and of three numbers that came in by value. -/
import Derived.Test.YtpldalmodcmfaaaDoorOpen
namespace Go.Proofs.YtpldalmodcmfaaaDoor
open Go.ChangeShapes Go.WideShapes Go.ChangeAt Go.RowKit

theorem cellsInt1 : Tryd.prog.cellsOf 3 = 1 := by kernel_rfl
theorem cellsArr2 : Tryd.prog.cellsOf 59 = 2 := by kernel_rfl
theorem cellsArr3 : Tryd.prog.cellsOf 43 = 3 := by kernel_rfl

set_option maxRecDepth 100000 in
theorem open_arr2 {H : Type} {enc : TypeId × Value → H} {W : World} {r : Reach} {b0 : Nat} {v : Value} {d : DataW H} {ps : List MemPlace} (hval : Value.okWide Tryd.prog W r b0 59 v)
    (hd : DataW.Trod enc Tryd.prog W 0 (fun _ => true) true 59 v d ps) : ∃ a b, v = .agg #[.int .i64 a, .int .i64 b] := by
  simp only [Value.okWide, Tryd.underlying59] at hval
  obtain ⟨cs, rfl, hsz, _⟩ := hval
  rw [cellsArr2] at hsz
  obtain ⟨l⟩ := cs
  obtain ⟨fuel, hf⟩ := hd
  obtain ⟨xs, m, _, _, _, hl, hg⟩ := DataW.trod_array Tryd.underlying59 hf
  match l, hsz, xs, hl with
  | [c0, c1], _, [y0, y1], _ =>
    have g0 := hg 0 (by decide)
    have g1 := hg 1 (by decide)
    rw [cellsInt1] at g0 g1
    have g0' : DataW.trod enc Tryd.prog W 0 (fun _ => true) true m 3 [c0] = some y0 := g0
    have g1' : DataW.trod enc Tryd.prog W 0 (fun _ => true) true m 3 [c1] = some y1 := g1
    obtain ⟨a, e0, _, _⟩ := DataW.trod_int Tryd.underlying3 g0'
    obtain ⟨b, e1, _, _⟩ := DataW.trod_int Tryd.underlying3 g1'
    cases e0
    cases e1
    exact ⟨a, b, rfl⟩
set_option maxRecDepth 100000 in
theorem open_arr3 {H : Type} {enc : TypeId × Value → H} {W : World} {r : Reach} {b0 : Nat} {v : Value} {d : DataW H} {ps : List MemPlace} (hval : Value.okWide Tryd.prog W r b0 43 v)
    (hd : DataW.Trod enc Tryd.prog W 0 (fun _ => true) true 43 v d ps) : ∃ a b c, v = .agg #[.int .i64 a, .int .i64 b, .int .i64 c] := by
  simp only [Value.okWide, Tryd.underlying43] at hval
  obtain ⟨cs, rfl, hsz, _⟩ := hval
  rw [cellsArr3] at hsz
  obtain ⟨l⟩ := cs
  obtain ⟨fuel, hf⟩ := hd
  obtain ⟨xs, m, _, _, _, hl, hg⟩ := DataW.trod_array Tryd.underlying43 hf
  match l, hsz, xs, hl with
  | [c0, c1, c2], _, [y0, y1, y2], _ =>
    have g0 := hg 0 (by decide)
    have g1 := hg 1 (by decide)
    have g2 := hg 2 (by decide)
    rw [cellsInt1] at g0 g1 g2
    have g0' : DataW.trod enc Tryd.prog W 0 (fun _ => true) true m 3 [c0] = some y0 := g0
    have g1' : DataW.trod enc Tryd.prog W 0 (fun _ => true) true m 3 [c1] = some y1 := g1
    have g2' : DataW.trod enc Tryd.prog W 0 (fun _ => true) true m 3 [c2] = some y2 := g2
    obtain ⟨a, e0, _, _⟩ := DataW.trod_int Tryd.underlying3 g0'
    obtain ⟨b, e1, _, _⟩ := DataW.trod_int Tryd.underlying3 g1'
    obtain ⟨c, e2, _, _⟩ := DataW.trod_int Tryd.underlying3 g2'
    cases e0
    cases e1
    cases e2
    exact ⟨a, b, c, rfl⟩
end Go.Proofs.YtpldalmodcmfaaaDoor
