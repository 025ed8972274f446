/- Slices of spans, three small numbers by value, that came in. -/
import Derived.Test.YtlofeaodpblagaaReadsSp
import Derived.Test.YtlofeaodpblagaaShut
import Derived.ProofKit
import Derived.OpenShut
import Derived.Carry
import Derived.ChangeSlices
import Derived.Deep.Slices
import Derived.Deep.Fields
namespace Go.Proofs.Ytlofeaodpblagaa
open Go.ChangeShapes Go.WideShapes Go.ChangeAt Go.RowKit Go.Deep

theorem cellsSpan : Try.prog.cellsOf 42 = 2 := by kernel_rfl
set_option maxRecDepth 100000 in
/-- A slice of spans that came in. -/
theorem open_spans {H : Type} {enc : TypeId × Value → H} {W : World} {r : Reach} {b0 : Nat} {v : Value} {d : DataW H} {ps : List MemPlace} (hval : Value.okWide Try.prog W r b0 22 v)
    (hd : DataW.Trod enc Try.prog W 0 (fun _ => true) true 22 v d ps) : ∃ xs : List Sp, SpAt W v xs ∧ xs.length ≤ maxLen ∧ ∀ s ∈ xs, (Lit.int .i64 s.1).wf = true ∧ (Lit.int .i64 s.2).wf = true := by
  obtain ⟨a0, len, cap, rfl⟩ := okWide_slice Try.underlying22 hval
  obtain ⟨fuel, hf⟩ := hd
  rcases open_slice Try.underlying22 hf with ⟨hcs, _⟩ | ⟨a, len', cap', m, n, D, Pl, hcs, _, hl, hm, hmm, _, hx⟩
  · simp [Value.cells] at hcs
    obtain ⟨rfl, rfl, rfl⟩ := hcs
    exact ⟨[], SpAt.nil W, Nat.zero_le _, by simp⟩
  · simp [Value.cells] at hcs
    obtain ⟨rfl, rfl, rfl⟩ := hcs
    simp only [if_true] at hmm
    obtain ⟨b, off, spot⟩ := a
    have key : ∀ i, i < len → ∃ s : Sp, spot = none ∧ W.cell? ⟨b, off + i * 2, none⟩ = some (.int .i64 s.1) ∧ W.cell? ⟨b, off + i * 2 + 1, none⟩ = some (.int .i64 s.2) ∧ (Lit.int .i64 s.1).wf = true ∧ (Lit.int .i64 s.2).wf = true := by
      intro i hi
      obtain ⟨cs, hc, ht⟩ := hx i (by omega)
      rw [cellsSpan] at hc
      obtain ⟨xs, k, _, _, _, hxl, hfd⟩ := DataW.trod_struct Try.underlying42 ht
      obtain ⟨_, hlen, hcell⟩ := World.cells?_some hc
      match cs, hlen, xs, hxl with
      | [c0, c1], _, [y0, y1], _ =>
        have g0 : DataW.trod enc Try.prog W 0 (fun _ => true) true k 3 [c0] = some y0 := hfd 0 _ rfl
        have g1 : DataW.trod enc Try.prog W 0 (fun _ => true) true k 3 [c1] = some y1 := hfd 1 _ rfl
        obtain ⟨x0, e0, _, w0⟩ := DataW.trod_int Try.underlying3 g0
        obtain ⟨x1, e1, _, w1⟩ := DataW.trod_int Try.underlying3 g1
        cases e0
        cases e1
        have h0 := hcell 0 (by decide)
        have h1 := hcell 1 (by decide)
        have hs : spot = none := by
          obtain ⟨cs2, hc2, ht2⟩ := hx 0 (by omega)
          rw [cellsSpan] at hc2
          obtain ⟨_, hlen2, hcell2⟩ := World.cells?_some hc2
          have hz := hcell2 0 (by decide)
          match cs2, hlen2, hz with
          | [e0, e1], _, hz => simpa [Addr.add] using World.cell?_spot (v := e0) hz
        subst hs
        simp only [add_plain, Nat.add_zero] at h0 h1
        exact ⟨(x0, x1), rfl, h0, h1, w0, w1⟩
    haveI : Inhabited Sp := ⟨(0, 0)⟩
    obtain ⟨f, hf'⟩ := choose_lt (α := Sp) key
    have hL : ((List.range len).map f).length = len := by simp
    refine ⟨(List.range len).map f, ⟨some ⟨b, off, spot⟩, cap, by rw [hL], fun hne => ?_⟩, by rw [hL]; omega, fun s hs => ?_⟩
    · have h0 : 0 < len := by
        rcases Nat.eq_zero_or_pos len with h | h
        · subst h; exact absurd rfl hne
        · exact h
      obtain ⟨rfl, _⟩ := hf' 0 h0
      refine ⟨b, off, rfl, fun i hi => ?_⟩
      rw [hL] at hi
      rw [show ((List.range len).map f).getD i (0, 0) = f i by simp [List.getD, hi]]
      exact ⟨(hf' i hi).2.1, (hf' i hi).2.2.1⟩
    · obtain ⟨i, hi, rfl⟩ := List.mem_map.1 hs
      exact (hf' i (List.mem_range.1 hi)).2.2.2
theorem cellsByte1 : Try.prog.cellsOf 5 = 1 := by kernel_rfl
theorem cellsU8x3 : Try.prog.cellsOf 39 = 3 := by kernel_rfl
set_option maxRecDepth 100000 in
theorem open_u8x3 {H : Type} {enc : TypeId × Value → H} {W : World} {r : Reach} {b0 : Nat} {v : Value} {d : DataW H} {ps : List MemPlace} (hval : Value.okWide Try.prog W r b0 39 v)
    (hd : DataW.Trod enc Try.prog W 0 (fun _ => true) true 39 v d ps) : ∃ x0 x1 x2 : Int, v = .agg #[.int .u8 x0, .int .u8 x1, .int .u8 x2] ∧ (Lit.int .u8 x0).wf = true ∧ (Lit.int .u8 x1).wf = true ∧ (Lit.int .u8 x2).wf = true := by
  simp only [Value.okWide, Try.underlying39] at hval
  obtain ⟨cs, rfl, hsz, _⟩ := hval
  rw [cellsU8x3] at hsz
  obtain ⟨l⟩ := cs
  obtain ⟨fuel, hf⟩ := hd
  obtain ⟨xs, m, _, _, _, hl, hg⟩ := DataW.trod_array Try.underlying39 hf
  match l, hsz, xs, hl with
  | [c0, c1, c2], _, [y0, y1, y2], _ =>
    have g0 := hg 0 (by decide)
    have g1 := hg 1 (by decide)
    have g2 := hg 2 (by decide)
    rw [cellsByte1] at g0 g1 g2
    have g0' : DataW.trod enc Try.prog W 0 (fun _ => true) true m 5 [c0] = some y0 := g0
    have g1' : DataW.trod enc Try.prog W 0 (fun _ => true) true m 5 [c1] = some y1 := g1
    have g2' : DataW.trod enc Try.prog W 0 (fun _ => true) true m 5 [c2] = some y2 := g2
    obtain ⟨a0, e0, _, w0⟩ := DataW.trod_int Try.underlying5 g0'
    obtain ⟨a1, e1, _, w1⟩ := DataW.trod_int Try.underlying5 g1'
    obtain ⟨a2, e2, _, w2⟩ := DataW.trod_int Try.underlying5 g2'
    cases e0
    cases e1
    cases e2
    exact ⟨a0, a1, a2, rfl, w0, w1, w2⟩
end Go.Proofs.Ytlofeaodpblagaa
