/- Slices of ints, names by value, slices of slices of ints, that came in. -/
import Derived.Test.YthbophioohcphaaDoorRefLeast
import Derived.Test.YthbophioohcphaaDoorShut
import Derived.ProofKit
import Derived.OpenShut
import Derived.Carry
import Derived.ChangeSlices
import Derived.Deep.Slices
import Derived.Deep.Fields
namespace Go.Proofs.YthbophioohcphaaDoor
open Go.ChangeShapes Go.WideShapes Go.ChangeAt Go.RowKit Go.Deep

/-- Cells that are read as a slice of ints. -/
theorem trod_ints {H : Type} {enc : TypeId × Value → H} {W : World} {fuel : Nat} {cs : List Value} {r : DataW H × List MemPlace} (hf : DataW.trod enc Tryd.prog W 0 (fun _ => true) true fuel 34 cs = some r) :
    ∃ (v : Value) (xs : List Int), cs = [v] ∧ Reads64 W v xs ∧ xs.length ≤ maxLen ∧ ∀ x ∈ xs, (Lit.int .i64 x).wf = true := by
  rcases open_ints Tryd.underlying34 Tryd.underlying3 (show Tryd.prog.cellsOf 3 = 1 by kernel_rfl) hf with ⟨hcs, _⟩ | ⟨a, len, cap, zs, hcs, _, hl, hm, hz, _, hcell, hwz⟩
  · exact ⟨_, [], hcs, Reads64.nil W, Nat.zero_le _, by simp⟩
  · simp only [if_true] at hz
    have hlen : (zs.take len).length = len := by rw [List.length_take]; omega
    refine ⟨_, zs.take len, hcs, ⟨some a, cap, by rw [hlen], fun hx => ?_⟩, by rw [hlen]; omega, fun x hx => hwz x (List.mem_of_mem_take hx)⟩
    have hpos : 0 < len := by
      rcases Nat.eq_zero_or_pos len with h | h
      · subst h; simp at hx
      · exact h
    obtain ⟨b, off, spot⟩ := a
    have hspot : spot = none := by simpa [Addr.add] using World.cell?_spot (hcell 0 (by omega))
    subst hspot
    refine ⟨b, off, rfl, fun i hi => ?_⟩
    rw [hlen] at hi
    rw [← add_plain, hcell i (by omega)]
    simp [List.getD, hi]
set_option maxRecDepth 100000 in
/-- A slice of ints that came in. -/
theorem open_ints64 {H : Type} {enc : TypeId × Value → H} {W : World} {r : Reach} {b0 : Nat} {v : Value} {d : DataW H} {ps : List MemPlace} (hval : Value.okWide Tryd.prog W r b0 34 v)
    (hd : DataW.Trod enc Tryd.prog W 0 (fun _ => true) true 34 v d ps) : ∃ xs : List Int, Reads64 W v xs ∧ xs.length ≤ maxLen ∧ ∀ x ∈ xs, (Lit.int .i64 x).wf = true := by
  obtain ⟨a0, len, cap, rfl⟩ := okWide_slice Tryd.underlying34 hval
  obtain ⟨fuel, hf⟩ := hd
  obtain ⟨v', xs, hcs, h1, h2, h3⟩ := trod_ints hf
  simp [Value.cells] at hcs
  subst hcs
  exact ⟨xs, h1, h2, h3⟩
theorem cellsName : Tryd.prog.cellsOf 23 = 2 := by kernel_rfl
set_option maxRecDepth 100000 in
/-- A name that came in. -/
theorem open_name {H : Type} {enc : TypeId × Value → H} {W : World} {r : Reach} {b0 : Nat} {v : Value} {d : DataW H} {ps : List MemPlace} (hval : Value.okWide Tryd.prog W r b0 23 v)
    (hd : DataW.Trod enc Tryd.prog W 0 (fun _ => true) true 23 v d ps) : ∃ (s q : Int), v = nmV s q ∧ (Lit.int .i64 s).wf = true ∧ (Lit.int .i64 q).wf = true := by
  simp only [Value.okWide, Tryd.underlying23] at hval
  obtain ⟨cs, rfl, hsz, _⟩ := hval
  rw [cellsName] at hsz
  obtain ⟨l⟩ := cs
  obtain ⟨fuel, hf⟩ := hd
  obtain ⟨xs, m, _, _, _, hl, hg⟩ := DataW.trod_struct Tryd.underlying23 hf
  match l, hsz, xs, hl with
  | [c0, c1], _, [y0, y1], _ =>
    have g0 : DataW.trod enc Tryd.prog W 0 (fun _ => true) true m 3 [c0] = some y0 := hg 0 _ rfl
    have g1 : DataW.trod enc Tryd.prog W 0 (fun _ => true) true m 3 [c1] = some y1 := hg 1 _ rfl
    obtain ⟨s, e0, _, w0⟩ := DataW.trod_int Tryd.underlying3 g0
    obtain ⟨q, e1, _, w1⟩ := DataW.trod_int Tryd.underlying3 g1
    cases e0; cases e1
    exact ⟨s, q, rfl, w0, w1⟩
theorem cellsInts : Tryd.prog.cellsOf 34 = 1 := by kernel_rfl
set_option maxRecDepth 100000 in
/-- A slice of slices of ints that came in. -/
theorem open_rows {H : Type} {enc : TypeId × Value → H} {W : World} {r : Reach} {b0 : Nat} {v : Value} {d : DataW H} {ps : List MemPlace} (hval : Value.okWide Tryd.prog W r b0 47 v)
    (hd : DataW.Trod enc Tryd.prog W 0 (fun _ => true) true 47 v d ps) : ∃ (n : Nat) (vs : Nat → Value) (f : Nat → List Int), n ≤ maxLen ∧ (∃ ao cap, v = .slice ao n cap ∧ (0 < n → ∃ b off, ao = some ⟨b, off, none⟩ ∧ ∀ i, i < n → W.cell? ⟨b, off + i, none⟩ = some (vs i))) ∧ ∀ i, i < n → Reads64 W (vs i) (f i) ∧ (f i).length ≤ maxLen ∧ ∀ x ∈ f i, (Lit.int .i64 x).wf = true := by
  obtain ⟨a0, len, cap, rfl⟩ := okWide_slice Tryd.underlying47 hval
  obtain ⟨fuel, hf⟩ := hd
  rcases open_slice Tryd.underlying47 hf with ⟨hcs, _⟩ | ⟨a, len', cap', m, n, D, Pl, hcs, _, hl, hm, hmm, _, hx⟩
  · simp [Value.cells] at hcs
    obtain ⟨rfl, rfl, rfl⟩ := hcs
    exact ⟨0, fun _ => .nilFunc, fun _ => [], Nat.zero_le _, ⟨none, 0, rfl, fun h => absurd h (Nat.lt_irrefl 0)⟩, fun i hi => absurd hi (Nat.not_lt_zero i)⟩
  · simp [Value.cells] at hcs
    obtain ⟨rfl, rfl, rfl⟩ := hcs
    simp only [if_true] at hmm
    obtain ⟨b, off, spot⟩ := a
    have key : ∀ i, i < len → ∃ p : Value × List Int, spot = none ∧ W.cell? ⟨b, off + i, none⟩ = some p.1 ∧ Reads64 W p.1 p.2 ∧ p.2.length ≤ maxLen ∧ ∀ x ∈ p.2, (Lit.int .i64 x).wf = true := by
      intro i hi
      obtain ⟨cs, hc, ht⟩ := hx i (by omega)
      rw [cellsInts] at hc
      obtain ⟨v, xs, rfl, h1, h2, h3⟩ := trod_ints ht
      obtain ⟨_, _, hcell⟩ := World.cells?_some hc
      have h0 := hcell 0 (by decide)
      have hs : spot = none := by
        obtain ⟨cs2, hc2, ht2⟩ := hx 0 (by omega)
        rw [cellsInts] at hc2
        obtain ⟨v2, xs2, rfl, _⟩ := trod_ints ht2
        obtain ⟨_, _, hcell2⟩ := World.cells?_some hc2
        have hz := hcell2 0 (by decide)
        simpa [Addr.add] using World.cell?_spot hz
      subst hs
      simp only [add_plain, Nat.add_zero, Nat.mul_one] at h0
      exact ⟨(v, xs), rfl, h0, h1, h2, h3⟩
    haveI : Inhabited (Value × List Int) := ⟨(.nilFunc, [])⟩
    obtain ⟨f, hf'⟩ := choose_lt (α := Value × List Int) key
    refine ⟨len, fun i => (f i).1, fun i => (f i).2, by omega, ⟨some ⟨b, off, spot⟩, cap, rfl, fun h0 => ?_⟩, fun i hi => (hf' i hi).2.2⟩
    obtain ⟨rfl, _⟩ := hf' 0 h0
    exact ⟨b, off, rfl, fun i hi => (hf' i hi).2.1⟩
end Go.Proofs.YthbophioohcphaaDoor
