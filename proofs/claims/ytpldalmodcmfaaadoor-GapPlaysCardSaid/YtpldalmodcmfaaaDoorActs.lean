/- A list of acts that came in. -/
import Derived.Test.YtpldalmodcmfaaaDoorOpen
import Derived.Test.YtpldalmodcmfaaaDoorGapAlive
import Derived.Deep.Slices
import Derived.Deep.Fields
import Derived.ChangeSame
namespace Go.Proofs.YtpldalmodcmfaaaDoor
open Go.ChangeShapes Go.WideShapes Go.ChangeAt Go.RowKit Go.Deep

/-- An act, and the value that it is. -/
structure GAct where
  kd : Int
  pl : Int
  nn : Int
  tx : ByteArray
instance : Inhabited GAct := ⟨⟨0, 0, 0, ⟨#[]⟩⟩⟩
def GAct.val (x : GAct) : Value := .agg #[.int .u8 x.kd, .int .i64 x.pl, .int .i64 x.nn, .string x.tx]
/-- The cells of one. -/
def ActAt (w : World) (b o : Nat) (x : GAct) : Prop := w.cell? ⟨b, o, none⟩ = some (.int .u8 x.kd) ∧ w.cell? ⟨b, o + 1, none⟩ = some (.int .i64 x.pl) ∧ w.cell? ⟨b, o + 2, none⟩ = some (.int .i64 x.nn) ∧ w.cell? ⟨b, o + 3, none⟩ = some (.string x.tx)
/-- A slice of n acts: act i is f i. -/
def Acts (w : World) (v : Value) (n : Nat) (f : Nat → GAct) : Prop :=
  ∃ ao cap, v = .slice ao n cap ∧ n ≤ maxLen ∧ (0 < n → ∃ b off, ao = some ⟨b, off, none⟩ ∧ b < w.heap.size ∧ ∀ i, i < n → ActAt w b (off + i * 4) (f i)) ∧
    ∀ i, i < n → (f i).tx.size ≤ maxLen ∧ (Lit.int .u8 (f i).kd).wf = true
theorem Acts.below {w w' : World} {v : Value} {n : Nat} {f : Nat → GAct} (h : Acts w v n f) (hb : Below w.heap.size w w') : Acts w' v n f := by
  obtain ⟨ao, cap, hv, hm, hc, ht⟩ := h
  refine ⟨ao, cap, hv, hm, fun h0 => ?_, ht⟩
  obtain ⟨b, off, ha, hlt, hx⟩ := hc h0
  have e : ∀ o, w'.cell? ⟨b, o, none⟩ = w.cell? ⟨b, o, none⟩ := fun o => by
    unfold World.cell?
    rw [hb.block b hlt]
  refine ⟨b, off, ha, Nat.lt_of_lt_of_le hlt hb.size, fun i hi => ?_⟩
  unfold ActAt
  rw [e, e, e, e]
  exact hx i hi

theorem actFields : Tryd.prog.cellsOf 33 = 4 := by kernel_rfl

set_option maxRecDepth 100000 in
theorem open_acts {H : Type} {enc : TypeId × Value → H} {W : World} {r : Reach} {b0 : Nat} {v : Value} {d : DataW H} {ps : List MemPlace} (hval : Value.okWide Tryd.prog W r b0 22 v)
    (hd : DataW.Trod enc Tryd.prog W 0 (fun _ => true) true 22 v d ps) : ∃ n f, Acts W v n f := by
  obtain ⟨a0, len, cap, rfl⟩ := okWide_slice Tryd.underlying22 hval
  obtain ⟨fuel, hf⟩ := hd
  rcases open_slice Tryd.underlying22 hf with ⟨hcs, _⟩ | ⟨a, len', cap', m, n, D, Pl, hcs, _, hl, hm, hmm, _, hx⟩
  · simp [Value.cells] at hcs
    obtain ⟨rfl, rfl, rfl⟩ := hcs
    exact ⟨0, fun _ => default, none, 0, rfl, Nat.zero_le _, fun h => absurd h (Nat.lt_irrefl 0), fun i hi => absurd hi (Nat.not_lt_zero i)⟩
  · simp [Value.cells] at hcs
    obtain ⟨rfl, rfl, rfl⟩ := hcs
    simp only [if_true] at hmm
    obtain ⟨b, off, spot⟩ := a
    have key : ∀ i, i < len → ∃ x : GAct, spot = none ∧ ActAt W b (off + i * 4) x ∧ b < W.heap.size ∧ x.tx.size ≤ maxLen ∧ (Lit.int .u8 x.kd).wf = true := by
      intro i hi
      obtain ⟨cs, hc, ht⟩ := hx i (by omega)
      rw [actFields] at hc
      obtain ⟨xs, k, _, _, _, hxl, hfd⟩ := DataW.trod_struct Tryd.underlying33 ht
      obtain ⟨_, hlen, hcell⟩ := World.cells?_some hc
      match cs, hlen, xs, hxl with
      | [c0, c1, c2, c3], _, [y0, y1, y2, y3], _ =>
        have g0 : DataW.trod enc Tryd.prog W 0 (fun _ => true) true k 5 [c0] = some y0 := hfd 0 _ rfl
        have g1 : DataW.trod enc Tryd.prog W 0 (fun _ => true) true k 3 [c1] = some y1 := hfd 1 _ rfl
        have g2 : DataW.trod enc Tryd.prog W 0 (fun _ => true) true k 3 [c2] = some y2 := hfd 2 _ rfl
        have g3 : DataW.trod enc Tryd.prog W 0 (fun _ => true) true k 9 [c3] = some y3 := hfd 3 _ rfl
        obtain ⟨kd, e0, _, w0⟩ := DataW.trod_int Tryd.underlying5 g0
        obtain ⟨pl, e1, _, _⟩ := DataW.trod_int Tryd.underlying3 g1
        obtain ⟨nn, e2, _, _⟩ := DataW.trod_int Tryd.underlying3 g2
        obtain ⟨tx, e3, _, w3⟩ := DataW.trod_string Tryd.underlying9 g3
        cases e0; cases e1; cases e2; cases e3
        have h0 := hcell 0 (by decide)
        have h1 := hcell 1 (by decide)
        have h2 := hcell 2 (by decide)
        have h3 := hcell 3 (by decide)
        have hs : spot = none := by
          obtain ⟨cs2, hc2, _⟩ := hx 0 (by omega)
          rw [actFields] at hc2
          obtain ⟨_, hlen2, hcell2⟩ := World.cells?_some hc2
          have hz := hcell2 0 (by decide)
          rw [List.getElem?_eq_getElem (by omega)] at hz
          simpa [Addr.add] using World.cell?_spot hz
        subst hs
        simp only [add_plain, Nat.add_zero] at h0 h1 h2 h3
        have hb : b < W.heap.size := by
          rcases Nat.lt_or_ge b W.heap.size with h | h
          · exact h
          · exfalso
            unfold World.cell? at h0
            rw [Array.getElem?_eq_none h] at h0
            simp at h0
        exact ⟨⟨kd, pl, nn, tx⟩, rfl, ⟨h0, h1, h2, h3⟩, hb, w3, w0⟩
    obtain ⟨f, hf'⟩ := choose_lt (α := GAct) key
    refine ⟨len, f, some ⟨b, off, spot⟩, cap, rfl, by omega, fun h0 => ?_, fun i hi => ⟨(hf' i hi).2.2.2.1, (hf' i hi).2.2.2.2⟩⟩
    obtain ⟨rfl, _, hb, _⟩ := hf' 0 h0
    exact ⟨b, off, rfl, hb, fun i hi => (hf' i hi).2.1⟩
end Go.Proofs.YtpldalmodcmfaaaDoor
