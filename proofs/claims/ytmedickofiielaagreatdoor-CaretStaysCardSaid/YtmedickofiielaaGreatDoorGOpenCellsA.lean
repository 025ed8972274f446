/- Texts of this proof, joined. -/
import Derived.Test.YtmedickofiielaaGreatDoorGNameEq
import Derived.Test.YtmedickofiielaaGreatDoorGRefSplit
import Derived.Test.YtmedickofiielaaGreatDoorGReads64
import Derived.ProofKit
import Derived.OpenShut
import Derived.Carry
import Derived.ChangeSlices
import Derived.Deep.Slices
import Derived.Deep.Fields
namespace Go.Proofs.YtmedickofiielaaGreatDoor
open Go.ChangeShapes Go.WideShapes Go.ChangeAt Go.RowKit Go.Deep

theorem cellsCellT : Tryz.prog.cellsOf 48 = 5 := by kernel_rfl
theorem okWide_has {P : Program} {W : World} {r : Reach} {b0 : Nat} {t e : TypeId} {a : Addr} {len cap : Nat} (ht : P.underlying t = some (.slice e)) (h : Value.okWide P W r b0 t (.slice (some a) len cap)) : a.spot = none ∧ a.block < W.heap.size := by
 simp only [Value.okWide, ht, Cell.okWide, Cell.ok] at h
 obtain ⟨_, _, _, hs, row, cells, hsh, _⟩ := h
 refine ⟨hs, ?_⟩
 rcases Nat.lt_or_ge a.block W.heap.size with g | g
 ·exact g
 ·exfalso
  unfold World.shape? at hsh
  rw [Array.getElem?_eq_none g] at hsh
  simp at hsh
set_option maxRecDepth 100000 in
theorem open_cells {H : Type} {enc : TypeId × Value → H} {W : World} {r : Reach} {b0 : Nat} {v : Value} {d : DataW H} {ps : List MemPlace} (hval : Value.okWide Tryz.prog W r b0 22 v)
  (hd : DataW.Trod enc Tryz.prog W 0 (fun _ => true) true 22 v d ps) : ∃ l : List PCell, CAt W v l ∧ CWf l := by
 obtain ⟨a0, len, cap, rfl⟩ := okWide_slice Tryz.underlying22 hval
 obtain ⟨fuel, hf⟩ := hd
 rcases open_slice Tryz.underlying22 hf with ⟨hcs, _⟩ | ⟨a, len', cap', m, n, D, Pl, hcs, hlc, hl, hm, hmm, _, hx⟩
 ·simp [Value.cells] at hcs
  obtain ⟨rfl, rfl, rfl⟩ := hcs
  exact ⟨[], CAt.nil W, fun c hc => by cases hc⟩
 ·simp [Value.cells] at hcs
  obtain ⟨rfl, rfl, rfl⟩ := hcs
  simp only [if_true] at hmm
  obtain ⟨b, off, spot⟩ := a
  have key : ∀ i, i < cap → ∃ x : PCell, spot = none ∧ W.cell? ⟨b, off + i * 5, none⟩ = some (.int .i64 x.site) ∧ W.cell? ⟨b, off + i * 5 + 1, none⟩ = some (.int .i64 x.seq) ∧ W.cell? ⟨b, off + i * 5 + 2, none⟩ = some (.int .i64 x.off) ∧ W.cell? ⟨b, off + i * 5 + 3, none⟩ = some (.int .i32 x.r) ∧ W.cell? ⟨b, off + i * 5 + 4, none⟩ = some (.bool x.gone) ∧
    ((Lit.int .i64 x.site).wf = true ∧ (Lit.int .i64 x.seq).wf = true ∧ (Lit.int .i64 x.off).wf = true ∧ (Lit.int .i32 x.r).wf = true) := by
   intro i hi
   obtain ⟨cs, hc, ht⟩ := hx i (by omega)
   rw [cellsCellT] at hc
   obtain ⟨xs, k, _, _, _, hxl, hfd⟩ := DataW.trod_struct Tryz.underlying48 ht
   obtain ⟨_, hlen, hcell⟩ := World.cells?_some hc
   match cs, hlen, xs, hxl with
   | [c0, c1, c2, c3, c4], _, [y0, y1, y2, y3], _ =>
    have g0 : DataW.trod enc Tryz.prog W 0 (fun _ => true) true k 46 [c0, c1] = some y0 := hfd 0 _ rfl
    have g1 : DataW.trod enc Tryz.prog W 0 (fun _ => true) true k 3 [c2] = some y1 := hfd 1 _ rfl
    have g2 : DataW.trod enc Tryz.prog W 0 (fun _ => true) true k 21 [c3] = some y2 := hfd 2 _ rfl
    have g3 : DataW.trod enc Tryz.prog W 0 (fun _ => true) true k 4 [c4] = some y3 := hfd 3 _ rfl
    obtain ⟨zs, m', _, _, _, hl', hg'⟩ := DataW.trod_struct Tryz.underlying46 g0
    match zs, hl' with
    | [z0, z1], _ =>
     have f0 : DataW.trod enc Tryz.prog W 0 (fun _ => true) true m' 3 [c0] = some z0 := hg' 0 _ rfl
     have f1 : DataW.trod enc Tryz.prog W 0 (fun _ => true) true m' 3 [c1] = some z1 := hg' 1 _ rfl
     obtain ⟨s, e0, _, w0⟩ := DataW.trod_int Tryz.underlying3 f0
     obtain ⟨q, e1, _, w1⟩ := DataW.trod_int Tryz.underlying3 f1
     obtain ⟨o, e2, _, w2⟩ := DataW.trod_int Tryz.underlying3 g1
     obtain ⟨rr, e3, _, w3⟩ := DataW.trod_int Tryz.underlying21 g2
     obtain ⟨gg, e4, _⟩ := DataW.trod_bool Tryz.underlying4 g3
     cases e0; cases e1; cases e2; cases e3; cases e4
     have h0 := hcell 0 (by decide)
     have h1 := hcell 1 (by decide)
     have h2 := hcell 2 (by decide)
     have h3 := hcell 3 (by decide)
     have h4 := hcell 4 (by decide)
     have hs : spot = none := by
      obtain ⟨cs2, hc2, _⟩ := hx 0 (by omega)
      rw [cellsCellT] at hc2
      obtain ⟨_, hlen2, hcell2⟩ := World.cells?_some hc2
      have hz := hcell2 0 (by decide)
      rw [List.getElem?_eq_getElem (by omega)] at hz
      simpa [Addr.add] using World.cell?_spot hz
     subst hs
     simp only [add_plain, Nat.add_zero] at h0 h1 h2 h3 h4
     exact ⟨⟨s, q, o, rr, gg⟩, rfl, h0, h1, h2, h3, h4, w0, w1, w2, w3⟩
  obtain ⟨hsp, hblt⟩ := okWide_has Tryz.underlying22 hval
  dsimp only at hsp hblt
  subst hsp
  haveI : Inhabited PCell := ⟨⟨0, 0, 0, 0, false⟩⟩
  obtain ⟨f, hf'⟩ := choose_lt (α := PCell) key
  have hL : ((List.range len).map f).length = len := by simp
  have hat : ∀ i c, ((List.range len).map f)[i]? = some c → i < len ∧ c = f i := fun i c h => by
   rw [List.getElem?_map] at h
   cases hr : (List.range len)[i]? with
   | none => rw [hr] at h; cases h
   | some j =>
    have hi := (List.getElem?_eq_some_iff.1 hr).1
    rw [List.length_range] at hi
    rw [List.getElem?_range hi] at hr
    cases hr
    rw [List.getElem?_range hi] at h
    injection h with h
    exact ⟨hi, h.symm⟩
  refine ⟨(List.range len).map f, ⟨by rw [cCells_length], some ⟨b, off, none⟩, cap, by rw [hL], by rw [hL]; exact hl, hm, (fun q => by cases q), fun ad q => ?_⟩, fun c hc => ?_⟩
  ·cases q
   refine ⟨b, off, rfl, hblt, fun j u hj => ?_⟩
   have hjl := (List.getElem?_eq_some_iff.1 hj).1
   rw [cCells_length, hL] at hjl
   have hi : j / 5 < len := by omega
   have e := cCells_at ((List.range len).map f) (j / 5) (j % 5) (f (j / 5)) (by rw [List.getElem?_map, List.getElem?_range hi]; rfl) (by omega)
   rw [show j / 5 * 5 + j % 5 = j by omega, hj] at e
   obtain ⟨_, k0, k1, k2, k3, k4, _⟩ := hf' (j / 5) (by omega)
   have hcase : j % 5 = 0 ∨ j % 5 = 1 ∨ j % 5 = 2 ∨ j % 5 = 3 ∨ j % 5 = 4 := by omega
   rcases hcase with h | h | h | h | h
   ·rw [h] at e; rw [show off + j = off + j / 5 * 5 by omega, k0]; exact e.symm
   ·rw [h] at e; rw [show off + j = off + j / 5 * 5 + 1 by omega, k1]; exact e.symm
   ·rw [h] at e; rw [show off + j = off + j / 5 * 5 + 2 by omega, k2]; exact e.symm
   ·rw [h] at e; rw [show off + j = off + j / 5 * 5 + 3 by omega, k3]; exact e.symm
   ·rw [h] at e; rw [show off + j = off + j / 5 * 5 + 4 by omega, k4]; exact e.symm
  ·obtain ⟨i, hi⟩ := List.mem_iff_getElem?.1 hc
   obtain ⟨hi, rfl⟩ := hat i c hi
   exact (hf' i (by omega)).2.2.2.2.2.2
end Go.Proofs.YtmedickofiielaaGreatDoor

namespace Go.Proofs.YtmedickofiielaaGreatDoor
open Go.ChangeShapes Go.WideShapes Go.ChangeAt Go.RowKit Go.Deep

theorem cellsActT : Tryz.prog.cellsOf 52 = 8 := by kernel_rfl
set_option maxRecDepth 100000 in
theorem open_actsC {H : Type} {enc : TypeId × Value → H} {W : World} {r : Reach} {b0 : Nat} {v : Value} {d : DataW H} {ps : List MemPlace} (hval : Value.okWide Tryz.prog W r b0 23 v)
  (hd : DataW.Trod enc Tryz.prog W 0 (fun _ => true) true 23 v d ps) : ∃ xa : List PAct, ActsAt W v xa := by
 obtain ⟨a0, len, cap, rfl⟩ := okWide_slice Tryz.underlying23 hval
 obtain ⟨fuel, hf⟩ := hd
 rcases open_slice Tryz.underlying23 hf with ⟨hcs, _⟩ | ⟨a, len', cap', m, n, D, Pl, hcs, hlc, hl, hm, hmm, _, hx⟩
 ·simp [Value.cells] at hcs
  obtain ⟨rfl, rfl, rfl⟩ := hcs
  exact ⟨[], RowR.nil 8 W, fun c hc => by cases hc⟩
 ·simp [Value.cells] at hcs
  obtain ⟨rfl, rfl, rfl⟩ := hcs
  simp only [if_true] at hmm
  obtain ⟨b, off, spot⟩ := a
  have hsp := (okWide_has Tryz.underlying23 hval).1
  dsimp only at hsp
  subst hsp
  have key : ∀ i, i < len → ∃ x : PAct, (∀ j, j < 8 → W.cell? ⟨b, off + i * 8 + j, none⟩ = x.vals[j]?) ∧ SpAt W x.sp x.xs ∧ x.Wf := by
   intro i hi
   obtain ⟨cs, hc, ht⟩ := hx i (by omega)
   rw [cellsActT] at hc
   obtain ⟨xs, k, _, _, _, hxl, hfd⟩ := DataW.trod_struct Tryz.underlying52 ht
   obtain ⟨_, hlen, hcell⟩ := World.cells?_some hc
   match cs, hlen, xs, hxl with
   | [c0, c1, c2, c3, c4, c5, c6, c7], _, [y0, y1], _ =>
    have g0 : DataW.trod enc Tryz.prog W 0 (fun _ => true) true k 5 [c0] = some y0 := hfd 0 _ rfl
    have g1 : DataW.trod enc Tryz.prog W 0 (fun _ => true) true k 50 [c1, c2, c3, c4, c5, c6, c7] = some y1 := hfd 1 _ rfl
    obtain ⟨zs, m', _, _, _, hl', hg'⟩ := DataW.trod_struct Tryz.underlying50 g1
    match zs, hl' with
    | [z0, z1, z2, z3, z4, z5], _ =>
     have f0 : DataW.trod enc Tryz.prog W 0 (fun _ => true) true m' 46 [c1, c2] = some z0 := hg' 0 _ rfl
     have f1 : DataW.trod enc Tryz.prog W 0 (fun _ => true) true m' 3 [c3] = some z1 := hg' 1 _ rfl
     have f2 : DataW.trod enc Tryz.prog W 0 (fun _ => true) true m' 3 [c4] = some z2 := hg' 2 _ rfl
     have f3 : DataW.trod enc Tryz.prog W 0 (fun _ => true) true m' 3 [c5] = some z3 := hg' 3 _ rfl
     have f4 : DataW.trod enc Tryz.prog W 0 (fun _ => true) true m' 9 [c6] = some z4 := hg' 4 _ rfl
     have f5 : DataW.trod enc Tryz.prog W 0 (fun _ => true) true m' 37 [c7] = some z5 := hg' 5 _ rfl
     obtain ⟨us, m2, _, _, _, hl2, hg2⟩ := DataW.trod_struct Tryz.underlying46 f0
     match us, hl2 with
     | [u0, u1], _ =>
      have e0' : DataW.trod enc Tryz.prog W 0 (fun _ => true) true m2 3 [c1] = some u0 := hg2 0 _ rfl
      have e1' : DataW.trod enc Tryz.prog W 0 (fun _ => true) true m2 3 [c2] = some u1 := hg2 1 _ rfl
      obtain ⟨kd, e0, _, w0⟩ := DataW.trod_int Tryz.underlying5 g0
      obtain ⟨s, e1, _, w1⟩ := DataW.trod_int Tryz.underlying3 e0'
      obtain ⟨q, e2, _, w2⟩ := DataW.trod_int Tryz.underlying3 e1'
      obtain ⟨nn, e3, _, w3⟩ := DataW.trod_int Tryz.underlying3 f1
      obtain ⟨kk, e4, _, w4⟩ := DataW.trod_int Tryz.underlying3 f2
      obtain ⟨pl, e5, _, w5⟩ := DataW.trod_int Tryz.underlying3 f3
      obtain ⟨tx, e6, _, w6⟩ := DataW.trod_string Tryz.underlying9 f4
      obtain ⟨ss, hS, _, hw⟩ := open_spansT f5
      cases e0; cases e1; cases e2; cases e3; cases e4; cases e5; cases e6
      refine ⟨⟨kd, s, q, nn, kk, pl, tx, c7, ss⟩, fun j hj => ?_, hS, ⟨w0, w1, w2, w3, w4, w5, hw⟩⟩
      have h9 := hcell j hj
      simp only [add_plain] at h9
      rw [h9]
      rfl
  haveI : Inhabited PAct := ⟨⟨0, 0, 0, 0, 0, 0, ⟨#[]⟩, .slice none 0 0, []⟩⟩
  obtain ⟨f, hf'⟩ := choose_lt (α := PAct) key
  have hL : ((List.range len).map f).length = len := by simp
  refine ⟨(List.range len).map f, ⟨by rw [aCells_length], some ⟨b, off, none⟩, cap, by rw [hL], fun _ => ⟨b, off, rfl, fun j u hj => ?_⟩⟩, fun x hx => ?_⟩
  ·have hjl := (List.getElem?_eq_some_iff.1 hj).1
   rw [aCells_length, hL] at hjl
   have hi : j / 8 < len := by omega
   have e := aCells_at ((List.range len).map f) (j / 8) (j % 8) (f (j / 8)) (by rw [List.getElem?_map, List.getElem?_range hi]; rfl) (by omega)
   rw [show j / 8 * 8 + j % 8 = j by omega, hj] at e
   rw [show off + j = off + j / 8 * 8 + j % 8 by omega, (hf' (j / 8) hi).1 (j % 8) (by omega)]
   exact e.symm
  ·obtain ⟨i, hi, rfl⟩ := List.mem_map.1 hx
   exact (hf' i (List.mem_range.1 hi)).2
end Go.Proofs.YtmedickofiielaaGreatDoor

namespace Go.Proofs.YtmedickofiielaaGreatDoor
open Go.ChangeShapes Go.WideShapes Go.ChangeAt Go.RowKit Go.Deep

theorem texts_of {W : World} {b off : Nat} : ∀ n, (∀ i, i < n → ∃ t : ByteArray, W.cell? ⟨b, off + i, none⟩ = some (.string t)) → ∃ ts : List ByteArray, ts.length = n ∧ ∀ i t, ts[i]? = some t → W.cell? ⟨b, off + i, none⟩ = some (.string t)
 | 0, _ => ⟨[], rfl, fun i t h => by simp at h⟩
 | k + 1, key => by
  obtain ⟨ts, h1, h2⟩ := texts_of k fun i hi => key i (by omega)
  obtain ⟨t, ht⟩ := key k (by omega)
  refine ⟨ts ++ [t], by simp [h1], fun i u hu => ?_⟩
  rcases Nat.lt_trichotomy i k with h | h | h
  ·rw [List.getElem?_append_left (by omega)] at hu
   exact h2 i u hu
  ·subst h
   rw [List.getElem?_append_right (by omega), h1, Nat.sub_self] at hu
   cases hu
   exact ht
  ·rw [List.getElem?_eq_none (by simp; omega)] at hu
   cases hu
theorem cellsStrT : Tryz.prog.cellsOf 9 = 1 := by kernel_rfl
set_option maxRecDepth 100000 in
theorem open_texts {H : Type} {enc : TypeId × Value → H} {W : World} {r : Reach} {b0 : Nat} {v : Value} {d : DataW H} {ps : List MemPlace} (hval : Value.okWide Tryz.prog W r b0 58 v)
  (hd : DataW.Trod enc Tryz.prog W 0 (fun _ => true) true 58 v d ps) : ∃ ts : List ByteArray, TextsAt W v ts := by
 obtain ⟨a0, len, cap, rfl⟩ := okWide_slice Tryz.underlying58 hval
 obtain ⟨fuel, hf⟩ := hd
 rcases open_slice Tryz.underlying58 hf with ⟨hcs, _⟩ | ⟨a, len', cap', m, n, D, Pl, hcs, hlc, hl, hm, hmm, _, hx⟩
 ·simp [Value.cells] at hcs
  obtain ⟨rfl, rfl, rfl⟩ := hcs
  exact ⟨[], RowR.nil 1 W⟩
 ·simp [Value.cells] at hcs
  obtain ⟨rfl, rfl, rfl⟩ := hcs
  simp only [if_true] at hmm
  obtain ⟨b, off, spot⟩ := a
  have hsp := (okWide_has Tryz.underlying58 hval).1
  dsimp only at hsp
  subst hsp
  have key : ∀ i, i < len → ∃ t : ByteArray, W.cell? ⟨b, off + i, none⟩ = some (.string t) := by
   intro i hi
   obtain ⟨cs, hc, ht⟩ := hx i (by omega)
   rw [cellsStrT] at hc
   obtain ⟨_, hlen, hcell⟩ := World.cells?_some hc
   match cs, hlen with
   | [c0], _ =>
    obtain ⟨t, e0, _, _⟩ := DataW.trod_string Tryz.underlying9 ht
    cases e0
    have h9 := hcell 0 (by decide)
    simp only [add_plain] at h9
    refine ⟨t, ?_⟩
    simpa using h9
  obtain ⟨ts, hts, hat⟩ := texts_of (W := W) (b := b) (off := off) len key
  subst hts
  refine ⟨ts, ?_⟩
  unfold TextsAt
  refine ⟨by simp, some ⟨b, off, none⟩, cap, rfl, fun _ => ⟨b, off, rfl, fun j u hj => ?_⟩⟩
  rw [List.getElem?_map] at hj
  obtain ⟨t, ht, rfl⟩ := Option.map_eq_some_iff.1 hj
  exact hat j t ht
end Go.Proofs.YtmedickofiielaaGreatDoor
