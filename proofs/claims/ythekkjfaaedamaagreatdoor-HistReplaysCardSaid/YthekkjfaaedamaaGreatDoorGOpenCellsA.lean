/- Texts of this proof, joined. -/
import Derived.Test.YthekkjfaaedamaaGreatDoorGNameEq
import Derived.Test.YthekkjfaaedamaaGreatDoorGRefSplit
import Derived.Test.YthekkjfaaedamaaGreatDoorOpen64
import Derived.Test.YthekkjfaaedamaaGreatDoorGRefLRun
namespace Go.Proofs.YthekkjfaaedamaaGreatDoor
open Go.ChangeShapes Go.WideShapes Go.ChangeAt Go.RowKit Go.Deep

theorem cellsCellT : Tryz.prog.cellsOf 64 = 5 := by kernel_rfl
theorem okWide_has {P : Program} {W : World} {r : Reach} {b0 : Nat} {t e : TypeId} {a : Addr} {len cap : Nat} (ht : P.underlying t = some (.slice e)) (h : Value.okWide P W r b0 t (.slice (some a) len cap)) : a.spot = none ∧ a.block < W.heap.size := by
 simp only [Value.okWide, ht, Cell.okWide, Cell.ok] at h
 obtain ⟨_, _, _, hs, row, cells, hsh, _⟩ := h
 refine ⟨hs, ?_⟩
 rcases Nat.lt_or_ge a.block W.heap.size with g | g
 ·exact g
 ·exfalso
  unfold World.shape? at hsh
  rw [Array.getElem?_eq_none g] at hsh
  simp at hsh
set_option maxRecDepth 100000 in
theorem open_cells {H : Type} {enc : TypeId × Value → H} {W : World} {r : Reach} {b0 : Nat} {v : Value} {d : DataW H} {ps : List MemPlace} (hval : Value.okWide Tryz.prog W r b0 22 v)
  (hd : DataW.Trod enc Tryz.prog W 0 (fun _ => true) true 22 v d ps) : ∃ l : List PCell, CAt W v l ∧ CWf l := by
 obtain ⟨a0, len, cap, rfl⟩ := okWide_slice Tryz.underlying22 hval
 obtain ⟨fuel, hf⟩ := hd
 rcases open_slice Tryz.underlying22 hf with ⟨hcs, _⟩ | ⟨a, len', cap', m, n, D, Pl, hcs, hlc, hl, hm, hmm, _, hx⟩
 ·simp [Value.cells] at hcs
  obtain ⟨rfl, rfl, rfl⟩ := hcs
  exact ⟨[], CAt.nil W, fun c hc => by cases hc⟩
 ·simp [Value.cells] at hcs
  obtain ⟨rfl, rfl, rfl⟩ := hcs
  simp only [if_true] at hmm
  obtain ⟨b, off, spot⟩ := a
  have key : ∀ i, i < cap → ∃ x : PCell, spot = none ∧ W.cell? ⟨b, off + i * 5, none⟩ = some (.int .i64 x.site) ∧ W.cell? ⟨b, off + i * 5 + 1, none⟩ = some (.int .i64 x.seq) ∧ W.cell? ⟨b, off + i * 5 + 2, none⟩ = some (.int .i64 x.off) ∧ W.cell? ⟨b, off + i * 5 + 3, none⟩ = some (.int .i32 x.r) ∧ W.cell? ⟨b, off + i * 5 + 4, none⟩ = some (.bool x.gone) ∧
    ((Lit.int .i64 x.site).wf = true ∧ (Lit.int .i64 x.seq).wf = true ∧ (Lit.int .i64 x.off).wf = true ∧ (Lit.int .i32 x.r).wf = true) := by
   intro i hi
   obtain ⟨cs, hc, ht⟩ := hx i (by omega)
   rw [cellsCellT] at hc
   obtain ⟨xs, k, _, _, _, hxl, hfd⟩ := DataW.trod_struct Tryz.underlying64 ht
   obtain ⟨_, hlen, hcell⟩ := World.cells?_some hc
   match cs, hlen, xs, hxl with
   | [c0, c1, c2, c3, c4], _, [y0, y1, y2, y3], _ =>
    have g0 : DataW.trod enc Tryz.prog W 0 (fun _ => true) true k 42 [c0, c1] = some y0 := hfd 0 _ rfl
    have g1 : DataW.trod enc Tryz.prog W 0 (fun _ => true) true k 3 [c2] = some y1 := hfd 1 _ rfl
    have g2 : DataW.trod enc Tryz.prog W 0 (fun _ => true) true k 21 [c3] = some y2 := hfd 2 _ rfl
    have g3 : DataW.trod enc Tryz.prog W 0 (fun _ => true) true k 4 [c4] = some y3 := hfd 3 _ rfl
    obtain ⟨zs, m', _, _, _, hl', hg'⟩ := DataW.trod_struct Tryz.underlying42 g0
    match zs, hl' with
    | [z0, z1], _ =>
     have f0 : DataW.trod enc Tryz.prog W 0 (fun _ => true) true m' 3 [c0] = some z0 := hg' 0 _ rfl
     have f1 : DataW.trod enc Tryz.prog W 0 (fun _ => true) true m' 3 [c1] = some z1 := hg' 1 _ rfl
     obtain ⟨s, e0, _, w0⟩ := DataW.trod_int Tryz.underlying3 f0
     obtain ⟨q, e1, _, w1⟩ := DataW.trod_int Tryz.underlying3 f1
     obtain ⟨o, e2, _, w2⟩ := DataW.trod_int Tryz.underlying3 g1
     obtain ⟨rr, e3, _, w3⟩ := DataW.trod_int Tryz.underlying21 g2
     obtain ⟨gg, e4, _⟩ := DataW.trod_bool Tryz.underlying4 g3
     cases e0; cases e1; cases e2; cases e3; cases e4
     have h0 := hcell 0 (by decide)
     have h1 := hcell 1 (by decide)
     have h2 := hcell 2 (by decide)
     have h3 := hcell 3 (by decide)
     have h4 := hcell 4 (by decide)
     have hs : spot = none := by
      obtain ⟨cs2, hc2, _⟩ := hx 0 (by omega)
      rw [cellsCellT] at hc2
      obtain ⟨_, hlen2, hcell2⟩ := World.cells?_some hc2
      have hz := hcell2 0 (by decide)
      rw [List.getElem?_eq_getElem (by omega)] at hz
      simpa [Addr.add] using World.cell?_spot hz
     subst hs
     simp only [add_plain, Nat.add_zero] at h0 h1 h2 h3 h4
     exact ⟨⟨s, q, o, rr, gg⟩, rfl, h0, h1, h2, h3, h4, w0, w1, w2, w3⟩
  obtain ⟨hsp, hblt⟩ := okWide_has Tryz.underlying22 hval
  dsimp only at hsp hblt
  subst hsp
  haveI : Inhabited PCell := ⟨⟨0, 0, 0, 0, false⟩⟩
  obtain ⟨f, hf'⟩ := choose_lt (α := PCell) key
  have hL : ((List.range len).map f).length = len := by simp
  have hat : ∀ i c, ((List.range len).map f)[i]? = some c → i < len ∧ c = f i := fun i c h => by
   rw [List.getElem?_map] at h
   cases hr : (List.range len)[i]? with
   | none => rw [hr] at h; cases h
   | some j =>
    have hi := (List.getElem?_eq_some_iff.1 hr).1
    rw [List.length_range] at hi
    rw [List.getElem?_range hi] at hr
    cases hr
    rw [List.getElem?_range hi] at h
    injection h with h
    exact ⟨hi, h.symm⟩
  refine ⟨(List.range len).map f, ⟨by rw [cCells_length], some ⟨b, off, none⟩, cap, by rw [hL], by rw [hL]; exact hl, hm, (fun q => by cases q), fun ad q => ?_⟩, fun c hc => ?_⟩
  ·cases q
   refine ⟨b, off, rfl, hblt, fun j u hj => ?_⟩
   have hjl := (List.getElem?_eq_some_iff.1 hj).1
   rw [cCells_length, hL] at hjl
   have hi : j / 5 < len := by omega
   have e := cCells_at ((List.range len).map f) (j / 5) (j % 5) (f (j / 5)) (by rw [List.getElem?_map, List.getElem?_range hi]; rfl) (by omega)
   rw [show j / 5 * 5 + j % 5 = j by omega, hj] at e
   obtain ⟨_, k0, k1, k2, k3, k4, _⟩ := hf' (j / 5) (by omega)
   have hcase : j % 5 = 0 ∨ j % 5 = 1 ∨ j % 5 = 2 ∨ j % 5 = 3 ∨ j % 5 = 4 := by omega
   rcases hcase with h | h | h | h | h
   ·rw [h] at e; rw [show off + j = off + j / 5 * 5 by omega, k0]; exact e.symm
   ·rw [h] at e; rw [show off + j = off + j / 5 * 5 + 1 by omega, k1]; exact e.symm
   ·rw [h] at e; rw [show off + j = off + j / 5 * 5 + 2 by omega, k2]; exact e.symm
   ·rw [h] at e; rw [show off + j = off + j / 5 * 5 + 3 by omega, k3]; exact e.symm
   ·rw [h] at e; rw [show off + j = off + j / 5 * 5 + 4 by omega, k4]; exact e.symm
  ·obtain ⟨i, hi⟩ := List.mem_iff_getElem?.1 hc
   obtain ⟨hi, rfl⟩ := hat i c hi
   exact (hf' i (by omega)).2.2.2.2.2.2
end Go.Proofs.YthekkjfaaedamaaGreatDoor

namespace Go.Proofs.YthekkjfaaedamaaGreatDoor
open Go.ChangeShapes Go.WideShapes Go.ChangeAt Go.RowKit Go.Deep

theorem cellsEntT : Tryz.prog.cellsOf 49 = 14 := by kernel_rfl
theorem okWide_cap {P : Program} {W : World} {r : Reach} {b0 : Nat} {t e : TypeId} {v : Value} (ht : P.underlying t = some (.slice e)) (h : Value.okWide P W r b0 t v) : CapOk v := by
 obtain ⟨a, len, cap, rfl⟩ := okWide_slice ht h
 intro ao n c hv
 cases hv
 cases a with
 | some ad =>
  simp only [Value.okWide, ht, Cell.okWide, Cell.ok] at h
  exact h.1
 | none =>
  by_cases hz : len = 0 ∧ cap = 0
  ·rw [hz.1]; exact Nat.zero_le _
  ·exfalso
   simp only [Value.okWide, ht, Cell.okWide] at h
   unfold Cell.ok at h
   rw [ht] at h
   split at h <;> simp_all
def REnt.Good (x : REnt) : Prop := NWf x.op.site x.op.seq x.op.num x.op.kind x.op.pl ∧ sWf x.op.xs
set_option maxRecDepth 100000 in
theorem open_ents {H : Type} {enc : TypeId × Value → H} {W : World} {r : Reach} {b0 : Nat} {v : Value} {d : DataW H} {ps : List MemPlace} (hval : Value.okWide Tryz.prog W r b0 24 v)
  (hd : DataW.Trod enc Tryz.prog W 0 (fun _ => true) true 24 v d ps) : ∃ l : List REnt, EntsR W v l ∧ ∀ x ∈ l, x.Good := by
 obtain ⟨a0, len, cap, rfl⟩ := okWide_slice Tryz.underlying24 hval
 obtain ⟨fuel, hf⟩ := hd
 rcases open_slice Tryz.underlying24 hf with ⟨hcs, _⟩ | ⟨a, len', cap', m, n, D, Pl, hcs, hlc, hl, hm, hmm, _, hx⟩
 ·simp [Value.cells] at hcs
  obtain ⟨rfl, rfl, rfl⟩ := hcs
  exact ⟨[], EntsR.nilAny W none 0, fun c hc => by cases hc⟩
 ·simp [Value.cells] at hcs
  obtain ⟨rfl, rfl, rfl⟩ := hcs
  simp only [if_true] at hmm
  obtain ⟨b, off, spot⟩ := a
  have hsp := (okWide_has Tryz.underlying24 hval).1
  dsimp only at hsp
  subst hsp
  have key : ∀ i, i < len → ∃ x : REnt, (∀ j, j < 14 → W.cell? ⟨b, off + i * 14 + j, none⟩ = x.vals[j]?) ∧ SpAt W x.op.sp x.op.xs ∧ x.Good := by
   intro i hi
   obtain ⟨cs, hc, ht⟩ := hx i (by omega)
   rw [cellsEntT] at hc
   obtain ⟨xs, k, _, _, _, hxl, hfd⟩ := DataW.trod_struct Tryz.underlying49 ht
   obtain ⟨_, hlen, hcell⟩ := World.cells?_some hc
   match cs, hlen, xs, hxl with
   | [c1, c2, c3, c4, c5, c6, c7, d1, d2, d3, d4, d5, d6, d7], _, [y1, y2], _ =>
    have g1 : DataW.trod enc Tryz.prog W 0 (fun _ => true) true k 45 [c1, c2, c3, c4, c5, c6, c7] = some y1 := hfd 0 _ rfl
    have g2 : DataW.trod enc Tryz.prog W 0 (fun _ => true) true k 47 [d1, d2, d3, d4, d5, d6, d7] = some y2 := hfd 1 _ rfl
    obtain ⟨zs, m', _, _, _, hl', hg'⟩ := DataW.trod_struct Tryz.underlying45 g1
    obtain ⟨zt, mt, _, _, _, hlt, hgt⟩ := DataW.trod_struct Tryz.underlying47 g2
    match zs, hl', zt, hlt with
    | [z0, z1, z2, z3, z4, z5], _, [t0, t1, t2, t3, t4, t5], _ =>
     have f0 : DataW.trod enc Tryz.prog W 0 (fun _ => true) true m' 42 [c1, c2] = some z0 := hg' 0 _ rfl
     have f1 : DataW.trod enc Tryz.prog W 0 (fun _ => true) true m' 3 [c3] = some z1 := hg' 1 _ rfl
     have f2 : DataW.trod enc Tryz.prog W 0 (fun _ => true) true m' 3 [c4] = some z2 := hg' 2 _ rfl
     have f3 : DataW.trod enc Tryz.prog W 0 (fun _ => true) true m' 3 [c5] = some z3 := hg' 3 _ rfl
     have f4 : DataW.trod enc Tryz.prog W 0 (fun _ => true) true m' 9 [c6] = some z4 := hg' 4 _ rfl
     have f5 : DataW.trod enc Tryz.prog W 0 (fun _ => true) true m' 43 [c7] = some z5 := hg' 5 _ rfl
     have k0 : DataW.trod enc Tryz.prog W 0 (fun _ => true) true mt 42 [d1, d2] = some t0 := hgt 0 _ rfl
     have k1 : DataW.trod enc Tryz.prog W 0 (fun _ => true) true mt 3 [d3] = some t1 := hgt 1 _ rfl
     have k2 : DataW.trod enc Tryz.prog W 0 (fun _ => true) true mt 3 [d4] = some t2 := hgt 2 _ rfl
     have k3 : DataW.trod enc Tryz.prog W 0 (fun _ => true) true mt 3 [d5] = some t3 := hgt 3 _ rfl
     have k4 : DataW.trod enc Tryz.prog W 0 (fun _ => true) true mt 3 [d6] = some t4 := hgt 4 _ rfl
     have k5 : DataW.trod enc Tryz.prog W 0 (fun _ => true) true mt 9 [d7] = some t5 := hgt 5 _ rfl
     obtain ⟨us, m2, _, _, _, hl2, hg2⟩ := DataW.trod_struct Tryz.underlying42 f0
     obtain ⟨ut, m3, _, _, _, hl3, hg3⟩ := DataW.trod_struct Tryz.underlying42 k0
     match us, hl2, ut, hl3 with
     | [u0, u1], _, [q0, q1], _ =>
      have e0' : DataW.trod enc Tryz.prog W 0 (fun _ => true) true m2 3 [c1] = some u0 := hg2 0 _ rfl
      have e1' : DataW.trod enc Tryz.prog W 0 (fun _ => true) true m2 3 [c2] = some u1 := hg2 1 _ rfl
      have e2' : DataW.trod enc Tryz.prog W 0 (fun _ => true) true m3 3 [d1] = some q0 := hg3 0 _ rfl
      have e3' : DataW.trod enc Tryz.prog W 0 (fun _ => true) true m3 3 [d2] = some q1 := hg3 1 _ rfl
      obtain ⟨s, e1, _, w1⟩ := DataW.trod_int Tryz.underlying3 e0'
      obtain ⟨q, e2, _, w2⟩ := DataW.trod_int Tryz.underlying3 e1'
      obtain ⟨nn, e3, _, w3⟩ := DataW.trod_int Tryz.underlying3 f1
      obtain ⟨kk, e4, _, w4⟩ := DataW.trod_int Tryz.underlying3 f2
      obtain ⟨pl, e5, _, w5⟩ := DataW.trod_int Tryz.underlying3 f3
      obtain ⟨tx, e6, _, w6⟩ := DataW.trod_string Tryz.underlying9 f4
      obtain ⟨ss, hS, _, hw⟩ := open_spansT f5
      obtain ⟨es, h1, _, _⟩ := DataW.trod_int Tryz.underlying3 e2'
      obtain ⟨eq, h2, _, _⟩ := DataW.trod_int Tryz.underlying3 e3'
      obtain ⟨ec, h3, _, _⟩ := DataW.trod_int Tryz.underlying3 k1
      obtain ⟨ek, h4, _, _⟩ := DataW.trod_int Tryz.underlying3 k2
      obtain ⟨ea, h5, _, _⟩ := DataW.trod_int Tryz.underlying3 k3
      obtain ⟨el, h6, _, _⟩ := DataW.trod_int Tryz.underlying3 k4
      obtain ⟨et, h7, _, _⟩ := DataW.trod_string Tryz.underlying9 k5
      cases e1; cases e2; cases e3; cases e4; cases e5; cases e6
      cases h1; cases h2; cases h3; cases h4; cases h5; cases h6; cases h7
      refine ⟨⟨⟨s, q, nn, kk, pl, tx, c7, ss⟩, es, eq, ec, ek, ea, el, et⟩, fun j hj => ?_, hS, ⟨w1, w2, w3, w4, w5⟩, hw⟩
      have h9 := hcell j hj
      simp only [add_plain] at h9
      rw [h9]
      rfl
  haveI : Inhabited REnt := ⟨⟨⟨0, 0, 0, 0, 0, ⟨#[]⟩, .slice none 0 0, []⟩, 0, 0, 0, 0, 0, 0, ⟨#[]⟩⟩⟩
  obtain ⟨f, hf'⟩ := choose_lt (α := REnt) key
  have hL : ((List.range len).map f).length = len := by simp
  refine ⟨(List.range len).map f, ⟨⟨by rw [nCells_length], some ⟨b, off, none⟩, cap, by rw [hL], fun _ => ⟨b, off, rfl, fun j u hj => ?_⟩⟩, fun x hx => ?_⟩, fun x hx => ?_⟩
  ·have hjl := (List.getElem?_eq_some_iff.1 hj).1
   rw [nCells_length, hL] at hjl
   have hi : j / 14 < len := by omega
   have e := nCells_at ((List.range len).map f) (j / 14) (j % 14) (f (j / 14)) (by rw [List.getElem?_map, List.getElem?_range hi]; rfl) (by omega)
   rw [show j / 14 * 14 + j % 14 = j by omega, hj] at e
   rw [show off + j = off + j / 14 * 14 + j % 14 by omega, (hf' (j / 14) hi).1 (j % 14) (by omega)]
   exact e.symm
  ·obtain ⟨i, hi, rfl⟩ := List.mem_map.1 hx
   exact (hf' i (List.mem_range.1 hi)).2.1
  ·obtain ⟨i, hi, rfl⟩ := List.mem_map.1 hx
   exact (hf' i (List.mem_range.1 hi)).2.2
theorem cellsHistT : Tryz.prog.cellsOf 26 = 5 := by kernel_rfl
theorem typesHist : Tryz.prog.cellTypes Tryz.prog.depth 26 = some [22, 23, 3, 3, 24] := by kernel_rfl
set_option maxRecDepth 100000 in
theorem open_hist {H : Type} {enc : TypeId × Value → H} {W : World} {r : Reach} {b0 : Nat} {v : Value} {d : DataW H} {ps : List MemPlace} (hval : Value.okWide Tryz.prog W r b0 26 v)
  (hd : DataW.Trod enc Tryz.prog W 0 (fun _ => true) true 26 v d ps) : ∃ (b x u : Value) (h : RHist), v = hiV b x h.fr h.num u ∧ HistR W b x u h ∧ CapOk u ∧ CWf h.base ∧ ∀ y ∈ h.list, y.Good := by
 simp only [Value.okWide, Tryz.underlying26] at hval
 obtain ⟨cs, rfl, hsz, ts, hts, -, hrow⟩ := hval
 rw [cellsHistT] at hsz
 rw [typesHist] at hts
 obtain rfl := Option.some.inj hts
 obtain ⟨l⟩ := cs
 obtain ⟨fuel, hf⟩ := hd
 obtain ⟨xs, m, _, _, _, hl, hg⟩ := DataW.trod_struct Tryz.underlying26 hf
 match l, hsz, xs, hl with
 | [c0, c1, c2, c3, c4], _, [y0, y1, y2, y3, y4], _ =>
  have g0 : DataW.trod enc Tryz.prog W 0 (fun _ => true) true m 22 [c0] = some y0 := hg 0 _ rfl
  have g1 : DataW.trod enc Tryz.prog W 0 (fun _ => true) true m 23 [c1] = some y1 := hg 1 _ rfl
  have g2 : DataW.trod enc Tryz.prog W 0 (fun _ => true) true m 3 [c2] = some y2 := hg 2 _ rfl
  have g3 : DataW.trod enc Tryz.prog W 0 (fun _ => true) true m 3 [c3] = some y3 := hg 3 _ rfl
  have g4 : DataW.trod enc Tryz.prog W 0 (fun _ => true) true m 24 [c4] = some y4 := hg 4 _ rfl
  obtain ⟨u0, hu0, k0⟩ := hrow 0 c0 rfl
  obtain rfl := Option.some.inj hu0
  obtain ⟨u1, hu1, k1⟩ := hrow 1 c1 rfl
  obtain rfl := Option.some.inj hu1
  obtain ⟨u4, hu4, k4⟩ := hrow 4 c4 rfl
  obtain rfl := Option.some.inj hu4
  have v0 : Value.okWide Tryz.prog W r b0 22 c0 := by simp only [Value.okWide, Tryz.underlying22]; exact k0
  have v1 : Value.okWide Tryz.prog W r b0 23 c1 := by simp only [Value.okWide, Tryz.underlying23]; exact k1
  have v4 : Value.okWide Tryz.prog W r b0 24 c4 := by simp only [Value.okWide, Tryz.underlying24]; exact k4
  obtain ⟨fr, e2, _, _⟩ := DataW.trod_int Tryz.underlying3 g2
  obtain ⟨num, e3, _, _⟩ := DataW.trod_int Tryz.underlying3 g3
  cases e2; cases e3
  obtain ⟨a0, n0, p0, rfl⟩ := okWide_slice Tryz.underlying22 v0
  obtain ⟨a1, n1, p1, rfl⟩ := okWide_slice Tryz.underlying23 v1
  obtain ⟨a4, n4, p4, rfl⟩ := okWide_slice Tryz.underlying24 v4
  obtain ⟨base, hb, hw⟩ := open_cells v0 (d := y0.1) (ps := y0.2) ⟨m, g0⟩
  obtain ⟨vec, hv, _, _⟩ := open_ints64 v1 (d := y1.1) (ps := y1.2) ⟨m, g1⟩
  obtain ⟨list, he, hgd⟩ := open_ents v4 (d := y4.1) (ps := y4.2) ⟨m, g4⟩
  exact ⟨_, _, _, ⟨base, vec, fr, num, list⟩, rfl, ⟨hb, hv, he⟩, okWide_cap Tryz.underlying24 v4, hw, hgd⟩
end Go.Proofs.YthekkjfaaedamaaGreatDoor
