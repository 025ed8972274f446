/- Texts of this proof, joined. -/
import Derived.Test.YthekkjfaaedamaaGreatDoorGRefOps
import Derived.Test.YthekkjfaaedamaaGreatDoorGRefSplit
import Derived.Test.YthekkjfaaedamaaGreatDoorGSpansPlain
import Derived.Test.YthekkjfaaedamaaGreatDoorGNameEq
import Derived.Test.YthekkjfaaedamaaGreatDoorGPlain
import Derived.Deep.RegionHeld
import Derived.Deep.Cut
import Derived.DataShut
import Derived.Deep.Heap
namespace Go.Proofs.YthekkjfaaedamaaGreatDoor
open Go.RowKit

structure REnt where
 op : ROp
 es : Int
 eq : Int
 ec : Int
 ek : Int
 ea : Int
 el : Int
 et : ByteArray
def REnt.edit (x : REnt) : PEdit := ⟨x.es, x.eq, x.ec, x.ek, x.ea, x.el, x.et.data.toList⟩
def REnt.vals (x : REnt) : List Value := x.op.vals ++ [.int .i64 x.es, .int .i64 x.eq, .int .i64 x.ec, .int .i64 x.ek, .int .i64 x.ea, .int .i64 x.el, .string x.et]
def nCells : List REnt → List Value
 | [] => []
 | c :: r => c.vals ++ nCells r
theorem nCells_length : ∀ l, (nCells l).length = l.length * 14
 | [] => rfl
 | c :: r => by
  show (c.vals ++ nCells r).length = (r.length + 1) * 14
  rw [List.length_append, nCells_length r, show c.vals.length = 14 from rfl]
  omega
theorem nCells_at : ∀ (l : List REnt) (i j : Nat) (c : REnt), l[i]? = some c → j < 14 → (nCells l)[i * 14 + j]? = c.vals[j]?
 | [], i, _, _, h, _ => by simp at h
 | d :: r, 0, j, c, h, hj => by
  obtain rfl : d = c := by simpa using h
  show (d.vals ++ nCells r)[0 * 14 + j]? = _
  rw [List.getElem?_append_left (by show 0 * 14 + j < 14; omega), show 0 * 14 + j = j by omega]
 | d :: r, i + 1, j, c, h, hj => by
  show (d.vals ++ nCells r)[(i + 1) * 14 + j]? = _
  rw [List.getElem?_append_right (by show 14 ≤ (i + 1) * 14 + j; omega), show (i + 1) * 14 + j - d.vals.length = i * 14 + j by show (i + 1) * 14 + j - 14 = _; omega]
  exact nCells_at r i j c (by simpa using h) hj
def EntsR (W : World) (v : Value) (l : List REnt) : Prop := RowR 14 W v l.length (nCells l) ∧ ∀ x ∈ l, SpAt W x.op.sp x.op.xs
theorem EntsR.below {W W' : World} {v : Value} {l : List REnt} (h : EntsR W v l) (hb : Below W.heap.size W W') : EntsR W' v l := ⟨h.1.below hb, fun x hx => (h.2 x hx).below hb⟩
theorem EntsR.shape {W : World} {v : Value} {l : List REnt} (h : EntsR W v l) : ∃ ao cap, v = .slice ao l.length cap := by
 obtain ⟨⟨_, ao, cap, e, _⟩, _⟩ := h
 exact ⟨ao, cap, e⟩
theorem EntsR.at {W : World} {v : Value} {l : List REnt} (h : EntsR W v l) {i : Nat} {x : REnt} (hi : l[i]? = some x) : ∃ b off cap, v = .slice (some ⟨b, off, none⟩) l.length cap ∧
  (W.cell? ⟨b, off + i * 14, none⟩ = some (.int .i64 x.op.site) ∧ W.cell? ⟨b, off + i * 14 + 1, none⟩ = some (.int .i64 x.op.seq) ∧
  W.cell? ⟨b, off + i * 14 + 2, none⟩ = some (.int .i64 x.op.num) ∧ W.cell? ⟨b, off + i * 14 + 3, none⟩ = some (.int .i64 x.op.kind) ∧ W.cell? ⟨b, off + i * 14 + 4, none⟩ = some (.int .i64 x.op.pl) ∧
  W.cell? ⟨b, off + i * 14 + 5, none⟩ = some (.string x.op.text) ∧ W.cell? ⟨b, off + i * 14 + 6, none⟩ = some x.op.sp) ∧
  (W.cell? ⟨b, off + i * 14 + 7, none⟩ = some (.int .i64 x.es) ∧ W.cell? ⟨b, off + i * 14 + 8, none⟩ = some (.int .i64 x.eq) ∧ W.cell? ⟨b, off + i * 14 + 9, none⟩ = some (.int .i64 x.ec) ∧
  W.cell? ⟨b, off + i * 14 + 10, none⟩ = some (.int .i64 x.ek) ∧ W.cell? ⟨b, off + i * 14 + 11, none⟩ = some (.int .i64 x.ea) ∧ W.cell? ⟨b, off + i * 14 + 12, none⟩ = some (.int .i64 x.el) ∧ W.cell? ⟨b, off + i * 14 + 13, none⟩ = some (.string x.et)) := by
 obtain ⟨⟨_, ao, cap, rfl, h2⟩, _⟩ := h
 have hl := (List.getElem?_eq_some_iff.1 hi).1
 obtain ⟨b, off, rfl, hc⟩ := h2 (by omega)
 have e : ∀ j, j < 14 → W.cell? ⟨b, off + i * 14 + j, none⟩ = x.vals[j]? := fun j hj => by
  have q := nCells_at l i j x hi hj
  have hlt : j < x.vals.length := hj
  rw [List.getElem?_eq_getElem hlt] at q ⊢
  rw [Nat.add_assoc]
  exact hc _ _ q
 exact ⟨b, off, cap, rfl, ⟨e 0 (by decide), e 1 (by decide), e 2 (by decide), e 3 (by decide), e 4 (by decide), e 5 (by decide), e 6 (by decide)⟩, e 7 (by decide), e 8 (by decide), e 9 (by decide), e 10 (by decide), e 11 (by decide), e 12 (by decide), e 13 (by decide)⟩
theorem EntsR.mem {W : World} {v : Value} {l : List REnt} (h : EntsR W v l) {i : Nat} {x : REnt} (hi : l[i]? = some x) : SpAt W x.op.sp x.op.xs := h.2 x (List.mem_of_getElem? hi)
theorem getN_some {l : List REnt} {k : Nat} (h : k < l.length) : ∃ c, l[k]? = some c := ⟨l[k], List.getElem?_eq_getElem h⟩
structure RHist where
 base : List PCell
 vec : List Int
 fr : Int
 num : Int
 list : List REnt
def hiV (b v : Value) (fr num : Int) (l : Value) : Value := .agg #[b, v, .int .i64 fr, .int .i64 num, l]
structure HistR (W : World) (b v l : Value) (h : RHist) : Prop where
 base : CAt W b h.base
 vec : Reads64 W v h.vec
 list : EntsR W l h.list
theorem HistR.below {W W' : World} {b v l : Value} {h : RHist} (x : HistR W b v l h) (hb : Below W.heap.size W W') : HistR W' b v l h := ⟨x.base.below hb, x.vec.below hb, x.list.below hb⟩
theorem row5 {W : World} {g : Nat} {ty : TypeId} {x0 x1 x2 x3 x4 : Value} (h : W.heap[g]? = some (.cells #[x0, x1, x2, x3, x4] ty (0, 0))) :
  (W.cell? ⟨g, 0, none⟩ = some x0 ∧ W.cell? ⟨g, 1, none⟩ = some x1 ∧ W.cell? ⟨g, 2, none⟩ = some x2 ∧ W.cell? ⟨g, 3, none⟩ = some x3 ∧ W.cell? ⟨g, 4, none⟩ = some x4) ∧
  (W.frozen? ⟨g, 0, none⟩ = false ∧ W.frozen? ⟨g, 1, none⟩ = false ∧ W.frozen? ⟨g, 2, none⟩ = false ∧ W.frozen? ⟨g, 3, none⟩ = false ∧ W.frozen? ⟨g, 4, none⟩ = false) :=
 ⟨⟨cell_of_row _ _ 0 _ _ _ h, cell_of_row _ _ 1 _ _ _ h, cell_of_row _ _ 2 _ _ _ h, cell_of_row _ _ 3 _ _ _ h, cell_of_row _ _ 4 _ _ _ h⟩,
  frozen_of_row _ _ 0 _ _ h, frozen_of_row _ _ 1 _ _ h, frozen_of_row _ _ 2 _ _ h, frozen_of_row _ _ 3 _ _ h, frozen_of_row _ _ 4 _ _ h⟩
end Go.Proofs.YthekkjfaaedamaaGreatDoor

namespace Go.Proofs.YthekkjfaaedamaaGreatDoor
open Go.RowKit

theorem row14 {W : World} {g : Nat} {ty : TypeId} {x0 x1 x2 x3 x4 x5 x6 x7 x8 x9 x10 x11 x12 x13 : Value} (h : W.heap[g]? = some (.cells #[x0, x1, x2, x3, x4, x5, x6, x7, x8, x9, x10, x11, x12, x13] ty (0, 0))) :
  (W.cell? ⟨g, 0, none⟩ = some x0 ∧ W.cell? ⟨g, 1, none⟩ = some x1 ∧ W.cell? ⟨g, 2, none⟩ = some x2 ∧ W.cell? ⟨g, 3, none⟩ = some x3 ∧ W.cell? ⟨g, 4, none⟩ = some x4 ∧ W.cell? ⟨g, 5, none⟩ = some x5 ∧ W.cell? ⟨g, 6, none⟩ = some x6) ∧
  (W.cell? ⟨g, 7, none⟩ = some x7 ∧ W.cell? ⟨g, 8, none⟩ = some x8 ∧ W.cell? ⟨g, 9, none⟩ = some x9 ∧ W.cell? ⟨g, 10, none⟩ = some x10 ∧ W.cell? ⟨g, 11, none⟩ = some x11 ∧ W.cell? ⟨g, 12, none⟩ = some x12 ∧ W.cell? ⟨g, 13, none⟩ = some x13) :=
 ⟨⟨cell_of_row _ _ 0 _ _ _ h, cell_of_row _ _ 1 _ _ _ h, cell_of_row _ _ 2 _ _ _ h, cell_of_row _ _ 3 _ _ _ h, cell_of_row _ _ 4 _ _ _ h, cell_of_row _ _ 5 _ _ _ h, cell_of_row _ _ 6 _ _ _ h⟩,
  cell_of_row _ _ 7 _ _ _ h, cell_of_row _ _ 8 _ _ _ h, cell_of_row _ _ 9 _ _ _ h, cell_of_row _ _ 10 _ _ _ h, cell_of_row _ _ 11 _ _ _ h, cell_of_row _ _ 12 _ _ _ h, cell_of_row _ _ 13 _ _ _ h⟩
def MayPost (r : Bool) (w : World) (e : Ending) (w' : World) : Prop := e = .returned (.bool r) ∧ Below w.heap.size w w'
theorem hrow_al {W : World} {i : Nat} {o : Obj} (h : W.heap[i]? = some o) (x : Obj) : (W.alloc x).heap[i]? = some o := (Below.heap_alloc _ _ _ (Array.getElem?_eq_some_iff.1 h).1).trans h
end Go.Proofs.YthekkjfaaedamaaGreatDoor

namespace Go.Proofs.YthekkjfaaedamaaGreatDoor
open Go.RowKit

end Go.Proofs.YthekkjfaaedamaaGreatDoor

namespace Go.Proofs.YthekkjfaaedamaaGreatDoor
open Go.RowKit

def OpsPost (rs : List ROp) (w : World) (e : Ending) (w' : World) : Prop := ∃ v, e = .returned v ∧ w'.ownsRow w.heap.size 45 7 v rs.length (oCells rs) ∧ Below w.heap.size w w'
set_option maxRecDepth 100000 in
set_option maxHeartbeats 8000000 in
theorem rHOps_any (b v u : Value) (fr num : Int) (h : RHist) (w : World) (hR : HistR w b v u h) (hn : h.list.length ≤ 1000000) :
  Calls Tryz.prog 21 #[hiV b v fr num u] w (OpsPost (h.list.map REnt.op) w) := by
 obtain ⟨i0, hi, hz0, hz1, hz2⟩ := info_parts infoOpC
 obtain ⟨bo, bc, hb0, -, -⟩ := hR.base.shape
 obtain ⟨vo, vc, hv0, -⟩ := id hR.vec
 obtain ⟨ao, cap, hu0⟩ := hR.list.shape
 have HA := Lib.hid hR.list
 subst hb0 hv0 hu0
 obtain ⟨l, hl⟩ : ∃ l, h.list = l := ⟨_, rfl⟩
 rw [hl] at HA hn ⊢
 obtain ⟨N, hN⟩ : ∃ N, l.length = N := ⟨_, rfl⟩
 have HN := Lib.hid hN
 rw [hN] at hn ⊢
 obtain ⟨M, hM⟩ : ∃ M, h.base.length = M := ⟨_, rfl⟩
 obtain ⟨V, hV⟩ : ∃ V, h.vec.length = V := ⟨_, rfl⟩
 rw [hM, hV]
 have HBX := Lib.hid (heap_alloc_new w (.cells #[.slice bo M bc, .slice vo V vc, .int .i64 fr, .int .i64 num, .slice ao N cap] 26))
 have HB0 := Lib.hid ((Below.refl w.heap.size w).alloc (Nat.le_refl _) (.cells #[.slice bo M bc, .slice vo V vc, .int .i64 fr, .int .i64 num, .slice ao N cap] 26))
 clear hR hl hN hM hV
 unfold hiV
 go_enter Tryz.func21, Tryz.ntmps21
 go_wp2
 go_loopw [3, 4] (fun s i wr => ∃ k : Nat, i = .int .i64 k ∧ k ≤ N ∧ RowKit.Hid (wr.ownsRow w.heap.size 45 7 s k (oCells ((l.take k).map REnt.op))) ∧ RowKit.Hid (wr.heap[w.heap.size]? = some (.cells #[.slice bo M bc, .slice vo V vc, .int .i64 fr, .int .i64 num, .slice ao N cap] 26 (0, 0))) ∧ RowKit.Hid (Below w.heap.size w wr)) (fun _ i _ => N - (intOf i).toNat)
 case atStart => exact ⟨0, rfl, Nat.zero_le _, Lib.hid (World.ownsRow_nil _ _ _ _), HBX, HB0⟩
 case round =>
  obtain ⟨k, rfl, hk, ho, hx, hb⟩ := hrel
  obtain ⟨⟨-, -, -, -, d4⟩, -⟩ := row5 hx.out
  rcases Nat.lt_or_ge k N with hlt | hge
  ·obtain ⟨x, hxx⟩ := getN_some (l := l) (k := k) (by rw [HN.out]; exact hlt)
   have hA := HA.out.below hb.out
   obtain ⟨b, off, cp, hv, ⟨c0, c1, c2, c3, c4, c5, c6⟩, -⟩ := hA.at hxx
   rw [HN.out] at hv
   cases hv
   have hi0 : (0 : Int) ≤ (k : Int) ∧ (k : Int) < (N : Int) := ⟨by omega, by omega⟩
   have HTK := Lib.hid (show (l.take (k + 1)).map REnt.op = (l.take k).map REnt.op ++ [x.op] by rw [List.take_add_one, hxx, List.map_append]; rfl)
   obtain ⟨sa, sc, hsp, -⟩ := hA.mem hxx
   obtain ⟨⟨s, q, n, kd, pl, tx, sp, xs⟩, es, eq, ec, ek, ea, el, et⟩ := x
   dsimp only at c0 c1 c2 c3 c4 c5 c6 hsp HTK
   subst hsp
   have HONE := Lib.hid (one_row wr ⟨s, q, n, kd, pl, tx, .slice sa xs.length sc, xs⟩ 45)
   dsimp only at HONE
   have h1' : k + 1 ≤ maxLen := by unfold maxLen; omega
   have h2' : (k + 1) * 80 ≤ 140737488355328 := by omega
   have h3' : w.heap.size ≤ (wr.alloc (.cells #[.int .i64 s, .int .i64 q, .int .i64 n, .int .i64 kd, .int .i64 pl, .string tx, .slice sa xs.length sc] 45)).heap.size := by have := hb.out.size; simp; omega
   have HB3 := Lib.hid (hb.out.alloc hb.out.size (.cells #[.int .i64 s, .int .i64 q, .int .i64 n, .int .i64 kd, .int .i64 pl, .string tx, .slice sa xs.length sc] 45))
   have HO3 := Lib.hid (own_up ho.out ((Below.refl wr.heap.size wr).alloc (Nat.le_refl _) (.cells #[.int .i64 s, .int .i64 q, .int .i64 n, .int .i64 kd, .int .i64 pl, .string tx, .slice sa xs.length sc] 45)))
   have HX3 := Lib.hid (row_keep ((Below.refl wr.heap.size wr).alloc (Nat.le_refl _) (.cells #[.int .i64 s, .int .i64 q, .int .i64 n, .int .i64 kd, .int .i64 pl, .string tx, .slice sa xs.length sc] 45)) hx.out)
   obtain ⟨z1, z2, hz, -⟩ := id (RowR.of_own ho.out).2
   subst hz
   clear hA hxx ho hx hb
   go_wp2_with (at_builtin; go_must (refine wpList_app_any rfl _ _ 61 rfl w.heap.size 45 i0 _ 7 80 Tryz.underlying61 hi hz0 hz1 hz2 rfl (by decide) _ k _ rfl HO3.out _ 1 _ rfl HONE.out (oCells_1c _ (fun y hy => by rw [List.mem_singleton.1 hy]; rfl)) h1' h2' h3' ?_; intro v2 w3 ho3 hg3; have HO4 := Lib.hid ho3; have HG := Lib.hid hg3; clear ho3 hg3))
   have HX4 := Lib.hid (typed_keep HX3.out HO3.out HG.out (by decide))
   have HBE := Lib.hid (HB3.out.grown HG.out h3' (own_ge HO3.out))
   clear HG HO3 HB3 HX3 h1' h2' h3' HONE
   go_roundw
   case rel => exact ⟨k + 1, by go_num, by omega, by rw [HTK.out, oCells_append]; exact HO4, HX4, HBE⟩
   case measure => simp [intOf]; omega
  ·obtain rfl : N = k := by omega
   have HP := Lib.hid (show OpsPost (l.map REnt.op) w (.returned u3) wr from ⟨_, rfl, by
    have := ho.out
    rw [List.take_of_length_le (by rw [HN.out]; exact Nat.le_refl _)] at this
    rw [List.length_map, HN.out]
    exact this, hb.out⟩)
   clear ho hb
   go_wp2
   go_ret
   exact HP.out
end Go.Proofs.YthekkjfaaedamaaGreatDoor

namespace Go.Proofs.YthekkjfaaedamaaGreatDoor
open Go.RowKit

set_option maxRecDepth 100000 in
set_option maxHeartbeats 2000000 in
theorem opGreat_any (s q n k a : Int) (t : ByteArray) (x : Nat) (ao : Option Addr) (cap : Nat) (w : World) :
  Calls Tryz.prog 15 #[opV s q n k a t (.slice ao x cap)] w fun e w' => e = .returned (.bool (decide ((40 : Int) < x) || decide ((1000 : Int) < t.size))) ∧ Below w.heap.size w w' := by
 have hbx := OBox.new s q n k a t (.slice ao x cap) w 45
 have hB := hbx.2.2.2.2.2.2.2
 unfold opV
 go_enter Tryz.func15, Tryz.ntmps15
 go_wp2
 all_goals
  go_ret
  exact ⟨rfl, hB⟩
def nGreat (x : REnt) : Bool := (decide ((40 : Int) < x.op.xs.length) || decide ((1000 : Int) < x.op.text.size)) || decide ((1000 : Int) < x.et.size)
def hGreat (h : RHist) : Bool := decide (60 < h.base.length) || (decide (30 < h.vec.length) || (decide (14 < h.list.length) || h.list.any nGreat))
theorem hGreat_no {h : RHist} (hg : hGreat h = false) : h.base.length ≤ 60 ∧ h.vec.length ≤ 30 ∧ h.list.length ≤ 14 ∧ ∀ x ∈ h.list, x.op.xs.length ≤ 40 ∧ x.op.text.size ≤ 1000 ∧ x.et.size ≤ 1000 := by
 unfold hGreat at hg
 simp only [Bool.or_eq_false_iff, decide_eq_false_iff_not, List.any_eq_false] at hg
 obtain ⟨g1, g2, g3, g4⟩ := hg
 refine ⟨by omega, by omega, by omega, fun x hx => ?_⟩
 have := g4 x hx
 unfold nGreat at this
 simp only [Bool.or_eq_true, decide_eq_true_eq, not_or] at this
 omega
theorem nGreat_next {l : List REnt} {k : Nat} {x : REnt} (h : l[k]? = some x) : (l.take (k + 1)).any nGreat = ((l.take k).any nGreat || nGreat x) := by
 rw [List.take_add_one, h, List.any_append]
 simp
set_option maxRecDepth 100000 in
set_option maxHeartbeats 8000000 in
theorem hGreat_any (b v u : Value) (fr num : Int) (h : RHist) (w : World) (hR : HistR w b v u h) :
  Calls Tryz.prog 5 #[hiV b v fr num u] w fun e w' => e = .returned (.bool (hGreat h)) ∧ Below w.heap.size w w' := by
 obtain ⟨bo, bc, hb0, -, -⟩ := hR.base.shape
 obtain ⟨vo, vc, hv0, -⟩ := id hR.vec
 obtain ⟨ao, cap, hu0⟩ := hR.list.shape
 have HA := Lib.hid hR.list
 subst hb0 hv0 hu0
 unfold hGreat
 obtain ⟨l, hl⟩ : ∃ l, h.list = l := ⟨_, rfl⟩
 rw [hl] at HA ⊢
 obtain ⟨N, hN⟩ : ∃ N, l.length = N := ⟨_, rfl⟩
 have HN := Lib.hid hN
 obtain ⟨M, hM⟩ : ∃ M, h.base.length = M := ⟨_, rfl⟩
 obtain ⟨V, hV⟩ : ∃ V, h.vec.length = V := ⟨_, rfl⟩
 rw [hM, hV, hN]
 obtain ⟨G, hG⟩ : ∃ G, l.any nGreat = G := ⟨_, rfl⟩
 have HG := Lib.hid hG
 rw [hG]
 have HX := Lib.hid (heap_alloc_new w (.cells #[.slice bo M bc, .slice vo V vc, .int .i64 fr, .int .i64 num, .slice ao N cap] 26))
 have HB := Lib.hid ((Below.refl w.heap.size w).alloc (Nat.le_refl _) (.cells #[.slice bo M bc, .slice vo V vc, .int .i64 fr, .int .i64 num, .slice ao N cap] 26))
 clear hR hl hN hM hV hG
 unfold hiV
 obtain ⟨⟨d0, d1, d2, d3, d4⟩, -⟩ := row5 HX.out
 by_cases b0 : 60 < M
 ·rw [decide_eq_true b0, Bool.true_or]
  have b1 : (60 : Int) < (M : Int) := by omega
  go_enter Tryz.func5, Tryz.ntmps5
  go_wp2
  go_ret
  exact ⟨rfl, HB.out⟩
 rw [decide_eq_false b0, Bool.false_or]
 have b1 : ¬ (60 : Int) < (M : Int) := by omega
 clear b0
 by_cases b2 : 30 < V
 ·rw [decide_eq_true b2, Bool.true_or]
  have b3 : (30 : Int) < (V : Int) := by omega
  go_enter Tryz.func5, Tryz.ntmps5
  go_wp2
  go_ret
  exact ⟨rfl, HB.out⟩
 rw [decide_eq_false b2, Bool.false_or]
 have b3 : ¬ (30 : Int) < (V : Int) := by omega
 clear b2
 by_cases b4 : 14 < N
 ·rw [decide_eq_true b4, Bool.true_or]
  have b5 : (14 : Int) < (N : Int) := by omega
  go_enter Tryz.func5, Tryz.ntmps5
  go_wp2
  go_ret
  exact ⟨rfl, HB.out⟩
 rw [decide_eq_false b4, Bool.false_or]
 have b5 : ¬ (14 : Int) < (N : Int) := by omega
 clear b4
 go_enter Tryz.func5, Tryz.ntmps5
 go_wp2
 go_loopw [3] (fun i wr => ∃ k : Nat, i = .int .i64 k ∧ k ≤ N ∧ RowKit.Hid ((l.take k).any nGreat = false) ∧ RowKit.Hid (wr.heap[w.heap.size]? = some (.cells #[.slice bo M bc, .slice vo V vc, .int .i64 fr, .int .i64 num, .slice ao N cap] 26 (0, 0))) ∧ RowKit.Hid (Below w.heap.size w wr)) (fun i _ => N - (intOf i).toNat)
 case atStart => exact ⟨0, rfl, Nat.zero_le _, Lib.hid rfl, HX, HB⟩
 clear d0 d1 d2 d3 d4 HX HB
 case round =>
  obtain ⟨k, rfl, hk, hg, hx, hb⟩ := hrel
  obtain ⟨⟨-, -, -, -, d4⟩, -⟩ := row5 hx.out
  rcases Nat.lt_or_ge k N with hlt | hge
  ·obtain ⟨x, hxx⟩ := getN_some (l := l) (k := k) (by rw [HN.out]; exact hlt)
   have hA := HA.out.below hb.out
   obtain ⟨b, off, cp, hv, ⟨c0, c1, c2, c3, c4, c5, c6⟩, -, -, -, -, -, -, c13⟩ := hA.at hxx
   rw [HN.out] at hv
   cases hv
   have hi0 : (0 : Int) ≤ (k : Int) ∧ (k : Int) < (N : Int) := ⟨by omega, by omega⟩
   have HNX := Lib.hid (nGreat_next hxx)
   have HGT := Lib.hid (fun (g : nGreat x = true) => (show G = true by rw [← HG.out, List.any_eq_true]; exact ⟨x, List.mem_of_getElem? hxx, g⟩))
   obtain ⟨sa, sc, hsp, -⟩ := hA.mem hxx
   obtain ⟨⟨s, q, n, kd, pl, tx, sp, xs⟩, es, eq, ec, ek, ea, el, et⟩ := x
   dsimp only at c0 c1 c2 c3 c4 c5 c6 c13 hsp
   subst hsp
   have hOG := fun W => opGreat_any s q n kd pl tx xs.length sa sc W
   obtain ⟨g1, hg1⟩ : ∃ g1, (decide ((40 : Int) < xs.length) || decide ((1000 : Int) < tx.size)) = g1 := ⟨_, rfl⟩
   simp only [hg1] at hOG
   unfold opV at hOG
   have HOG := Lib.hid hOG
   have HNG := Lib.hid (show nGreat ⟨⟨s, q, n, kd, pl, tx, .slice sa xs.length sc, xs⟩, es, eq, ec, ek, ea, el, et⟩ = (g1 || decide ((1000 : Int) < et.size)) from by rw [← hg1]; rfl)
   clear hA hxx hOG hg1
   go_wp2_with fail
   refine (HOG.out _).mono ?_
   rintro e w2 ⟨rfl, hb2⟩
   have HX2 := Lib.hid (row_keep hb2 hx.out)
   have HB2 := Lib.hid (hb.out.trans (hb2.mono hb.out.size))
   have e13 := cell_stays hb2 c13
   clear c0 c1 c2 c3 c4 c5 c6 c13 d4 hx hb hb2
   obtain ⟨⟨-, -, -, -, d4⟩, -⟩ := row5 HX2.out
   cases g1 with
   | true =>
    have HP := Lib.hid (HGT.out (by rw [HNG.out]; rfl))
    go_wp2
    go_ret
    exact ⟨by rw [HP.out]; rfl, HB2.out⟩
   | false =>
    by_cases h1000 : (1000 : Int) < et.size
    ·have HP := Lib.hid (HGT.out (by rw [HNG.out, decide_eq_true h1000]; rfl))
     go_wp2
     go_ret
     exact ⟨by rw [HP.out]; rfl, HB2.out⟩
    ·have HNN := Lib.hid (show nGreat ⟨⟨s, q, n, kd, pl, tx, .slice sa xs.length sc, xs⟩, es, eq, ec, ek, ea, el, et⟩ = false by rw [HNG.out, decide_eq_false h1000]; rfl)
     go_wp2
     go_roundw
     case rel => exact ⟨k + 1, by go_num, by omega, by rw [HNX.out, hg.out, HNN.out]; exact Lib.hid rfl, HX2, HB2⟩
     case measure => simp [intOf]; omega
  ·obtain rfl : N = k := by omega
   have HP := Lib.hid (show G = false by
    have := hg.out
    rw [List.take_of_length_le (by rw [HN.out]; exact Nat.le_refl _)] at this
    rw [← HG.out]
    exact this)
   go_wp2
   go_ret
   exact ⟨by rw [HP.out]; rfl, hb.out⟩
end Go.Proofs.YthekkjfaaedamaaGreatDoor

namespace Go.Proofs.YthekkjfaaedamaaGreatDoor
open Go.RowKit

end Go.Proofs.YthekkjfaaedamaaGreatDoor

namespace Go.Proofs.YthekkjfaaedamaaGreatDoor
open Go.RowKit

end Go.Proofs.YthekkjfaaedamaaGreatDoor

namespace Go.Proofs.YthekkjfaaedamaaGreatDoor
open Go.RowKit

def replayC (l : List PCell) (os : List POp) : List PCell := os.foldl runC l
theorem replayC_next {l : List PCell} {os : List POp} {k : Nat} {o : POp} (h : os[k]? = some o) : replayC l (os.take (k + 1)) = runC (replayC l (os.take k)) o := by
 unfold replayC
 rw [List.take_add_one, h, List.foldl_append]
 rfl
theorem replayC_length : ∀ (os : List POp) (l : List PCell) (m : Int), runO os l.length = some m → ((replayC l os).length : Int) = m
 | [], _, _, h => Option.some.inj h
 | o :: r, l, m, h => by
  have h' : (if oMay o l.length = true then runO r (l.length + oAdds o) else none) = some m := h
  split at h'
  ·rename_i g
   rw [← runC_length ((oMay_iff _ _).1 g)] at h'
   exact replayC_length r (runC l o) m h'
  ·cases h'
theorem runO_some_take {os : List POp} {size m : Int} (h : runO os size = some m) (k : Nat) : ∃ p, runO (os.take k) size = some p := by
 cases hr : runO (os.take k) size with
 | none => rw [runO_none hr] at h; cases h
 | some p => exact ⟨p, rfl⟩
theorem runO_step {os : List POp} {k : Nat} {o : POp} {size m : Int} (h : runO os size = some m) (ho : os[k]? = some o) : ∃ p, runO (os.take k) size = some p ∧ OMay o p := by
 obtain ⟨p, hp⟩ := runO_some_take h k
 obtain ⟨q, hq⟩ := runO_some_take h (k + 1)
 rw [runO_take ho, hp, Option.bind_some] at hq
 split at hq
 ·rename_i g
  exact ⟨p, hp, (oMay_iff _ _).1 g⟩
 ·cases hq
def CellsAPost (l : List PCell) (w : World) (e : Ending) (w' : World) : Prop := ∃ v, e = .returned v ∧ CAt w' v l ∧ Below w.heap.size w w'
set_option maxRecDepth 100000 in
set_option maxHeartbeats 8000000 in
theorem rReplay_any (b v u : Value) (fr num : Int) (h : RHist) (k : Nat) (w : World) (hR : HistR w b v u h) (hn : h.list.length ≤ 1000000) (hk : k ≤ h.list.length) (hf : ∀ x ∈ h.list, x.op.text.size ≤ 1000000 ∧ x.op.xs.length ≤ 1000000) {m : Int} (hm : runO (h.list.map fun x => x.op.op) h.base.length = some m) :
  Calls Tryz.prog 11 #[hiV b v fr num u, .int .i64 k] w (CellsAPost (replayC h.base ((h.list.map fun x => x.op.op).take k)) w) := by
 obtain ⟨bo, bc, hb0, -, -⟩ := hR.base.shape
 obtain ⟨vo, vc, hv0, -⟩ := id hR.vec
 obtain ⟨ao, cap, hu0⟩ := hR.list.shape
 have HA := Lib.hid hR.list
 have HC := Lib.hid hR.base
 subst hb0 hv0 hu0
 obtain ⟨l, hl⟩ : ∃ l, h.list = l := ⟨_, rfl⟩
 obtain ⟨B, hB⟩ : ∃ B, h.base = B := ⟨_, rfl⟩
 rw [hl] at HA hn hk hm hf ⊢
 rw [hB] at HC hm ⊢
 obtain ⟨N, hN⟩ : ∃ N, l.length = N := ⟨_, rfl⟩
 have HN := Lib.hid hN
 rw [hN] at hn hk ⊢
 obtain ⟨M, hM⟩ : ∃ M, B.length = M := ⟨_, rfl⟩
 obtain ⟨V, hV⟩ : ∃ V, h.vec.length = V := ⟨_, rfl⟩
 rw [hV]
 have HM := Lib.hid hM
 rw [hM]
 have HMM := Lib.hid hm
 have HF := Lib.hid hf
 have HBX := Lib.hid (heap_alloc_new w (.cells #[.slice bo M bc, .slice vo V vc, .int .i64 fr, .int .i64 num, .slice ao N cap] 26))
 have HB0 := Lib.hid ((Below.refl w.heap.size w).alloc (Nat.le_refl _) (.cells #[.slice bo M bc, .slice vo V vc, .int .i64 fr, .int .i64 num, .slice ao N cap] 26))
 have HC0 := Lib.hid (HC.out.below ((Below.refl w.heap.size w).alloc (Nat.le_refl _) (.cells #[.slice bo M bc, .slice vo V vc, .int .i64 fr, .int .i64 num, .slice ao N cap] 26)))
 clear hR hl hN hM hV hB hm hf
 unfold hiV
 obtain ⟨⟨d0, d1, d2, d3, d4⟩, -⟩ := row5 HBX.out
 go_enter Tryz.func11, Tryz.ntmps11
 go_wp2
 go_loopw [5, 6] (fun s i wr => ∃ j : Nat, i = .int .i64 j ∧ j ≤ k ∧ RowKit.Hid (CAt wr s (replayC B ((l.map fun x => x.op.op).take j))) ∧ RowKit.Hid (wr.heap[w.heap.size]? = some (.cells #[.slice bo M bc, .slice vo V vc, .int .i64 fr, .int .i64 num, .slice ao N cap] 26 (0, 0))) ∧ RowKit.Hid (Below w.heap.size w wr)) (fun _ i _ => k - (intOf i).toNat)
 case atStart => exact ⟨0, rfl, Nat.zero_le _, by rw [HM.out] at HC0; exact HC0, HBX, HB0⟩
 case round =>
  obtain ⟨j, rfl, hj, hc, hx, hbw⟩ := hrel
  clear d0 d1 d2 d3 d4
  obtain ⟨⟨-, -, -, -, d4⟩, -⟩ := row5 hx.out
  rcases Nat.lt_or_ge j k with hlt | hge
  ·obtain ⟨x, hxx⟩ := getN_some (l := l) (k := j) (by rw [HN.out]; omega)
   have hA := HA.out.below hbw.out
   obtain ⟨b, off, cp, hv, ⟨c0, c1, c2, c3, c4, c5, c6⟩, -⟩ := hA.at hxx
   rw [HN.out] at hv
   cases hv
   have hi0 : (0 : Int) ≤ (j : Int) ∧ (j : Int) < (N : Int) := ⟨by omega, by omega⟩
   have hox : (l.map fun x => x.op.op)[j]? = some x.op.op := by rw [List.getElem?_map, hxx]; rfl
   obtain ⟨p, hp, hom⟩ := runO_step HMM.out hox
   have hlen := replayC_length _ B p hp
   have hfx := HF.out x (List.mem_of_getElem? hxx)
   have HNX := Lib.hid (replayC_next (l := B) hox)
   obtain ⟨sC, cC, hsC, -, -⟩ := hc.out.shape
   have hroom := hom.1
   have hRn := rRun_any x.op.site x.op.seq x.op.num x.op.kind x.op.pl x.op.text x.op.sp x.op.xs u5 (replayC B ((l.map fun x => x.op.op).take j)) wr hc.out (by omega) (hA.mem hxx) hfx.1 hfx.2 (by rw [hlen]; exact hom)
   obtain ⟨sa, sc, hsp, -⟩ := hA.mem hxx
   rw [hsp] at hRn c6
   rw [hsC] at hRn
   unfold opV at hRn
   have HRN := Lib.hid hRn
   subst hsC
   clear hA hxx hRn hlen hp hom hfx hox hroom hsp hc
   go_wp2_with fail
   refine HRN.out.mono ?_
   rintro e w2 ⟨v2, rfl, hv2, -, hb2⟩
   have HV2 := Lib.hid hv2
   have HX2 := Lib.hid (row_keep hb2 hx.out)
   have HB2 := Lib.hid (hbw.out.trans (hb2.mono hbw.out.size))
   clear hv2 hb2 hx hbw HRN
   go_wp2
   go_roundw
   case rel => exact ⟨j + 1, by go_num, by omega, by rw [HNX.out]; exact HV2, HX2, HB2⟩
   case measure => simp [intOf]; omega
  ·obtain rfl : k = j := by omega
   have HP := Lib.hid (show CellsAPost (replayC B ((l.map fun x => x.op.op).take k)) w (.returned u5) wr from ⟨_, rfl, hc.out, hbw.out⟩)
   clear hc hbw
   go_wp2
   go_ret
   exact HP.out
end Go.Proofs.YthekkjfaaedamaaGreatDoor
