/- Texts of this proof, joined. -/
import Derived.Test.YthekkjfaaedamaaGreatDoorGPlain
import Derived.Test.YthekkjfaaedamaaGreatDoorGReads64
import Derived.Test.YthekkjfaaedamaaGreatDoorGNameEq
import Derived.Laws.StructEq
import Derived.Laws.ResultCell
import Derived.Laws.Rows
import Derived.Deep.QuietTactic
import Derived.BigQuiet
import Derived.Laws.BitsAllLaws
import Derived.WalkKit
import Derived.WalkSpells
import Derived.WalkLawsBesides
import Derived.Lib.Hide
import Derived.Deep.WholeRow
import Derived.Deep.RegionHeld
import Derived.RangeFuncRecord
import Derived.Test.YthekkjfaaedamaaGreatDoorGSpansPlain
namespace Go.Proofs.YthekkjfaaedamaaGreatDoor
open Go.RowKit

def opV (s q n k a : Int) (t : ByteArray) (sp : Value) : Value := .agg #[.int .i64 s, .int .i64 q, .int .i64 n, .int .i64 k, .int .i64 a, .string t, sp]
def OBox (N : Nat) (s q n k a : Int) (t : ByteArray) (sp : Value) (w W : World) : Prop :=
 W.cell? ⟨N, 0, none⟩ = some (.int .i64 s) ∧ W.cell? ⟨N, 1, none⟩ = some (.int .i64 q) ∧ W.cell? ⟨N, 2, none⟩ = some (.int .i64 n) ∧ W.cell? ⟨N, 3, none⟩ = some (.int .i64 k) ∧
  W.cell? ⟨N, 4, none⟩ = some (.int .i64 a) ∧ W.cell? ⟨N, 5, none⟩ = some (.string t) ∧ W.cell? ⟨N, 6, none⟩ = some sp ∧ Below N w W
theorem OBox.keep {N : Nat} {s q n k a : Int} {t : ByteArray} {sp : Value} {w W W' : World} (h : OBox N s q n k a t sp w W) (hb : Below W.heap.size W W') : OBox N s q n k a t sp w W' := by
 obtain ⟨h0, h1, h2, h3, h4, h5, h6, h7⟩ := h
 have hl : N < W.heap.size := World.block_lt_of_cell? W _ h0
 exact ⟨cell_stays hb h0, cell_stays hb h1, cell_stays hb h2, cell_stays hb h3, cell_stays hb h4, cell_stays hb h5, cell_stays hb h6, h7.trans (hb.mono (Nat.le_of_lt hl))⟩
theorem OBox.new (s q n k a : Int) (t : ByteArray) (sp : Value) (w : World) (ty : TypeId) : OBox w.heap.size s q n k a t sp w (w.alloc (.cells #[.int .i64 s, .int .i64 q, .int .i64 n, .int .i64 k, .int .i64 a, .string t, sp] ty)) := by
 have h := heap_alloc_new w (.cells #[.int .i64 s, .int .i64 q, .int .i64 n, .int .i64 k, .int .i64 a, .string t, sp] ty)
 exact ⟨cell_of_row _ _ 0 _ _ _ h, cell_of_row _ _ 1 _ _ _ h, cell_of_row _ _ 2 _ _ _ h, cell_of_row _ _ 3 _ _ _ h, cell_of_row _ _ 4 _ _ _ h, cell_of_row _ _ 5 _ _ _ h, cell_of_row _ _ 6 _ _ _ h, (Below.refl _ w).alloc (Nat.le_refl _) _⟩
theorem OBox.draws {N : Nat} {s q n k a : Int} {t : ByteArray} {sp : Value} {w W : World} (h : OBox N s q n k a t sp w W) (m : Nat) : OBox N s q n k a t sp w (W.drewN m) := ⟨h.1, h.2.1, h.2.2.1, h.2.2.2.1, h.2.2.2.2.1, h.2.2.2.2.2.1, h.2.2.2.2.2.2.1, below_draws h.2.2.2.2.2.2.2 m⟩
end Go.Proofs.YthekkjfaaedamaaGreatDoor

namespace Go.Proofs.YthekkjfaaedamaaGreatDoor
open Go.RowKit

theorem list_data (x : ByteArray) : x.toList = x.data.toList := by obtain ⟨⟨l⟩⟩ := x; simp
end Go.Proofs.YthekkjfaaedamaaGreatDoor

namespace Go.Proofs.YthekkjfaaedamaaGreatDoor
open Go.RowKit

end Go.Proofs.YthekkjfaaedamaaGreatDoor

namespace Go.Proofs.YthekkjfaaedamaaGreatDoor

end Go.Proofs.YthekkjfaaedamaaGreatDoor

namespace Go.Proofs.YthekkjfaaedamaaGreatDoor

end Go.Proofs.YthekkjfaaedamaaGreatDoor

namespace Go.Proofs.YthekkjfaaedamaaGreatDoor
open Go.RowKit

def RowC (sz : Nat) (W : World) (v : Value) (n : Nat) (cs : List Value) : Prop :=
 cs.length = n * sz ∧ ∃ ao cap, v = .slice ao n cap ∧ n ≤ cap ∧ cap ≤ maxLen ∧ (ao = none → cap = 0) ∧ ∀ ad, ao = some ad → ∃ b off, ad = ⟨b, off, none⟩ ∧ b < W.heap.size ∧ ∀ j u, cs[j]? = some u → W.cell? ⟨b, off + j, none⟩ = some u
theorem RowC.nil (sz : Nat) (W : World) : RowC sz W (.slice none 0 0) 0 [] := ⟨by simp, none, 0, rfl, Nat.le_refl _, Nat.zero_le _, fun _ => rfl, fun _ h => by cases h⟩
theorem RowC.below {sz : Nat} {W W' : World} {v : Value} {n : Nat} {cs : List Value} (h : RowC sz W v n cs) (hb : Below W.heap.size W W') : RowC sz W' v n cs := by
 obtain ⟨hl, ao, cap, rfl, h1, h2, h3, h4⟩ := h
 refine ⟨hl, ao, cap, rfl, h1, h2, h3, fun ad ha => ?_⟩
 obtain ⟨b, off, e, hlt, hc⟩ := h4 ad ha
 exact ⟨b, off, e, Nat.lt_of_lt_of_le hlt hb.size, fun j u hj => cell_stays hb (hc j u hj)⟩
theorem RowC.reads {sz : Nat} {W : World} {v : Value} {n : Nat} {cs : List Value} (h : RowC sz W v n cs) : RowR sz W v n cs := by
 obtain ⟨hl, ao, cap, rfl, h1, h2, h3, h4⟩ := h
 refine ⟨hl, ao, cap, rfl, fun hn => ?_⟩
 cases ao with
 | none => have := h3 rfl; omega
 | some ad =>
  obtain ⟨b, off, rfl, _, hc⟩ := h4 _ rfl
  exact ⟨b, off, rfl, hc⟩
theorem RowC.of_own {sz : Nat} {W : World} {base : Nat} {e : TypeId} {v : Value} {n : Nat} {cs : List Value} (h : W.ownsRow base e sz v n cs) : RowC sz W v n cs := by
 refine ⟨h.1, ?_⟩
 rcases h.2 with ⟨hv, h0⟩ | ⟨g, cap, cur, hv, _, hg, h1, h2, _⟩
 ·exact ⟨none, 0, by rw [hv, h0], by omega, Nat.zero_le _, fun _ => rfl, fun _ q => by cases q⟩
 ·subst hv
  refine ⟨_, cap, rfl, h1, h2, (fun q => by cases q), fun ad q => ?_⟩
  cases q
  refine ⟨g, 0, rfl, (Array.getElem?_eq_some_iff.1 hg).1, fun j u hj => ?_⟩
  have hjl := (List.getElem?_eq_some_iff.1 hj).1
  rw [Nat.zero_add, h.cellAt j (by rw [← h.1]; exact hjl)]
  exact hj
theorem RowC.src0 {sz : Nat} {W : World} {ao : Option Addr} {n cap : Nat} {cs : List Value} (h : RowC sz W (.slice ao n cap) n cs) (k : Nat) (hk : k ≤ n) : RowR sz W (.slice ao k cap) k (cs.take (k * sz)) := by
 obtain ⟨hl, ao', cap', e, h1, h2, h3, h4⟩ := h
 cases e
 refine ⟨by rw [List.length_take, hl]; exact Nat.min_eq_left (Nat.mul_le_mul_right sz hk), ao, cap, rfl, fun hn => ?_⟩
 cases ao with
 | none => have := h3 rfl; omega
 | some ad =>
  obtain ⟨b, off, rfl, _, hc⟩ := h4 _ rfl
  refine ⟨b, off, rfl, fun j u hj => hc j u ?_⟩
  rw [List.getElem?_take] at hj
  split at hj
  ·exact hj
  ·cases hj
theorem RowC.srcIf {sz : Nat} {W : World} {ao : Option Addr} {n cap c' : Nat} {cs : List Value} (h : RowC sz W (.slice ao n cap) n cs) (k : Nat) (hk : k ≤ n) :
  RowR sz W (.slice (if cap = k then ao else Option.map (fun x : Addr => x.add (k * sz)) ao) (n - k) c') (n - k) (cs.drop (k * sz)) := by
 obtain ⟨hl, ao', cap', e, h1, h2, h3, h4⟩ := h
 cases e
 refine ⟨by rw [List.length_drop, hl, Nat.sub_mul], _, c', rfl, fun hn => ?_⟩
 cases ao with
 | none => have := h3 rfl; omega
 | some ad =>
  obtain ⟨b, off, rfl, _, hc⟩ := h4 _ rfl
  refine ⟨b, off + k * sz, ?_, fun j u hj => ?_⟩
  ·rw [if_neg (by omega)]
   show some ((⟨b, off, none⟩ : Addr).add (k * sz)) = _
   simp [Addr.add]
  ·rw [List.getElem?_drop] at hj
   rw [Nat.add_assoc]
   exact hc _ _ hj
def cV (c : PCell) : List Value := [.int .i64 c.site, .int .i64 c.seq, .int .i64 c.off, .int .i32 c.r, .bool c.gone]
def cCells : List PCell → List Value
 | [] => []
 | c :: r => cV c ++ cCells r
theorem cCells_append : ∀ a b, cCells (a ++ b) = cCells a ++ cCells b
 | [], _ => rfl
 | c :: r, b => by show cV c ++ cCells (r ++ b) = _; rw [cCells_append r b, ← List.append_assoc]; rfl
theorem cCells_length : ∀ l, (cCells l).length = l.length * 5
 | [] => rfl
 | c :: r => by
  show (cV c ++ cCells r).length = (r.length + 1) * 5
  rw [List.length_append, cCells_length r, show (cV c).length = 5 from rfl]
  omega
theorem cCells_one (c : PCell) : cCells [c] = cV c := by show cV c ++ [] = _; rw [List.append_nil]
theorem cCells_at : ∀ (l : List PCell) (i j : Nat) (c : PCell), l[i]? = some c → j < 5 → (cCells l)[i * 5 + j]? = (cV c)[j]?
 | [], i, _, _, h, _ => by simp at h
 | d :: r, 0, j, c, h, hj => by
  obtain rfl : d = c := by simpa using h
  show (cV d ++ cCells r)[0 * 5 + j]? = _
  rw [List.getElem?_append_left (by show 0 * 5 + j < 5; omega), show 0 * 5 + j = j by omega]
 | d :: r, i + 1, j, c, h, hj => by
  show (cV d ++ cCells r)[(i + 1) * 5 + j]? = _
  rw [List.getElem?_append_right (by show 5 ≤ (i + 1) * 5 + j; omega), show (i + 1) * 5 + j - (cV d).length = i * 5 + j by show (i + 1) * 5 + j - 5 = _; omega]
  exact cCells_at r i j c (by simpa using h) hj
theorem cCells_take (l : List PCell) (k : Nat) (hk : k ≤ l.length) : (cCells l).take (k * 5) = cCells (l.take k) := by
 have e := cCells_append (l.take k) (l.drop k)
 rw [List.take_append_drop] at e
 rw [e, List.take_left' (by rw [cCells_length, List.length_take]; omega)]
theorem cCells_drop (l : List PCell) (k : Nat) (hk : k ≤ l.length) : (cCells l).drop (k * 5) = cCells (l.drop k) := by
 have e := cCells_append (l.take k) (l.drop k)
 rw [List.take_append_drop] at e
 rw [e, List.drop_left' (by rw [cCells_length, List.length_take]; omega)]
theorem cV_one (c : PCell) : ∀ u ∈ cV c, u.oneCell' = true := by
 intro u hu
 simp only [cV, List.mem_cons, List.not_mem_nil, or_false] at hu
 rcases hu with rfl | rfl | rfl | rfl | rfl <;> rfl
theorem cCells_ones : ∀ (l : List PCell), ∀ u ∈ cCells l, u.oneCell' = true
 | [], u, h => by cases h
 | c :: r, u, h => by
  rcases List.mem_append.1 h with h | h
  ·exact cV_one c u h
  ·exact cCells_ones r u h
def CAt (W : World) (v : Value) (l : List PCell) : Prop := RowC 5 W v l.length (cCells l)
theorem CAt.nil (W : World) : CAt W (.slice none 0 0) [] := RowC.nil 5 W
theorem CAt.below {W W' : World} {v : Value} {l : List PCell} (h : CAt W v l) (hb : Below W.heap.size W W') : CAt W' v l := RowC.below h hb
theorem CAt.of_own {W : World} {base : Nat} {e : TypeId} {v : Value} {n : Nat} {l : List PCell} (h : W.ownsRow base e 5 v n (cCells l)) (hn : n = l.length) : CAt W v l := by
 subst hn
 exact RowC.of_own h
theorem CAt.shape {W : World} {v : Value} {l : List PCell} (h : CAt W v l) : ∃ ao cap, v = .slice ao l.length cap ∧ l.length ≤ cap ∧ cap ≤ maxLen := by
 obtain ⟨_, ao, cap, e, h1, h2, _⟩ := h
 exact ⟨ao, cap, e, h1, h2⟩
theorem CAt.at {W : World} {v : Value} {l : List PCell} (h : CAt W v l) {i : Nat} {c : PCell} (hi : l[i]? = some c) : ∃ b off cap, v = .slice (some ⟨b, off, none⟩) l.length cap ∧
  W.cell? ⟨b, off + i * 5, none⟩ = some (.int .i64 c.site) ∧ W.cell? ⟨b, off + i * 5 + 1, none⟩ = some (.int .i64 c.seq) ∧ W.cell? ⟨b, off + i * 5 + 2, none⟩ = some (.int .i64 c.off) ∧
  W.cell? ⟨b, off + i * 5 + 3, none⟩ = some (.int .i32 c.r) ∧ W.cell? ⟨b, off + i * 5 + 4, none⟩ = some (.bool c.gone) := by
 obtain ⟨_, ao, cap, rfl, h2⟩ := h.reads
 have hl := (List.getElem?_eq_some_iff.1 hi).1
 obtain ⟨b, off, rfl, hc⟩ := h2 (by omega)
 have e : ∀ j, j < 5 → W.cell? ⟨b, off + i * 5 + j, none⟩ = (cV c)[j]? := fun j hj => by
  have q := cCells_at l i j c hi hj
  have hlt : j < (cV c).length := hj
  rw [List.getElem?_eq_getElem hlt] at q ⊢
  rw [Nat.add_assoc]
  exact hc _ _ q
 refine ⟨b, off, cap, rfl, ?_, e 1 (by decide), e 2 (by decide), e 3 (by decide), e 4 (by decide)⟩
 exact e 0 (by decide)
end Go.Proofs.YthekkjfaaedamaaGreatDoor

namespace Go.Proofs.YthekkjfaaedamaaGreatDoor
open Go.RowKit

def cA (c : PCell) : Value := .agg #[.int .i64 c.site, .int .i64 c.seq, .int .i64 c.off, .int .i32 c.r, .bool c.gone]
set_option maxHeartbeats 2000000 in
theorem clEq (w : World) (c d : PCell) : (Op.equalIn 10000 64 (cA c) (cA d)).run Tryz.prog w = .ok (decide (c = d)) w := by
 obtain ⟨s, q, o, r, g⟩ := c
 obtain ⟨s', q', o', r', g'⟩ := d
 have gi := Tryz.underlying3
 have ga := Tryz.isAgg3
 have gz := Tryz.sizeOf3
 have ri := Tryz.underlying21
 have ra := Tryz.isAgg21
 have rz := Tryz.sizeOf21
 have bi := Tryz.underlying4
 have ba := Tryz.isAgg4
 have bz := Tryz.sizeOf4
 have na := Tryz.isAgg42
 have nz := Tryz.sizeOf42
 have nu := Tryz.underlying42
 unfold cA
 rw [show (10000 : Nat) = 9998 + 1 + 1 from rfl, run_equalIn_struct w (9998 + 1) 64 _ _ (by kernel_rfl) (by kernel_rfl)]
 simp only [Program.fieldsOf, Tryz.underlying64]
 simp only [Op.eqFields]
 go_simp
 by_cases h0 : s = s' <;> by_cases h1 : q = q' <;> by_cases h2 : o = o' <;> by_cases h3 : r = r' <;> by_cases h4 : g = g' <;> simp [h0, h1, h2, h3, h4]
theorem clEq_neq (w : World) (c d : PCell) (x : Bool) (hx : (!decide (c = d)) = x) : (binOp .neq 64 (.agg #[.int .i64 c.site, .int .i64 c.seq, .int .i64 c.off, .int .i32 c.r, .bool c.gone]) (.agg #[.int .i64 d.site, .int .i64 d.seq, .int .i64 d.off, .int .i32 d.r, .bool d.gone])).run Tryz.prog w = .ok (.bool x) w := by
 rw [run_neq_struct]
 have h := clEq w c d
 unfold cA at h
 rw [h, ← hx]; rfl
theorem getE_some {l : List PCell} {k : Nat} (h : k < l.length) : ∃ c, l[k]? = some c := ⟨l[k], List.getElem?_eq_getElem h⟩
theorem take_eq_next {l m : List PCell} {k : Nat} {c d : PCell} (h : l.take k = m.take k) (hc : l[k]? = some c) (hd : m[k]? = some d) (e : c = d) : l.take (k + 1) = m.take (k + 1) := by
 rw [List.take_add_one, List.take_add_one, h, hc, hd, e]
set_option maxRecDepth 100000 in
set_option maxHeartbeats 4000000 in
theorem cSame_any (v v' : Value) (l m : List PCell) (w : World) (h1 : CAt w v l) (h2 : CAt w v' m) (hn : l.length ≤ 1000000000) :
  Calls Tryz.prog 9 #[v, v'] w fun e w' => e = .returned (.bool (decide (l = m))) ∧ Below w.heap.size w w' := by
 have H1 := Lib.hid h1
 have H2 := Lib.hid h2
 obtain ⟨ao, cap, rfl, _, _⟩ := h1.shape
 obtain ⟨bo, cap', rfl, _, _⟩ := h2.shape
 by_cases hlm : l.length = m.length
 case neg =>
  rw [decide_eq_false (show ¬ l = m from fun e => hlm (by rw [e]))]
  generalize l.length = L at *
  generalize m.length = M at *
  have hne : ¬ ((L : Int) = (M : Int)) := by omega
  go_enter Tryz.func9, Tryz.ntmps9
  go_wp2
  go_ret
  exact ⟨rfl, Below.refl _ _⟩
 obtain ⟨L, hL⟩ : ∃ L, l.length = L := ⟨_, rfl⟩
 have hM : m.length = L := hlm.symm.trans hL
 rw [hL, hM]
 have HL := Lib.hid hL
 have HM := Lib.hid hM
 have Hlm := Lib.hid hlm
 rw [hL] at hn
 clear hL hM hlm h1 h2
 go_enter Tryz.func9, Tryz.ntmps9
 go_wp2
 go_loopw [5] (fun i wr => ∃ k : Nat, i = .int .i64 k ∧ k ≤ L ∧ RowKit.Hid (l.take k = m.take k) ∧ Below w.heap.size w wr) (fun i _ => L - (intOf i).toNat)
 case atStart => exact ⟨0, rfl, Nat.zero_le _, Lib.hid rfl, Below.refl _ _⟩
 case round =>
  rename_i wr
  obtain ⟨k, rfl, hk, ht, hb⟩ := hrel
  rcases Nat.lt_or_ge k L with hlt | hge
  ·obtain ⟨c, hc⟩ := getE_some (l := l) (k := k) (by rw [HL.out]; exact hlt)
   obtain ⟨d, hd⟩ := getE_some (l := m) (k := k) (by rw [HM.out]; exact hlt)
   obtain ⟨b, off, cp, hv, c0, c1, c2, c3, c4⟩ := (H1.out.below hb).at hc
   rw [HL.out] at hv
   cases hv
   obtain ⟨b', off', cp', hv, d0, d1, d2, d3, d4⟩ := (H2.out.below hb).at hd
   rw [HM.out] at hv
   cases hv
   have hi0 : (0 : Int) ≤ (k : Int) ∧ (k : Int) < (L : Int) := ⟨by omega, by omega⟩
   have Hc := Lib.hid hc
   have Hd := Lib.hid hd
   clear hc hd
   by_cases hcd : c = d
   ·have HT := Lib.hid (take_eq_next ht.out Hc.out Hd.out hcd)
    have hq := fun W => clEq_neq W c d false (by rw [decide_eq_true hcd]; rfl)
    clear hcd
    go_wp2_with fail
    go_quiet (fail)
    go_wp2
    exact ⟨⟨k + 1, by go_num, by omega, HT, below_draws hb _⟩, by simp [intOf]; omega⟩
   ·have hq := fun W => clEq_neq W c d true (by rw [decide_eq_false hcd]; rfl)
    have hno : ¬ l = m := fun e => by
     have q := Hc.out
     rw [e, Hd.out] at q
     exact hcd (by simpa using q.symm)
    have hV := Lib.hid (show decide (l = m) = false from decide_eq_false hno)
    clear hcd hno
    go_wp2_with fail
    go_quiet (fail)
    go_wp2
    go_ret
    exact ⟨ret_bool hV.out.symm, below_draws hb _⟩
  ·have he : k = L := by omega
   subst he
   have hyes : l = m := by
    have q := ht.out
    rwa [List.take_of_length_le (by rw [HL.out]; exact Nat.le_refl _), List.take_of_length_le (by rw [HM.out]; exact Nat.le_refl _)] at q
   have hV := Lib.hid (show decide (l = m) = true from decide_eq_true hyes)
   clear hyes
   go_wp2
   go_ret
   exact ⟨ret_bool hV.out.symm, hb⟩
end Go.Proofs.YthekkjfaaedamaaGreatDoor

namespace Go.Proofs.YthekkjfaaedamaaGreatDoor
open Go.RowKit

def OpAt (W : World) (v : Value) (o : POp) : Prop := ∃ t sp, v = opV o.site o.seq o.num o.kind o.pl t sp ∧ t.data.toList = o.text ∧ SpAt W sp o.spans
theorem OpAt.of (W : World) (s q n k a : Int) (t : ByteArray) (sp : Value) (xs : List Sp) (h : SpAt W sp xs) : OpAt W (opV s q n k a t sp) ⟨s, q, n, k, a, t.data.toList, xs⟩ := ⟨t, sp, rfl, rfl, h⟩
theorem OpAt.below {W W' : World} {v : Value} {o : POp} (h : OpAt W v o) (hb : Below W.heap.size W W') : OpAt W' v o := by
 obtain ⟨t, sp, h1, h2, h3⟩ := h
 exact ⟨t, sp, h1, h2, h3.below hb⟩
theorem OpAt.zero (W : World) : OpAt W (opV 0 0 0 0 0 ⟨#[]⟩ (.slice none 0 0)) pZero := ⟨_, _, rfl, rfl, SpAt.nil _⟩
def OpEPost (o : POp) (c : Int) (w : World) (e : Ending) (w' : World) : Prop := ∃ v, e = .returned (.tuple #[v, .int .i64 c]) ∧ OpAt w' v o ∧ Below w.heap.size w w'
theorem OpEPost.no {o : POp} {c d : Int} {w w' : World} (ho : o = pZero) (hc : c = d) (hb : Below w.heap.size w w') : OpEPost o c w (.returned (.tuple #[opV 0 0 0 0 0 ⟨#[]⟩ (.slice none 0 0), .int .i64 d])) w' := by
 subst ho hc
 exact ⟨_, rfl, OpAt.zero _, hb⟩
theorem OpEPost.yes {o : POp} {c d s q n k a : Int} {t : ByteArray} {sp : Value} {xs : List Sp} {w w' : World} (ho : o = ⟨s, q, n, k, a, t.data.toList, xs⟩) (hc : c = d) (hs : SpAt w' sp xs) (hb : Below w.heap.size w w') : OpEPost o c w (.returned (.tuple #[opV s q n k a t sp, .int .i64 d])) w' := by
 subst ho hc
 exact ⟨_, rfl, ⟨t, sp, rfl, rfl, hs⟩, hb⟩
theorem OBox.made (s q n k a : Int) (t : ByteArray) (sp : Value) (w : World) (ty : TypeId) {N : Nat} (hN : w.heap.size = N) : OBox N s q n k a t sp w (w.alloc (.cells #[.int .i64 s, .int .i64 q, .int .i64 n, .int .i64 k, .int .i64 a, .string t, sp] ty)) := by
 subst hN
 exact OBox.new s q n k a t sp w ty
def OB2 (s q n k a : Int) (t : ByteArray) (sp : Value) (s' q' n' k' a' : Int) (t' : ByteArray) (sp' : Value) (w W : World) : Prop :=
 OBox w.heap.size s q n k a t sp w W ∧ OBox (w.heap.size + 1) s' q' n' k' a' t' sp' (w.alloc (.cells #[.int .i64 s, .int .i64 q, .int .i64 n, .int .i64 k, .int .i64 a, .string t, sp] 45)) W
theorem OB2.new (s q n k a : Int) (t : ByteArray) (sp : Value) (s' q' n' k' a' : Int) (t' : ByteArray) (sp' : Value) (w : World) :
  OB2 s q n k a t sp s' q' n' k' a' t' sp' w ((w.alloc (.cells #[.int .i64 s, .int .i64 q, .int .i64 n, .int .i64 k, .int .i64 a, .string t, sp] 45)).alloc (.cells #[.int .i64 s', .int .i64 q', .int .i64 n', .int .i64 k', .int .i64 a', .string t', sp'] 45)) := by
 have h1 := OBox.new s q n k a t sp w 45
 have h2 := OBox.made s' q' n' k' a' t' sp' (w.alloc (.cells #[.int .i64 s, .int .i64 q, .int .i64 n, .int .i64 k, .int .i64 a, .string t, sp] 45)) 45 (N := w.heap.size + 1) (by simp)
 exact ⟨h1.keep ((Below.refl _ _).alloc (Nat.le_refl _) _), h2⟩
theorem OB2.keep {s q n k a : Int} {t : ByteArray} {sp : Value} {s' q' n' k' a' : Int} {t' : ByteArray} {sp' : Value} {w W W' : World} (h : OB2 s q n k a t sp s' q' n' k' a' t' sp' w W) (hb : Below W.heap.size W W') : OB2 s q n k a t sp s' q' n' k' a' t' sp' w W' := ⟨h.1.keep hb, h.2.keep hb⟩
theorem OB2.draws {s q n k a : Int} {t : ByteArray} {sp : Value} {s' q' n' k' a' : Int} {t' : ByteArray} {sp' : Value} {w W : World} (h : OB2 s q n k a t sp s' q' n' k' a' t' sp' w W) (m : Nat) : OB2 s q n k a t sp s' q' n' k' a' t' sp' w (W.drewN m) := ⟨h.1.draws m, h.2.draws m⟩
theorem OB2.below {s q n k a : Int} {t : ByteArray} {sp : Value} {s' q' n' k' a' : Int} {t' : ByteArray} {sp' : Value} {w W : World} (h : OB2 s q n k a t sp s' q' n' k' a' t' sp' w W) : Below w.heap.size w W := h.1.2.2.2.2.2.2.2
theorem infoOpA : (Tryz.prog.info? 45).map (fun i => (i.size)) = some 7 := by kernel_rfl
theorem row7 {W : World} {g : Nat} {ty : TypeId} {x0 x1 x2 x3 x4 x5 x6 : Value} (h : W.heap[g]? = some (.cells #[x0, x1, x2, x3, x4, x5, x6] ty (0, 0))) :
  (W.cell? ⟨g, 0, none⟩ = some x0 ∧ W.cell? ⟨g, 1, none⟩ = some x1 ∧ W.cell? ⟨g, 2, none⟩ = some x2 ∧ W.cell? ⟨g, 3, none⟩ = some x3 ∧ W.cell? ⟨g, 4, none⟩ = some x4 ∧ W.cell? ⟨g, 5, none⟩ = some x5 ∧ W.cell? ⟨g, 6, none⟩ = some x6) ∧
  (W.frozen? ⟨g, 0, none⟩ = false ∧ W.frozen? ⟨g, 1, none⟩ = false ∧ W.frozen? ⟨g, 2, none⟩ = false ∧ W.frozen? ⟨g, 3, none⟩ = false ∧ W.frozen? ⟨g, 4, none⟩ = false ∧ W.frozen? ⟨g, 5, none⟩ = false ∧ W.frozen? ⟨g, 6, none⟩ = false) :=
 ⟨⟨cell_of_row _ _ 0 _ _ _ h, cell_of_row _ _ 1 _ _ _ h, cell_of_row _ _ 2 _ _ _ h, cell_of_row _ _ 3 _ _ _ h, cell_of_row _ _ 4 _ _ _ h, cell_of_row _ _ 5 _ _ _ h, cell_of_row _ _ 6 _ _ _ h⟩,
  frozen_of_row _ _ 0 _ _ h, frozen_of_row _ _ 1 _ _ h, frozen_of_row _ _ 2 _ _ h, frozen_of_row _ _ 3 _ _ h, frozen_of_row _ _ 4 _ _ h, frozen_of_row _ _ 5 _ _ h, frozen_of_row _ _ 6 _ _ h⟩
abbrev put7 (W : World) (g : Nat) (c0 c1 c2 c3 c4 c5 c6 : Value) : World := ((((((W.setCell ⟨g, 0, none⟩ c0).setCell ⟨g, 1, none⟩ c1).setCell ⟨g, 2, none⟩ c2).setCell ⟨g, 3, none⟩ c3).setCell ⟨g, 4, none⟩ c4).setCell ⟨g, 5, none⟩ c5).setCell ⟨g, 6, none⟩ c6
theorem put7_same {W : World} {g : Nat} {ty : TypeId} {x0 x1 x2 x3 x4 x5 x6 : Value} (h : W.heap[g]? = some (.cells #[x0, x1, x2, x3, x4, x5, x6] ty (0, 0))) (c0 c1 c2 c3 c4 c5 c6 : Value) :
  (put7 W g c0 c1 c2 c3 c4 c5 c6).heap[g]? = some (.cells #[c0, c1, c2, c3, c4, c5, c6] ty (0, 0)) := by
 have h0 := heap_setCell_same (W) g 0 _ _ c0 h
 rw [show (#[x0, x1, x2, x3, x4, x5, x6] : Array Value).setIfInBounds 0 c0 = #[c0, x1, x2, x3, x4, x5, x6] from rfl] at h0
 have h1 := heap_setCell_same ((W).setCell ⟨g, 0, none⟩ c0) g 1 _ _ c1 h0
 rw [show (#[c0, x1, x2, x3, x4, x5, x6] : Array Value).setIfInBounds 1 c1 = #[c0, c1, x2, x3, x4, x5, x6] from rfl] at h1
 have h2 := heap_setCell_same (((W).setCell ⟨g, 0, none⟩ c0).setCell ⟨g, 1, none⟩ c1) g 2 _ _ c2 h1
 rw [show (#[c0, c1, x2, x3, x4, x5, x6] : Array Value).setIfInBounds 2 c2 = #[c0, c1, c2, x3, x4, x5, x6] from rfl] at h2
 have h3 := heap_setCell_same ((((W).setCell ⟨g, 0, none⟩ c0).setCell ⟨g, 1, none⟩ c1).setCell ⟨g, 2, none⟩ c2) g 3 _ _ c3 h2
 rw [show (#[c0, c1, c2, x3, x4, x5, x6] : Array Value).setIfInBounds 3 c3 = #[c0, c1, c2, c3, x4, x5, x6] from rfl] at h3
 have h4 := heap_setCell_same (((((W).setCell ⟨g, 0, none⟩ c0).setCell ⟨g, 1, none⟩ c1).setCell ⟨g, 2, none⟩ c2).setCell ⟨g, 3, none⟩ c3) g 4 _ _ c4 h3
 rw [show (#[c0, c1, c2, c3, x4, x5, x6] : Array Value).setIfInBounds 4 c4 = #[c0, c1, c2, c3, c4, x5, x6] from rfl] at h4
 have h5 := heap_setCell_same ((((((W).setCell ⟨g, 0, none⟩ c0).setCell ⟨g, 1, none⟩ c1).setCell ⟨g, 2, none⟩ c2).setCell ⟨g, 3, none⟩ c3).setCell ⟨g, 4, none⟩ c4) g 5 _ _ c5 h4
 rw [show (#[c0, c1, c2, c3, c4, x5, x6] : Array Value).setIfInBounds 5 c5 = #[c0, c1, c2, c3, c4, c5, x6] from rfl] at h5
 have h6 := heap_setCell_same (((((((W).setCell ⟨g, 0, none⟩ c0).setCell ⟨g, 1, none⟩ c1).setCell ⟨g, 2, none⟩ c2).setCell ⟨g, 3, none⟩ c3).setCell ⟨g, 4, none⟩ c4).setCell ⟨g, 5, none⟩ c5) g 6 _ _ c6 h5
 rw [show (#[c0, c1, c2, c3, c4, c5, x6] : Array Value).setIfInBounds 6 c6 = #[c0, c1, c2, c3, c4, c5, c6] from rfl] at h6
 exact h6
theorem put7_other {W : World} {g j : Nat} (hj : j ≠ g) (c0 c1 c2 c3 c4 c5 c6 : Value) : (put7 W g c0 c1 c2 c3 c4 c5 c6).heap[j]? = W.heap[j]? := by
 iterate 7 rw [heap_setCell_other _ _ _ _ hj]
theorem put7_below {N : Nat} {w W : World} {g : Nat} (hb : Below N w W) (hg : N ≤ g) (c0 c1 c2 c3 c4 c5 c6 : Value) : Below N w (put7 W g c0 c1 c2 c3 c4 c5 c6) := by
 iterate 7 refine Below.setCell ?_ hg _
 exact hb
theorem OBox.block {N : Nat} {s q n k a : Int} {t : ByteArray} {sp : Value} {w W W' : World} (h : OBox N s q n k a t sp w W) (he : W'.heap[N]? = W.heap[N]?) (hb : Below N w W') : OBox N s q n k a t sp w W' := by
 obtain ⟨h0, h1, h2, h3, h4, h5, h6, _⟩ := h
 have e : ∀ i, W'.cell? ⟨N, i, none⟩ = W.cell? ⟨N, i, none⟩ := fun i => World.cell?_of_block (a := ⟨N, i, none⟩) he
 exact ⟨(e 0).trans h0, (e 1).trans h1, (e 2).trans h2, (e 3).trans h3, (e 4).trans h4, (e 5).trans h5, (e 6).trans h6, hb⟩
theorem OB2.lt {s q n k a : Int} {t : ByteArray} {sp : Value} {s' q' n' k' a' : Int} {t' : ByteArray} {sp' : Value} {w W : World} (h : OB2 s q n k a t sp s' q' n' k' a' t' sp' w W) : w.heap.size + 1 < W.heap.size := World.block_lt_of_cell? W _ h.2.1
structure IX (s q n k a : Int) (t : ByteArray) (sp : Value) (s' q' n' k' a' : Int) (t' : ByteArray) (sp' : Value) (w : World) (O : Nat) (y0 y1 y2 y3 y4 y5 y6 : Value) (W : World) : Prop where
 b : OB2 s q n k a t sp s' q' n' k' a' t' sp' w W
 r : W.heap[w.heap.size + 1 + 1]? = some (.cells #[.int .i64 0, .int .i64 0, .int .i64 0, .int .i64 0, .int .i64 0, .string ⟨#[]⟩, .slice none 0 0] 45 (0, 0))
 o : W.heap[O]? = some (.cells #[y0, y1, y2, y3, y4, y5, y6] 45 (0, 0))
 lt : w.heap.size + 1 + 1 < O
theorem IX.keep {s q n k a : Int} {t : ByteArray} {sp : Value} {s' q' n' k' a' : Int} {t' : ByteArray} {sp' : Value} {w W W' : World} {O : Nat} {y0 y1 y2 y3 y4 y5 y6 : Value} (h : IX s q n k a t sp s' q' n' k' a' t' sp' w O y0 y1 y2 y3 y4 y5 y6 W) (hb : Below W.heap.size W W') : IX s q n k a t sp s' q' n' k' a' t' sp' w O y0 y1 y2 y3 y4 y5 y6 W' :=
 ⟨h.b.keep hb, (hb.block _ (Array.getElem?_eq_some_iff.1 h.r).1).trans h.r, (hb.block _ (Array.getElem?_eq_some_iff.1 h.o).1).trans h.o, h.lt⟩
theorem IX.set {s q n k a : Int} {t : ByteArray} {sp : Value} {s' q' n' k' a' : Int} {t' : ByteArray} {sp' : Value} {w W : World} {O : Nat} {y0 y1 y2 y3 y4 y5 y6 z0 z1 z2 z3 z4 z5 z6 : Value} (h : IX s q n k a t sp s' q' n' k' a' t' sp' w O y0 y1 y2 y3 y4 y5 y6 W) (i : Nat) (v : Value) (e : (#[y0, y1, y2, y3, y4, y5, y6] : Array Value).setIfInBounds i v = #[z0, z1, z2, z3, z4, z5, z6]) : IX s q n k a t sp s' q' n' k' a' t' sp' w O z0 z1 z2 z3 z4 z5 z6 (W.setCell ⟨O, i, none⟩ v) := by
 have hl := h.lt
 refine ⟨⟨h.b.1.block (heap_setCell_other _ _ _ _ (by show w.heap.size ≠ O; omega)) (h.b.1.2.2.2.2.2.2.2.setCell (by show w.heap.size ≤ O; omega) _), h.b.2.block (heap_setCell_other _ _ _ _ (by show w.heap.size + 1 ≠ O; omega)) (h.b.2.2.2.2.2.2.2.2.setCell (by show w.heap.size + 1 ≤ O; omega) _)⟩, (heap_setCell_other _ _ _ _ (by show w.heap.size + 1 + 1 ≠ O; omega)).trans h.r, ?_, h.lt⟩
 have := heap_setCell_same W O i _ _ v h.o
 rw [e] at this
 exact this
theorem IX.put {s q n k a : Int} {t : ByteArray} {sp : Value} {s' q' n' k' a' : Int} {t' : ByteArray} {sp' : Value} {w W : World} {O : Nat} {y0 y1 y2 y3 y4 y5 y6 : Value} (h : IX s q n k a t sp s' q' n' k' a' t' sp' w O y0 y1 y2 y3 y4 y5 y6 W) (z0 z1 z2 z3 z4 z5 z6 : Value) : IX s q n k a t sp s' q' n' k' a' t' sp' w O z0 z1 z2 z3 z4 z5 z6 (put7 W O z0 z1 z2 z3 z4 z5 z6) := by
 have hl := h.lt
 exact ⟨⟨h.b.1.block (put7_other (by omega) ..) (put7_below h.b.1.2.2.2.2.2.2.2 (by omega) ..), h.b.2.block (put7_other (by omega) ..) (put7_below h.b.2.2.2.2.2.2.2.2 (by omega) ..)⟩, (put7_other (by omega) ..).trans h.r, put7_same h.o .., h.lt⟩
theorem IX.done {s q n k a : Int} {t : ByteArray} {sp : Value} {s' q' n' k' a' : Int} {t' : ByteArray} {sp' : Value} {w W : World} {O : Nat} {y0 y1 y2 y3 y4 y5 y6 : Value} (h : IX s q n k a t sp s' q' n' k' a' t' sp' w O y0 y1 y2 y3 y4 y5 y6 W) (z0 z1 z2 z3 z4 z5 z6 : Value) : (put7 W (w.heap.size + 1 + 1) z0 z1 z2 z3 z4 z5 z6).heap[w.heap.size + 1 + 1]? = some (.cells #[z0, z1, z2, z3, z4, z5, z6] 45 (0, 0)) ∧ Below w.heap.size w (put7 W (w.heap.size + 1 + 1) z0 z1 z2 z3 z4 z5 z6) :=
 ⟨put7_same h.r .., put7_below h.b.below (by omega) ..⟩
theorem IX.draws {s q n k a : Int} {t : ByteArray} {sp : Value} {s' q' n' k' a' : Int} {t' : ByteArray} {sp' : Value} {w W : World} {O : Nat} {y0 y1 y2 y3 y4 y5 y6 : Value} (h : IX s q n k a t sp s' q' n' k' a' t' sp' w O y0 y1 y2 y3 y4 y5 y6 W) (m : Nat) : IX s q n k a t sp s' q' n' k' a' t' sp' w O y0 y1 y2 y3 y4 y5 y6 (W.drewN m) := ⟨h.b.draws m, h.r, h.o, h.lt⟩
def OpTPost (o : POp) (w : World) (e : Ending) (w' : World) : Prop := ∃ v u, e = .returned (.tuple #[v, u]) ∧ OpAt w' v o ∧ Below w.heap.size w w'
theorem OpTPost.yes {o : POp} {s q n k a : Int} {t : ByteArray} {sp u : Value} {xs : List Sp} {w w' : World} (ho : o = ⟨s, q, n, k, a, t.data.toList, xs⟩) (hs : SpAt w' sp xs) (hb : Below w.heap.size w w') : OpTPost o w (.returned (.tuple #[opV s q n k a t sp, u])) w' := by
 subst ho
 exact ⟨_, _, rfl, ⟨t, sp, rfl, rfl, hs⟩, hb⟩
theorem row_keep {W W' : World} {g : Nat} {o : Obj} (hb : Below W.heap.size W W') (h : W.heap[g]? = some o) : W'.heap[g]? = some o := (hb.block g (Array.getElem?_eq_some_iff.1 h).1).trans h
theorem row_far {W : World} {p : Addr} {g : Nat} {o : Obj} {v : Value} (hp : g ≠ p.block) (h : W.heap[g]? = some o) : (W.setCell p v).heap[g]? = some o := (heap_setCell_other W p g v hp).trans h
theorem row_set {W : World} {g : Nat} {ty : TypeId} {cs ds : Array Value} (h : W.heap[g]? = some (.cells cs ty (0, 0))) (i : Nat) (v : Value) (e : cs.setIfInBounds i v = ds) : (W.setCell ⟨g, i, none⟩ v).heap[g]? = some (.cells ds ty (0, 0)) := by
 have := heap_setCell_same W g i _ _ v h
 rwa [e] at this
def OpPost (o : POp) (w : World) (e : Ending) (w' : World) : Prop := ∃ v, e = .returned v ∧ OpAt w' v o ∧ Below w.heap.size w w'
theorem OpPost.yes {o : POp} {s q n k a : Int} {t : ByteArray} {sp : Value} {xs : List Sp} {w w' : World} (ho : o = ⟨s, q, n, k, a, t.data.toList, xs⟩) (hs : SpAt w' sp xs) (hb : Below w.heap.size w w') : OpPost o w (.returned (opV s q n k a t sp)) w' := by
 subst ho
 exact ⟨_, rfl, ⟨t, sp, rfl, rfl, hs⟩, hb⟩
theorem op_result1 {fn : Func} {p : Tmp} (hfn : fn.results = #[.cell p 45]) (tmps : Array Value) (W : World) (g : Nat) (cs : Array Value) (hp : tmps.getD p undef = .pointer (some ⟨g, 0, none⟩))
  (hg : W.heap[g]? = some (.cells cs 45 (0, 0))) (h7 : cs.size = 7) : (results fn tmps).run Tryz.prog W = .ok (.agg cs) W :=
 results_cell_row hfn tmps W g 45 cs (0, 0) _ hp hg Tryz.underlying45 rfl (by rw [h7]; exact infoOpA)
theorem own_put7 {W : World} {M : Nat} {t : TypeId} {size : Nat} {v : Value} {k : Nat} {xs : List Value} (h : W.ownsRow M t size v k xs) {R : Nat} (hR : R < M) (c0 c1 c2 c3 c4 c5 c6 : Value) : (put7 W R c0 c1 c2 c3 c4 c5 c6).ownsRow M t size v k xs :=
 own_set (own_set (own_set (own_set (own_set (own_set (own_set h R 0 c0 hR) R 1 c1 hR) R 2 c2 hR) R 3 c3 hR) R 4 c4 hR) R 5 c5 hR) R 6 c6 hR
def OpOwn (N : Nat) (W : World) (v : Value) (o : POp) : Prop := ∃ t sp, v = opV o.site o.seq o.num o.kind o.pl t sp ∧ t.data.toList = o.text ∧ W.ownsRow N 105 2 sp o.spans.length (spCells o.spans)
theorem OpOwn.at {N : Nat} {W : World} {v : Value} {o : POp} (h : OpOwn N W v o) : OpAt W v o := by
 obtain ⟨t, sp, h1, h2, h3⟩ := h
 exact ⟨t, sp, h1, h2, SpAt.of_own h3⟩
theorem OpOwn.up {N : Nat} {W W' : World} {v : Value} {o : POp} (h : OpOwn N W v o) (hb : Below W.heap.size W W') : OpOwn N W' v o := by
 obtain ⟨t, sp, h1, h2, h3⟩ := h
 exact ⟨t, sp, h1, h2, own_up h3 hb⟩
theorem OpOwn.lower {M N : Nat} {W : World} {v : Value} {o : POp} (h : OpOwn M W v o) (hN : N ≤ M) : OpOwn N W v o := by
 obtain ⟨t, sp, h1, h2, h3⟩ := h
 exact ⟨t, sp, h1, h2, own_lower h3 hN⟩
theorem OpOwn.zero (N : Nat) (W : World) : OpOwn N W (opV 0 0 0 0 0 ⟨#[]⟩ (.slice none 0 0)) pZero := ⟨_, _, rfl, rfl, World.ownsRow_nil _ _ _ _⟩
def OpNPost (N : Nat) (o : POp) (w : World) (e : Ending) (w' : World) : Prop := ∃ v, e = .returned v ∧ OpOwn N w' v o ∧ Below w.heap.size w w'
theorem OpNPost.yes {N : Nat} {o : POp} {s q n k a : Int} {t : ByteArray} {sp : Value} {xs : List Sp} {w w' : World} (ho : o = ⟨s, q, n, k, a, t.data.toList, xs⟩) (hs : w'.ownsRow N 105 2 sp xs.length (spCells xs)) (hb : Below w.heap.size w w') : OpNPost N o w (.returned (opV s q n k a t sp)) w' := by
 subst ho
 exact ⟨_, rfl, ⟨t, sp, rfl, rfl, hs⟩, hb⟩
theorem OpNPost.any {N : Nat} {o : POp} {w w' : World} {e : Ending} (h : OpNPost N o w e w') : OpPost o w e w' := by
 obtain ⟨v, h1, h2, h3⟩ := h
 exact ⟨v, h1, h2.at, h3⟩
def OpNEPost (o : POp) (c : Int) (w : World) (e : Ending) (w' : World) : Prop := ∃ v, e = .returned (.tuple #[v, .int .i64 c]) ∧ OpOwn w.heap.size w' v o ∧ Below w.heap.size w w'
theorem OpNEPost.no {o : POp} {c d : Int} {w w' : World} (ho : o = pZero) (hc : c = d) (hb : Below w.heap.size w w') : OpNEPost o c w (.returned (.tuple #[opV 0 0 0 0 0 ⟨#[]⟩ (.slice none 0 0), .int .i64 d])) w' := by
 subst ho hc
 exact ⟨_, rfl, OpOwn.zero _ _, hb⟩
theorem OpNEPost.yes {o : POp} {c d s q n k a : Int} {t : ByteArray} {sp : Value} {xs : List Sp} {w w' : World} (ho : o = ⟨s, q, n, k, a, t.data.toList, xs⟩) (hc : c = d) (hs : w'.ownsRow w.heap.size 105 2 sp xs.length (spCells xs)) (hb : Below w.heap.size w w') : OpNEPost o c w (.returned (.tuple #[opV s q n k a t sp, .int .i64 d])) w' := by
 subst ho hc
 exact ⟨_, rfl, ⟨t, sp, rfl, rfl, hs⟩, hb⟩
theorem OpNEPost.any {o : POp} {c : Int} {w w' : World} {e : Ending} (h : OpNEPost o c w e w') : OpEPost o c w e w' := by
 obtain ⟨v, h1, h2, h3⟩ := h
 exact ⟨v, h1, h2.at, h3⟩
end Go.Proofs.YthekkjfaaedamaaGreatDoor

namespace Go.Proofs.YthekkjfaaedamaaGreatDoor
open Go.RowKit

structure ROp where
 site : Int
 seq : Int
 num : Int
 kind : Int
 pl : Int
 text : ByteArray
 sp : Value
 xs : List Sp
def ROp.op (x : ROp) : POp := ⟨x.site, x.seq, x.num, x.kind, x.pl, x.text.data.toList, x.xs⟩
def ROp.vals (x : ROp) : List Value := [.int .i64 x.site, .int .i64 x.seq, .int .i64 x.num, .int .i64 x.kind, .int .i64 x.pl, .string x.text, x.sp]
def ROp.val (x : ROp) : Value := opV x.site x.seq x.num x.kind x.pl x.text x.sp
def oCells : List ROp → List Value
 | [] => []
 | c :: r => c.vals ++ oCells r
theorem oCells_length : ∀ l, (oCells l).length = l.length * 7
 | [] => rfl
 | c :: r => by
  show (c.vals ++ oCells r).length = (r.length + 1) * 7
  rw [List.length_append, oCells_length r, show c.vals.length = 7 from rfl]
  omega
theorem oCells_append : ∀ a b, oCells (a ++ b) = oCells a ++ oCells b
 | [], _ => rfl
 | c :: r, b => by
  show c.vals ++ oCells (r ++ b) = c.vals ++ oCells r ++ oCells b
  rw [oCells_append r b, List.append_assoc]
theorem oCells_at : ∀ (l : List ROp) (i j : Nat) (c : ROp), l[i]? = some c → j < 7 → (oCells l)[i * 7 + j]? = c.vals[j]?
 | [], i, _, _, h, _ => by simp at h
 | d :: r, 0, j, c, h, hj => by
  obtain rfl : d = c := by simpa using h
  show (d.vals ++ oCells r)[0 * 7 + j]? = _
  rw [List.getElem?_append_left (by show 0 * 7 + j < 7; omega), show 0 * 7 + j = j by omega]
 | d :: r, i + 1, j, c, h, hj => by
  show (d.vals ++ oCells r)[(i + 1) * 7 + j]? = _
  rw [List.getElem?_append_right (by show 7 ≤ (i + 1) * 7 + j; omega), show (i + 1) * 7 + j - d.vals.length = i * 7 + j by show (i + 1) * 7 + j - 7 = _; omega]
  exact oCells_at r i j c (by simpa using h) hj
theorem oCells_1c : ∀ (l : List ROp), (∀ x ∈ l, x.sp.oneCell' = true) → ∀ u ∈ oCells l, u.oneCell' = true
 | [], _, _, h => by cases h
 | c :: r, hs, u, h => by
  rcases List.mem_append.1 (show u ∈ c.vals ++ oCells r from h) with g | g
  ·have hc := hs c (List.mem_cons_self ..)
   unfold ROp.vals at g
   simp only [List.mem_cons, List.not_mem_nil, or_false] at g
   rcases g with rfl | rfl | rfl | rfl | rfl | rfl | rfl
   all_goals first | rfl | exact hc
  ·exact oCells_1c r (fun x hx => hs x (List.mem_cons_of_mem _ hx)) u g
def OpsR (W : World) (v : Value) (l : List ROp) : Prop := RowR 7 W v l.length (oCells l) ∧ ∀ x ∈ l, SpAt W x.sp x.xs
theorem OpsR.below {W W' : World} {v : Value} {l : List ROp} (h : OpsR W v l) (hb : Below W.heap.size W W') : OpsR W' v l := ⟨h.1.below hb, fun x hx => (h.2 x hx).below hb⟩
theorem OpsR.nil (W : World) : OpsR W (.slice none 0 0) [] := ⟨RowR.nil 7 W, fun _ h => by cases h⟩
theorem OpsR.shape {W : World} {v : Value} {l : List ROp} (h : OpsR W v l) : ∃ ao cap, v = .slice ao l.length cap := by
 obtain ⟨⟨_, ao, cap, e, _⟩, _⟩ := h
 exact ⟨ao, cap, e⟩
theorem oRow_at {W : World} {v : Value} {l : List ROp} (h : RowR 7 W v l.length (oCells l)) {i : Nat} {x : ROp} (hi : l[i]? = some x) : ∃ b off cap, v = .slice (some ⟨b, off, none⟩) l.length cap ∧
  W.cell? ⟨b, off + i * 7, none⟩ = some (.int .i64 x.site) ∧ W.cell? ⟨b, off + i * 7 + 1, none⟩ = some (.int .i64 x.seq) ∧
  W.cell? ⟨b, off + i * 7 + 2, none⟩ = some (.int .i64 x.num) ∧ W.cell? ⟨b, off + i * 7 + 3, none⟩ = some (.int .i64 x.kind) ∧ W.cell? ⟨b, off + i * 7 + 4, none⟩ = some (.int .i64 x.pl) ∧
  W.cell? ⟨b, off + i * 7 + 5, none⟩ = some (.string x.text) ∧ W.cell? ⟨b, off + i * 7 + 6, none⟩ = some x.sp := by
 obtain ⟨_, ao, cap, rfl, h2⟩ := h
 have hl := (List.getElem?_eq_some_iff.1 hi).1
 obtain ⟨b, off, rfl, hc⟩ := h2 (by omega)
 have e : ∀ j, j < 7 → W.cell? ⟨b, off + i * 7 + j, none⟩ = x.vals[j]? := fun j hj => by
  have q := oCells_at l i j x hi hj
  have hlt : j < x.vals.length := hj
  rw [List.getElem?_eq_getElem hlt] at q ⊢
  rw [Nat.add_assoc]
  exact hc _ _ q
 exact ⟨b, off, cap, rfl, e 0 (by decide), e 1 (by decide), e 2 (by decide), e 3 (by decide), e 4 (by decide), e 5 (by decide), e 6 (by decide)⟩
theorem OpsR.at {W : World} {v : Value} {l : List ROp} (h : OpsR W v l) {i : Nat} {x : ROp} (hi : l[i]? = some x) : ∃ b off cap, v = .slice (some ⟨b, off, none⟩) l.length cap ∧
  W.cell? ⟨b, off + i * 7, none⟩ = some (.int .i64 x.site) ∧ W.cell? ⟨b, off + i * 7 + 1, none⟩ = some (.int .i64 x.seq) ∧
  W.cell? ⟨b, off + i * 7 + 2, none⟩ = some (.int .i64 x.num) ∧ W.cell? ⟨b, off + i * 7 + 3, none⟩ = some (.int .i64 x.kind) ∧ W.cell? ⟨b, off + i * 7 + 4, none⟩ = some (.int .i64 x.pl) ∧
  W.cell? ⟨b, off + i * 7 + 5, none⟩ = some (.string x.text) ∧ W.cell? ⟨b, off + i * 7 + 6, none⟩ = some x.sp := oRow_at h.1 hi
theorem OpsR.mem {W : World} {v : Value} {l : List ROp} (h : OpsR W v l) {i : Nat} {x : ROp} (hi : l[i]? = some x) : SpAt W x.sp x.xs := h.2 x (List.mem_of_getElem? hi)
theorem getO_some {l : List ROp} {k : Nat} (h : k < l.length) : ∃ c, l[k]? = some c := ⟨l[k], List.getElem?_eq_getElem h⟩
theorem OpsR.one {W : World} {v : Value} {l : List ROp} (h : OpsR W v l) : ∀ u ∈ oCells l, u.oneCell' = true := oCells_1c l fun x hx => by
 obtain ⟨ao, c, hv, _⟩ := h.2 x hx
 rw [hv]
 rfl
def OpsAt (W : World) (v : Value) (l : List POp) : Prop := ∃ rs : List ROp, rs.map ROp.op = l ∧ OpsR W v rs
theorem OpsAt.below {W W' : World} {v : Value} {l : List POp} (h : OpsAt W v l) (hb : Below W.heap.size W W') : OpsAt W' v l := by
 obtain ⟨rs, h1, h2⟩ := h
 exact ⟨rs, h1, h2.below hb⟩
theorem OpsAt.nil (W : World) : OpsAt W (.slice none 0 0) [] := ⟨[], rfl, OpsR.nil W⟩
end Go.Proofs.YthekkjfaaedamaaGreatDoor

namespace Go.Proofs.YthekkjfaaedamaaGreatDoor

def oNWf (o : ROp) : Prop := (Lit.int .i64 o.site).wf = true ∧ (Lit.int .i64 o.seq).wf = true
structure ROp.RFit (x : ROp) : Prop where
 txt : x.text.size ≤ 1000000
 len : x.xs.length ≤ 1000000
 pl : (Lit.int .i64 x.pl).wf = true
end Go.Proofs.YthekkjfaaedamaaGreatDoor

namespace Go.Proofs.YthekkjfaaedamaaGreatDoor
open Go.RowKit

def RunPost (r : Option Int) (w : World) (e : Ending) (w' : World) : Prop := e = .returned (match r with | some m => .tuple #[.int .i64 m, .bool true] | none => .tuple #[.int .i64 0, .bool false]) ∧ Below w.heap.size w w'
theorem RunPost.yes {r : Option Int} {m : Int} {w w' : World} (h : r = some m) (hb : Below w.heap.size w w') : RunPost r w (.returned (.tuple #[.int .i64 m, .bool true])) w' := by subst h; exact ⟨rfl, hb⟩
theorem RunPost.no {r : Option Int} {w w' : World} (h : r = none) (hb : Below w.heap.size w w') : RunPost r w (.returned (.tuple #[.int .i64 0, .bool false])) w' := by subst h; exact ⟨rfl, hb⟩
end Go.Proofs.YthekkjfaaedamaaGreatDoor

namespace Go.Proofs.YthekkjfaaedamaaGreatDoor
open Go.RowKit

theorem infoOpC : (Tryz.prog.info? 45).map (fun i => (i.zero, i.size, i.bytes)) = some (some (.agg #[.int .i64 0, .int .i64 0, .int .i64 0, .int .i64 0, .int .i64 0, .string ⟨#[]⟩, .slice none 0 0]), 7, 80) := by kernel_rfl
theorem own_ge {W : World} {base : Nat} {e : TypeId} {sz : Nat} {v : Value} {n : Nat} {xs : List Value} (h : W.ownsRow base e sz v n xs) : ∀ j, v.ownBlock = some j → base ≤ j := by
 intro j hj
 rcases h.2 with ⟨rfl, _⟩ | ⟨g, cap, cur, rfl, hg, _⟩
 ·cases hj
 ·cases hj
  exact hg
theorem grown_own {N : Nat} {e2 e : TypeId} {W W' : World} {u : Value} {n sz : Nat} {cs : List Value} {v : Value} {k z : Nat} {xs : List Value} (h : W.ownsRow N e2 sz u n cs) (hv : W.ownsRow N e z v k xs) (hg : W.grownBy W' v.ownBlock) (hne : e2 ≠ e) : W'.ownsRow N e2 sz u n cs := by
 refine ⟨h.1, ?_⟩
 rcases h.2 with q | ⟨g, cap, cur, q1, q2, q3, q4⟩
 ·exact .inl q
 ·refine .inr ⟨g, cap, cur, q1, q2, ?_, q4⟩
  refine (hg.block g (Array.getElem?_eq_some_iff.1 q3).1 ?_).trans q3
  intro hb
  rcases hv.2 with ⟨rfl, _⟩ | ⟨g', cap', cur', rfl, _, r3, _⟩
  ·cases hb
  ·cases hb
   rw [q3] at r3
   injection r3 with r3
   injection r3 with _ r4
   exact hne r4
theorem typed_keep {N : Nat} {e2 e : TypeId} {W W' : World} {cs : Array Value} {g : Nat} {v : Value} {k z : Nat} {xs : List Value} (h : W.heap[g]? = some (.cells cs e2 (0, 0))) (hv : W.ownsRow N e z v k xs) (hg : W.grownBy W' v.ownBlock) (hne : e2 ≠ e) : W'.heap[g]? = some (.cells cs e2 (0, 0)) := by
 refine (hg.block g (Array.getElem?_eq_some_iff.1 h).1 ?_).trans h
 intro hb
 rcases hv.2 with ⟨rfl, _⟩ | ⟨g', cap', cur', rfl, _, r3, _⟩
 ·cases hb
 ·cases hb
  rw [h] at r3
  injection r3 with r3
  injection r3 with _ r4
  exact hne r4
theorem one_row (W : World) (x : ROp) (ty : TypeId) : RowR 7 (W.alloc (.cells #[.int .i64 x.site, .int .i64 x.seq, .int .i64 x.num, .int .i64 x.kind, .int .i64 x.pl, .string x.text, x.sp] ty)) (.slice (some ⟨W.heap.size, 0, none⟩) 1 1) 1 (oCells [x]) := by
 refine ⟨rfl, _, 1, rfl, fun _ => ⟨W.heap.size, 0, rfl, fun j u hj => ?_⟩⟩
 have h := heap_alloc_new W (.cells #[.int .i64 x.site, .int .i64 x.seq, .int .i64 x.num, .int .i64 x.kind, .int .i64 x.pl, .string x.text, x.sp] ty)
 rw [Nat.zero_add, cell_of_row _ _ j _ _ _ h]
 simpa [oCells, ROp.vals] using hj
end Go.Proofs.YthekkjfaaedamaaGreatDoor

namespace Go.Proofs.YthekkjfaaedamaaGreatDoor
open Go.RowKit

def namedO (l : List ROp) (s q : Int) : Bool := l.any fun x => x.site == s && x.seq == q
theorem namedO_next {l : List ROp} {k : Nat} {x : ROp} (h : l[k]? = some x) (s q : Int) : namedO (l.take (k + 1)) s q = (namedO (l.take k) s q || (x.site == s && x.seq == q)) := by
 unfold namedO
 rw [List.take_add_one, h, List.any_append]
 simp
theorem namedO_sub {l : List ROp} {k : Nat} {x : ROp} (h : l[k]? = some x) {s q : Int} (hx : (x.site == s && x.seq == q) = true) : namedO l s q = true := by
 unfold namedO
 rw [List.any_eq_true]
 exact ⟨x, List.mem_of_getElem? h, hx⟩
set_option maxRecDepth 100000 in
set_option maxHeartbeats 4000000 in
theorem rNamed_any (v : Value) (l : List ROp) (s q : Int) (w : World) (h : RowR 7 w v l.length (oCells l)) (hn : l.length ≤ 1000000) :
  Calls Tryz.prog 46 #[v, nmV s q] w fun e w' => e = .returned (.bool (namedO l s q)) ∧ Below w.heap.size w w' := by
 have hNB := NBox.new s q w 42
 have HA := Lib.hid h
 obtain ⟨ao, cap, rfl⟩ : ∃ ao cap, v = .slice ao l.length cap := by
  obtain ⟨_, ao, cap, e, _⟩ := h
  exact ⟨ao, cap, e⟩
 obtain ⟨N, hN⟩ : ∃ N, l.length = N := ⟨_, rfl⟩
 have HN := Lib.hid hN
 rw [hN] at hn ⊢
 have HNB := Lib.hid hNB
 clear h hN hNB
 unfold nmV
 go_enter Tryz.func46, Tryz.ntmps46
 go_wp2
 go_loopw [5] (fun i wr => ∃ k : Nat, i = .int .i64 k ∧ k ≤ N ∧ RowKit.Hid (namedO (l.take k) s q = false) ∧ RowKit.Hid (NBox w.heap.size s q w wr)) (fun i _ => N - (intOf i).toNat)
 case atStart => exact ⟨0, rfl, Nat.zero_le _, Lib.hid rfl, HNB⟩
 case round =>
  obtain ⟨k, rfl, hk, hf, hb⟩ := hrel
  rcases Nat.lt_or_ge k N with hlt | hge
  ·obtain ⟨x, hx⟩ := getO_some (l := l) (k := k) (by rw [HN.out]; exact hlt)
   have hrow := HA.out.below hb.out.2.2
   obtain ⟨b, off, cp, hv, c0, c1, c2, c3, c4, c5, c6⟩ := oRow_at hrow hx
   rw [HN.out] at hv
   cases hv
   have hi0 : (0 : Int) ≤ (k : Int) ∧ (k : Int) < (N : Int) := ⟨by omega, by omega⟩
   obtain ⟨d0, d1, -⟩ := id hb.out
   obtain ⟨y, hy⟩ : ∃ y, (x.site == s && x.seq == q) = y := ⟨_, rfl⟩
   have hEq := fun W => nmEq_eql W x.site x.seq s q y hy
   have HNX := Lib.hid (namedO_next hx s q)
   have HSB := Lib.hid (fun (e : y = true) => namedO_sub hx (by rw [hy]; exact e))
   have HY := Lib.hid hy
   clear hrow hx hy c2 c3 c4 c5 c6
   cases y with
   | true =>
    go_wp2_with fail
    go_quiet (fail)
    have HB := Lib.hid (hb.out.draws)
    go_wp2
    go_ret
    exact ⟨by rw [HSB.out (by trivial)]; rfl, (HB.out _).2.2⟩
   | false =>
    go_wp2_with fail
    go_quiet (fail)
    have HB := Lib.hid (hb.out.draws)
    go_wp2
    go_roundw
    case rel => exact ⟨k + 1, by go_num, by omega, by rw [HNX.out, hf.out, HY.out]; exact Lib.hid rfl, Lib.hid (HB.out _)⟩
    case measure => simp [intOf]; omega
  ·obtain rfl : N = k := by omega
   have hfin := hf.out
   rw [List.take_of_length_le (by rw [HN.out]; exact Nat.le_refl _)] at hfin
   have HFIN := Lib.hid hfin
   clear hfin
   go_wp2
   go_ret
   exact ⟨by rw [HFIN.out]; rfl, hb.out.2.2⟩
end Go.Proofs.YthekkjfaaedamaaGreatDoor

namespace Go.Proofs.YthekkjfaaedamaaGreatDoor
open Go.RowKit

theorem heap_new (w : World) (o : Obj) : (w.alloc o).heap[w.heap.size]? = some o := World.alloc_heap_new w o
def wordN (f : Nat → Bool) : Nat → Nat
 | 0 => 0
 | n + 1 => wordN f n ||| (if f n then 2 ^ n else 0)
theorem wordN_bit (f : Nat → Bool) : ∀ n j, (wordN f n).testBit j = (decide (j < n) && f j)
 | 0, j => by simp [wordN]
 | n + 1, j => by
  rw [wordN, Nat.testBit_or, wordN_bit f n j]
  by_cases h : j = n
  ·subst h
   by_cases g : f j <;> simp [g]
  ·have e : (if f n = true then 2 ^ n else 0).testBit j = false := by
    split
    ·rw [Nat.testBit_two_pow]; simp; omega
    ·simp
   rw [e, Bool.or_false]
   congr 1
   by_cases g : j < n
   ·rw [decide_eq_true g, decide_eq_true (by omega)]
   ·rw [decide_eq_false g, decide_eq_false (by omega)]
theorem wordN_lt (f : Nat → Bool) : ∀ n, wordN f n < 2 ^ n
 | 0 => by simp [wordN]
 | n + 1 => by
  rw [wordN]
  refine Nat.or_lt_two_pow (Nat.lt_trans (wordN_lt f n) (Nat.pow_lt_pow_right (by omega) (by omega))) ?_
  split
  ·exact Nat.pow_lt_pow_right (by omega) (by omega)
  ·exact Nat.two_pow_pos _
theorem wordN_congr {f g : Nat → Bool} {n : Nat} (h : ∀ i, i < n → f i = g i) : wordN f n = wordN g n := by
 refine Nat.eq_of_testBit_eq fun i => ?_
 rw [wordN_bit, wordN_bit]
 by_cases g : i < n
 ·rw [h i g]
 ·simp [g]
theorem wordN_or (f : Nat → Bool) (j : Nat) (hj : j < 64) : wordN f 64 ||| 2 ^ j = wordN (fun i => f i || decide (i = j)) 64 := by
 refine Nat.eq_of_testBit_eq fun i => ?_
 rw [Nat.testBit_or, wordN_bit, wordN_bit, Nat.testBit_two_pow]
 by_cases h : i = j
 ·subst h
  simp [hj]
 ·have : ¬ j = i := fun e => h e.symm
  simp [h, this]
theorem wordN_has (f : Nat → Bool) (j : Nat) (hj : j < 64) : wordN f 64 / 2 ^ j % 2 = (f j).toNat := by
 have h := wordN_bit f 64 j
 rw [Nat.testBit_eq_decide_div_mod_eq] at h
 rw [decide_eq_true hj, Bool.true_and] at h
 cases hf : f j with
 | true => rw [hf, decide_eq_true_iff] at h; simpa using h
 | false => rw [hf, decide_eq_false_iff_not] at h; simp; omega
def part64 (f : Nat → Bool) (k : Nat) : Nat → Bool := fun j => f (64 * k + j)
def offW (f : Nat → Bool) (k : Nat) : Value := .int .u64 (wordN (part64 f k) 64 : Nat)
abbrev offA (f : Nat → Bool) : Array Value := #[offW f 0, offW f 1, offW f 2, offW f 3]
abbrev offV (f : Nat → Bool) : Value := .agg (offA f)
def addF (f : Nat → Bool) (i : Nat) : Nat → Bool := fun j => f j || decide (j = i)
theorem offW_congr {f g : Nat → Bool} {k : Nat} (h : ∀ j, j < 64 → f (64 * k + j) = g (64 * k + j)) : offW f k = offW g k := by
 unfold offW
 rw [wordN_congr (f := part64 f k) (g := part64 g k) h]
theorem offW_add (f : Nat → Bool) (k q j : Nat) (hj : j < 64) : offW (addF f (64 * q + j)) k = if k = q then .int .u64 ((wordN (part64 f q) 64 ||| 2 ^ j : Nat) : Int) else offW f k := by
 split
 ·next h =>
  subst h
  rw [wordN_or _ _ hj]
  unfold offW
  rw [wordN_congr fun i hi => ?_]
  show (f (64 * k + i) || decide (64 * k + i = 64 * k + j)) = (f (64 * k + i) || decide (i = j))
  congr 1
  by_cases e : i = j
  ·rw [decide_eq_true e, decide_eq_true (by omega)]
  ·rw [decide_eq_false e, decide_eq_false (by omega)]
 ·next h =>
  refine offW_congr fun i hi => ?_
  show (f (64 * k + i) || decide (64 * k + i = 64 * q + j)) = f (64 * k + i)
  rw [decide_eq_false (by omega), Bool.or_false]
theorem off_parts {off : Int} (h0 : 0 ≤ off) (h1 : off < 200) : ∃ q j : Nat, q < 4 ∧ j < 64 ∧ off = ((64 * q + j : Nat) : Int) ∧ off.tdiv 64 = (q : Int) ∧ off.tmod 64 = (j : Int) :=
 ⟨off.toNat / 64, off.toNat % 64, by omega, by omega, by omega, by rw [Int.tdiv_eq_ediv_of_nonneg h0]; omega, by rw [Int.tmod_eq_emod_of_nonneg h0]; omega⟩

theorem and_bit (a j : Nat) (b : Bool) (h : a < 2 ^ 64) (hh : a / 2 ^ j % 2 = b.toNat) : (bits BinOp.and IntKind.u64 ((a : Int) / 2 ^ j) 1 == 1) = b := by
 have hd : a / 2 ^ j < 2 ^ 64 := Nat.lt_of_le_of_lt (Nat.div_le_self _ _) h
 have e := u64_and_nat (a / 2 ^ j) 1 hd (by decide)
 rw [Nat.and_one_is_mod, hh] at e
 have e2 : (((a / 2 ^ j : Nat) : Int)) = (a : Int) / 2 ^ j := by rw [Int.natCast_ediv]; norm_cast
 rw [e2] at e
 rw [show (1 : Int) = ((1 : Nat) : Int) from rfl, e]
 cases b <;> rfl
theorem shl_bit (j : Nat) (hj : j < 64) : IntKind.u64.wrap (2 ^ j) = ((2 ^ j : Nat) : Int) := by
 have hp : 2 ^ j < 2 ^ 64 := Nat.pow_lt_pow_right (by omega) hj
 have e : ((2 : Int) ^ j) = ((2 ^ j : Nat) : Int) := by norm_cast
 rw [e]
 unfold IntKind.wrap
 simp only [IntKind.bits, IntKind.signed, Bool.false_and, Bool.false_eq_true, if_false]
 have h2 : ((2 ^ j : Nat) : Int) % ((2 ^ 64 : Nat) : Int) = ((2 ^ j % 2 ^ 64 : Nat) : Int) := by norm_cast
 rw [Nat.mod_eq_of_lt hp] at h2
 simpa using h2
theorem or_bit (a j : Nat) (h : a < 2 ^ 64) (hj : j < 64) : bits BinOp.or IntKind.u64 (a : Int) (IntKind.u64.wrap (2 ^ j)) = ((a ||| 2 ^ j : Nat) : Int) := by
 rw [shl_bit j hj]
 exact u64_or_nat a (2 ^ j) h (Nat.pow_lt_pow_right (by omega) hj)
theorem infoOffs : (Tryz.prog.info? 121).map (·.size) = some 4 := by kernel_rfl
theorem mayOff_any (off : Int) (w : World) : Calls Tryz.prog 87 #[.int .i64 off] w fun e w' => e = .returned (.bool (decide (0 ≤ off ∧ off < 200))) ∧ w' = w := by
 obtain ⟨b, hb⟩ : ∃ b, decide (0 ≤ off ∧ off < 200) = b := ⟨_, rfl⟩
 rw [hb]
 by_cases h0 : 0 ≤ off
 ·by_cases h1 : off < 200
  ·obtain rfl : b = true := by rw [← hb]; exact decide_eq_true ⟨h0, h1⟩
   clear hb
   go_enter Tryz.func87, Tryz.ntmps87
   go_wp2
   go_ret
   exact ⟨rfl, rfl⟩
  ·obtain rfl : b = false := by rw [← hb]; exact decide_eq_false fun q => h1 q.2
   clear hb
   go_enter Tryz.func87, Tryz.ntmps87
   go_wp2
   go_ret
   exact ⟨rfl, rfl⟩
 ·obtain rfl : b = false := by rw [← hb]; exact decide_eq_false fun q => h0 q.1
  clear hb
  go_enter Tryz.func87, Tryz.ntmps87
  go_wp2
  go_ret
  exact ⟨rfl, rfl⟩
set_option maxRecDepth 100000 in
set_option maxHeartbeats 2000000 in
theorem has_any (f : Nat → Bool) (off : Int) (w : World) : Calls Tryz.prog 89 #[offV f, .int .i64 off] w fun e w' => e = .returned (.bool (decide (0 ≤ off ∧ off < 200) && f off.toNat)) ∧ Below w.heap.size w w' := by
 have hM := fun W => mayOff_any off W
 have hb : Below w.heap.size w (w.alloc (.cells (offA f) 121)) := (Below.refl _ w).alloc (Nat.le_refl _) _
 by_cases h : 0 ≤ off ∧ off < 200
 ·rw [decide_eq_true h] at hM ⊢
  obtain ⟨q, j, hq, hj, rfl, hd, hm⟩ := off_parts h.1 h.2
  have hh := wordN_has (part64 f q) j hj
  rw [show part64 f q j = f (64 * q + j) from rfl] at hh
  rw [Int.toNat_natCast, Bool.true_and]
  generalize ((64 * q + j : Nat) : Int) = z at hM hd hm ⊢
  generalize f (64 * q + j) = b at hh ⊢
  clear h
  have l0 := wordN_lt (part64 f 0) 64
  have l1 := wordN_lt (part64 f 1) 64
  have l2 := wordN_lt (part64 f 2) 64
  have l3 := wordN_lt (part64 f 3) 64
  unfold offV offA offW at hb ⊢
  rcases (by omega : q = 0 ∨ q = 1 ∨ q = 2 ∨ q = 3) with rfl | rfl | rfl | rfl
  all_goals
   generalize wordN (part64 f 0) 64 = a0 at *
   generalize wordN (part64 f 1) 64 = a1 at *
   generalize wordN (part64 f 2) 64 = a2 at *
   generalize wordN (part64 f 3) 64 = a3 at *
   go_enter Tryz.func89, Tryz.ntmps89
   go_wp2_with (go_at_call 87; refine (hM _).mono ?_; clear hM; rintro e _ ⟨rfl, rfl⟩)
   go_ret
   exact ⟨by rw [and_bit _ _ _ ‹_› hh]; rfl, hb⟩
 ·rw [decide_eq_false h] at hM ⊢
  have Hb := Lib.hid hb
  clear hb
  go_enter Tryz.func89, Tryz.ntmps89
  go_wp2_with (go_at_call 87; refine (hM _).mono ?_; clear hM; rintro e _ ⟨rfl, rfl⟩)
  go_ret
  exact ⟨rfl, Hb.out⟩
set_option maxRecDepth 100000 in
set_option maxHeartbeats 2000000 in
theorem with_any (f : Nat → Bool) (off : Int) (w : World) (h0 : 0 ≤ off) (h1 : off < 200) : Calls Tryz.prog 90 #[offV f, .int .i64 off] w fun e w' => e = .returned (offV (addF f off.toNat)) ∧ Below w.heap.size w w' := by
 obtain ⟨q, j, hq, hj, rfl, hd, hm⟩ := off_parts h0 h1
 rw [Int.toNat_natCast]
 have H0 := offW_add f 0 q j hj
 have H1 := offW_add f 1 q j hj
 have H2 := offW_add f 2 q j hj
 have H3 := offW_add f 3 q j hj
 unfold offV offA
 generalize ((64 * q + j : Nat) : Int) = z at hd hm ⊢
 have l0 := wordN_lt (part64 f 0) 64
 have l1 := wordN_lt (part64 f 1) 64
 have l2 := wordN_lt (part64 f 2) 64
 have l3 := wordN_lt (part64 f 3) 64
 clear h0 h1
 rcases (by omega : q = 0 ∨ q = 1 ∨ q = 2 ∨ q = 3) with rfl | rfl | rfl | rfl
 ·rw [H0, H1, H2, H3]
  clear H0 H1 H2 H3
  simp (config := { decide := true }) only [if_true, if_false]
  unfold offW
  generalize wordN (part64 f 0) 64 = a0 at *
  generalize wordN (part64 f 1) 64 = a1 at *
  generalize wordN (part64 f 2) 64 = a2 at *
  generalize wordN (part64 f 3) 64 = a3 at *
  have hwk : IntKind.i64.wrap 0 = 0 := by decide
  have HV := Lib.hid (or_bit a0 j l0 hj)
  go_enter Tryz.func90, Tryz.ntmps90
  go_wp2
  have B0 : (w.alloc (.cells #[.int .u64 (a0 : Nat), .int .u64 (a1 : Nat), .int .u64 (a2 : Nat), .int .u64 (a3 : Nat)] 121)).heap[w.heap.size]? = some (.cells #[.int .u64 (a0 : Nat), .int .u64 (a1 : Nat), .int .u64 (a2 : Nat), .int .u64 (a3 : Nat)] 121 (0, 0)) := heap_new w _
  have HB0 : Below w.heap.size w ((w.alloc (.cells #[.int .u64 (a0 : Nat), .int .u64 (a1 : Nat), .int .u64 (a2 : Nat), .int .u64 (a3 : Nat)] 121)).alloc (.cells #[.int .u64 0, .int .u64 0, .int .u64 0, .int .u64 0] 121)) := ((Below.refl _ w).alloc (Nat.le_refl _) _).alloc (by simp) _
  have B1 : ((w.alloc (.cells #[.int .u64 (a0 : Nat), .int .u64 (a1 : Nat), .int .u64 (a2 : Nat), .int .u64 (a3 : Nat)] 121)).alloc (.cells #[.int .u64 0, .int .u64 0, .int .u64 0, .int .u64 0] 121)).heap[w.heap.size]? = some (.cells #[.int .u64 (a0 : Nat), .int .u64 (a1 : Nat), .int .u64 (a2 : Nat), .int .u64 (a3 : Nat)] 121 (0, 0)) := (Below.heap_alloc _ _ _ (by simp)).trans B0
  have R1 : ((w.alloc (.cells #[.int .u64 (a0 : Nat), .int .u64 (a1 : Nat), .int .u64 (a2 : Nat), .int .u64 (a3 : Nat)] 121)).alloc (.cells #[.int .u64 0, .int .u64 0, .int .u64 0, .int .u64 0] 121)).heap[w.heap.size + 1]? = some (.cells #[.int .u64 0, .int .u64 0, .int .u64 0, .int .u64 0] 121 (0, 0)) := by
   have := heap_new (w.alloc (.cells #[.int .u64 (a0 : Nat), .int .u64 (a1 : Nat), .int .u64 (a2 : Nat), .int .u64 (a3 : Nat)] 121)) (.cells #[.int .u64 0, .int .u64 0, .int .u64 0, .int .u64 0] 121)
   rwa [World.size_alloc] at this
  generalize (w.alloc (.cells #[.int .u64 (a0 : Nat), .int .u64 (a1 : Nat), .int .u64 (a2 : Nat), .int .u64 (a3 : Nat)] 121)).alloc (.cells #[.int .u64 0, .int .u64 0, .int .u64 0, .int .u64 0] 121) = w2 at B1 R1 HB0 ⊢
  clear B0
  refine wp_region_held_drew (S := fun X => ∃ z, X.heap[w.heap.size]? = some (.cells #[z, .int .u64 (a1 : Nat), .int .u64 (a2 : Nat), .int .u64 (a3 : Nat)] 121 (0, 0))) (by kernel_rfl) ⟨_, B1⟩ (fun hHeld => ?_)
  refine tk (i := 0) (v := ?_) rfl (Or.inl ⟨rfl, ?hy1⟩) ?_
  case hy1 =>
   intro W hS
   go_simp
   try with_reducible rfl
  try simp only [Act.put, List.getElem_toArray, List.getElem_cons_zero, List.setIfInBounds_toArray, List.set_cons_zero, List.set_cons_succ]
  refine tk (i := 1) (v := ?_) rfl (Or.inl ⟨rfl, ?hy2⟩) ?_
  case hy2 =>
   intro W hS
   go_simp
   try with_reducible rfl
  try simp only [Act.put, List.getElem_toArray, List.getElem_cons_succ, List.getElem_cons_zero, List.setIfInBounds_toArray, List.set_cons_zero, List.set_cons_succ]
  refine tk (i := 2) (v := ?_) rfl (Or.inl ⟨rfl, ?hy3⟩) ?_
  case hy3 =>
   intro W hS
   go_simp
   try with_reducible rfl
  try simp only [Act.put, List.getElem_toArray, List.getElem_cons_succ, List.getElem_cons_zero, List.setIfInBounds_toArray, List.set_cons_zero, List.set_cons_succ]
  refine tk (i := 3) (v := ?_) rfl (Or.inl ⟨rfl, ?hy4⟩) ?_
  case hy4 =>
   intro W hS
   go_simp
   try with_reducible rfl
  try simp only [Act.put, List.getElem_toArray, List.getElem_cons_succ, List.getElem_cons_zero, List.setIfInBounds_toArray, List.set_cons_zero, List.set_cons_succ]
  refine tk (i := 5) (v := ?_) rfl (Or.inl ⟨rfl, ?hy5⟩) ?_
  case hy5 =>
   intro W hS
   go_simp
   try with_reducible rfl
  try simp only [Act.put, List.getElem_toArray, List.getElem_cons_succ, List.getElem_cons_zero, List.setIfInBounds_toArray, List.set_cons_zero, List.set_cons_succ]
  refine tk (i := 6) (v := ?_) rfl (Or.inl ⟨rfl, ?hy6⟩) ?_
  case hy6 =>
   intro W hS
   go_simp
   try with_reducible rfl
  try simp only [Act.put, List.getElem_toArray, List.getElem_cons_succ, List.getElem_cons_zero, List.setIfInBounds_toArray, List.set_cons_zero, List.set_cons_succ]
  refine tk (i := 7) (v := ?_) rfl (Or.inl ⟨rfl, ?hy7⟩) ?_
  case hy7 =>
   intro W hS
   go_simp
   try with_reducible rfl
  try simp only [Act.put, List.getElem_toArray, List.getElem_cons_succ, List.getElem_cons_zero, List.setIfInBounds_toArray, List.set_cons_zero, List.set_cons_succ]
  refine tk (i := 9) (v := ?_) rfl (Or.inl ⟨rfl, ?hy8⟩) ?_
  case hy8 =>
   intro W hS
   go_simp
   try with_reducible rfl
  try simp only [Act.put, List.getElem_toArray, List.getElem_cons_succ, List.getElem_cons_zero, List.setIfInBounds_toArray, List.set_cons_zero, List.set_cons_succ]
  refine wpAnyH_ready (rs := [4]) (by kernel_rfl) (by simp) (AllReadyH.cons rfl (fun K hK => ?_) AllReadyH.nil)
  have c0 := box_cell (w := w2.drew) B1 0
  go_simp
  refine hK.out _ _ (hHeld) (fun hX => ?_)
  clear hK K hHeld
  have hHeld := hX
  clear hX
  refine tk (i := 8) (v := ?_) rfl (Or.inl ⟨rfl, ?hy9⟩) ?_
  case hy9 =>
   intro W hS
   go_simp
   try with_reducible rfl
  try simp only [Act.put, List.getElem_toArray, List.getElem_cons_succ, List.getElem_cons_zero, List.setIfInBounds_toArray, List.set_cons_zero, List.set_cons_succ]
  refine tk (i := 10) (v := ?_) rfl (Or.inl ⟨rfl, ?hy10⟩) ?_
  case hy10 =>
   intro W hS
   go_simp
   try with_reducible rfl
  try simp only [Act.put, List.getElem_toArray, List.getElem_cons_succ, List.getElem_cons_zero, List.setIfInBounds_toArray, List.set_cons_zero, List.set_cons_succ]
  refine wpAnyH_ready (rs := [11]) (by kernel_rfl) (by simp) (AllReadyH.cons rfl (fun K hK => ?_) AllReadyH.nil)
  clear c0
  have c0 := box_cell (w := w2.drew) B1 0
  have f0 := box_frozen (w := w2.drew) B1 0
  go_simp
  rw [HV.out]
  have B2 : (w2.setCell ⟨w.heap.size, 0, none⟩ (.int .u64 ((a0 ||| 2 ^ j : Nat) : Int))).drew.heap[w.heap.size]? = some (.cells #[.int .u64 ((a0 ||| 2 ^ j : Nat) : Int), .int .u64 (a1 : Nat), .int .u64 (a2 : Nat), .int .u64 (a3 : Nat)] 121 (0, 0)) := box_set (w := w2) B1 0 _
  have R2 : (w2.setCell ⟨w.heap.size, 0, none⟩ (.int .u64 ((a0 ||| 2 ^ j : Nat) : Int))).drew.heap[w.heap.size + 1]? = _ := (box_other (w := w2) (by omega) 0 _).trans R1
  have HB2 := (HB0.setCell (p := ⟨w.heap.size, 0, none⟩) (Nat.le_refl _) (.int .u64 ((a0 ||| 2 ^ j : Nat) : Int))).drew
  refine hK.out _ _ (⟨_, B2⟩) (fun hX => ?_)
  clear hK K hHeld
  have hHeld := hX
  clear hX
  refine wpAnyH_done (by kernel_rfl) ?_ _
  generalize (w2.setCell ⟨w.heap.size, 0, none⟩ (.int .u64 ((a0 ||| 2 ^ j : Nat) : Int))).drew = w3 at B2 R2 HB2 ⊢
  clear c0 f0 B1 R1 HB0 hHeld
  have c0 := box_cell B2 0
  have c1 := box_cell B2 1
  have c2 := box_cell B2 2
  have c3 := box_cell B2 3
  have g0 := box_cell R2 0
  have g1 := box_cell R2 1
  have g2 := box_cell R2 2
  have g3 := box_cell R2 3
  have f0 := box_frozen R2 0
  have f1 := box_frozen R2 1
  have f2 := box_frozen R2 2
  have f3 := box_frozen R2 3
  have HR := Lib.hid R2
  have HB := Lib.hid HB2
  clear R2 HB2
  go_wp2
  have R3 := box_set (box_set (box_set (box_set HR.out 0 (.int .u64 ((a0 ||| 2 ^ j : Nat) : Int))) 1 (.int .u64 (a1 : Nat))) 2 (.int .u64 (a2 : Nat))) 3 (.int .u64 (a3 : Nat))
  have HB3 := (((HB.out.setCell (p := ⟨w.heap.size + 1, 0, none⟩) (by show w.heap.size ≤ w.heap.size + 1; omega) (.int .u64 ((a0 ||| 2 ^ j : Nat) : Int))).setCell (p := ⟨w.heap.size + 1, 1, none⟩) (by show w.heap.size ≤ w.heap.size + 1; omega) (.int .u64 (a1 : Nat))).setCell (p := ⟨w.heap.size + 1, 2, none⟩) (by show w.heap.size ≤ w.heap.size + 1; omega) (.int .u64 (a2 : Nat))).setCell (p := ⟨w.heap.size + 1, 3, none⟩) (by show w.heap.size ≤ w.heap.size + 1; omega) (.int .u64 (a3 : Nat))
  exact bodyPost_ret (results_cell_row (fn := Tryz.f90) (p := 4) rfl _ _ (w.heap.size + 1) 121 _ (0, 0) _ rfl R3 Tryz.underlying121 rfl infoOffs) rfl ⟨rfl, HB3⟩
 ·rw [H0, H1, H2, H3]
  clear H0 H1 H2 H3
  simp (config := { decide := true }) only [if_true, if_false]
  unfold offW
  generalize wordN (part64 f 0) 64 = a0 at *
  generalize wordN (part64 f 1) 64 = a1 at *
  generalize wordN (part64 f 2) 64 = a2 at *
  generalize wordN (part64 f 3) 64 = a3 at *
  have hwk : IntKind.i64.wrap 1 = 1 := by decide
  have HV := Lib.hid (or_bit a1 j l1 hj)
  go_enter Tryz.func90, Tryz.ntmps90
  go_wp2
  have B0 : (w.alloc (.cells #[.int .u64 (a0 : Nat), .int .u64 (a1 : Nat), .int .u64 (a2 : Nat), .int .u64 (a3 : Nat)] 121)).heap[w.heap.size]? = some (.cells #[.int .u64 (a0 : Nat), .int .u64 (a1 : Nat), .int .u64 (a2 : Nat), .int .u64 (a3 : Nat)] 121 (0, 0)) := heap_new w _
  have HB0 : Below w.heap.size w ((w.alloc (.cells #[.int .u64 (a0 : Nat), .int .u64 (a1 : Nat), .int .u64 (a2 : Nat), .int .u64 (a3 : Nat)] 121)).alloc (.cells #[.int .u64 0, .int .u64 0, .int .u64 0, .int .u64 0] 121)) := ((Below.refl _ w).alloc (Nat.le_refl _) _).alloc (by simp) _
  have B1 : ((w.alloc (.cells #[.int .u64 (a0 : Nat), .int .u64 (a1 : Nat), .int .u64 (a2 : Nat), .int .u64 (a3 : Nat)] 121)).alloc (.cells #[.int .u64 0, .int .u64 0, .int .u64 0, .int .u64 0] 121)).heap[w.heap.size]? = some (.cells #[.int .u64 (a0 : Nat), .int .u64 (a1 : Nat), .int .u64 (a2 : Nat), .int .u64 (a3 : Nat)] 121 (0, 0)) := (Below.heap_alloc _ _ _ (by simp)).trans B0
  have R1 : ((w.alloc (.cells #[.int .u64 (a0 : Nat), .int .u64 (a1 : Nat), .int .u64 (a2 : Nat), .int .u64 (a3 : Nat)] 121)).alloc (.cells #[.int .u64 0, .int .u64 0, .int .u64 0, .int .u64 0] 121)).heap[w.heap.size + 1]? = some (.cells #[.int .u64 0, .int .u64 0, .int .u64 0, .int .u64 0] 121 (0, 0)) := by
   have := heap_new (w.alloc (.cells #[.int .u64 (a0 : Nat), .int .u64 (a1 : Nat), .int .u64 (a2 : Nat), .int .u64 (a3 : Nat)] 121)) (.cells #[.int .u64 0, .int .u64 0, .int .u64 0, .int .u64 0] 121)
   rwa [World.size_alloc] at this
  generalize (w.alloc (.cells #[.int .u64 (a0 : Nat), .int .u64 (a1 : Nat), .int .u64 (a2 : Nat), .int .u64 (a3 : Nat)] 121)).alloc (.cells #[.int .u64 0, .int .u64 0, .int .u64 0, .int .u64 0] 121) = w2 at B1 R1 HB0 ⊢
  clear B0
  refine wp_region_held_drew (S := fun X => ∃ z, X.heap[w.heap.size]? = some (.cells #[.int .u64 (a0 : Nat), z, .int .u64 (a2 : Nat), .int .u64 (a3 : Nat)] 121 (0, 0))) (by kernel_rfl) ⟨_, B1⟩ (fun hHeld => ?_)
  refine tk (i := 0) (v := ?_) rfl (Or.inl ⟨rfl, ?hy11⟩) ?_
  case hy11 =>
   intro W hS
   go_simp
   try with_reducible rfl
  try simp only [Act.put, List.getElem_toArray, List.getElem_cons_zero, List.setIfInBounds_toArray, List.set_cons_zero, List.set_cons_succ]
  refine tk (i := 1) (v := ?_) rfl (Or.inl ⟨rfl, ?hy12⟩) ?_
  case hy12 =>
   intro W hS
   go_simp
   try with_reducible rfl
  try simp only [Act.put, List.getElem_toArray, List.getElem_cons_succ, List.getElem_cons_zero, List.setIfInBounds_toArray, List.set_cons_zero, List.set_cons_succ]
  refine tk (i := 2) (v := ?_) rfl (Or.inl ⟨rfl, ?hy13⟩) ?_
  case hy13 =>
   intro W hS
   go_simp
   try with_reducible rfl
  try simp only [Act.put, List.getElem_toArray, List.getElem_cons_succ, List.getElem_cons_zero, List.setIfInBounds_toArray, List.set_cons_zero, List.set_cons_succ]
  refine tk (i := 3) (v := ?_) rfl (Or.inl ⟨rfl, ?hy14⟩) ?_
  case hy14 =>
   intro W hS
   go_simp
   try with_reducible rfl
  try simp only [Act.put, List.getElem_toArray, List.getElem_cons_succ, List.getElem_cons_zero, List.setIfInBounds_toArray, List.set_cons_zero, List.set_cons_succ]
  refine tk (i := 5) (v := ?_) rfl (Or.inl ⟨rfl, ?hy15⟩) ?_
  case hy15 =>
   intro W hS
   go_simp
   try with_reducible rfl
  try simp only [Act.put, List.getElem_toArray, List.getElem_cons_succ, List.getElem_cons_zero, List.setIfInBounds_toArray, List.set_cons_zero, List.set_cons_succ]
  refine tk (i := 6) (v := ?_) rfl (Or.inl ⟨rfl, ?hy16⟩) ?_
  case hy16 =>
   intro W hS
   go_simp
   try with_reducible rfl
  try simp only [Act.put, List.getElem_toArray, List.getElem_cons_succ, List.getElem_cons_zero, List.setIfInBounds_toArray, List.set_cons_zero, List.set_cons_succ]
  refine tk (i := 7) (v := ?_) rfl (Or.inl ⟨rfl, ?hy17⟩) ?_
  case hy17 =>
   intro W hS
   go_simp
   try with_reducible rfl
  try simp only [Act.put, List.getElem_toArray, List.getElem_cons_succ, List.getElem_cons_zero, List.setIfInBounds_toArray, List.set_cons_zero, List.set_cons_succ]
  refine tk (i := 9) (v := ?_) rfl (Or.inl ⟨rfl, ?hy18⟩) ?_
  case hy18 =>
   intro W hS
   go_simp
   try with_reducible rfl
  try simp only [Act.put, List.getElem_toArray, List.getElem_cons_succ, List.getElem_cons_zero, List.setIfInBounds_toArray, List.set_cons_zero, List.set_cons_succ]
  refine wpAnyH_ready (rs := [4]) (by kernel_rfl) (by simp) (AllReadyH.cons rfl (fun K hK => ?_) AllReadyH.nil)
  have c0 := box_cell (w := w2.drew) B1 1
  go_simp
  refine hK.out _ _ (hHeld) (fun hX => ?_)
  clear hK K hHeld
  have hHeld := hX
  clear hX
  refine tk (i := 8) (v := ?_) rfl (Or.inl ⟨rfl, ?hy19⟩) ?_
  case hy19 =>
   intro W hS
   go_simp
   try with_reducible rfl
  try simp only [Act.put, List.getElem_toArray, List.getElem_cons_succ, List.getElem_cons_zero, List.setIfInBounds_toArray, List.set_cons_zero, List.set_cons_succ]
  refine tk (i := 10) (v := ?_) rfl (Or.inl ⟨rfl, ?hy20⟩) ?_
  case hy20 =>
   intro W hS
   go_simp
   try with_reducible rfl
  try simp only [Act.put, List.getElem_toArray, List.getElem_cons_succ, List.getElem_cons_zero, List.setIfInBounds_toArray, List.set_cons_zero, List.set_cons_succ]
  refine wpAnyH_ready (rs := [11]) (by kernel_rfl) (by simp) (AllReadyH.cons rfl (fun K hK => ?_) AllReadyH.nil)
  clear c0
  have c0 := box_cell (w := w2.drew) B1 1
  have f0 := box_frozen (w := w2.drew) B1 1
  go_simp
  rw [HV.out]
  have B2 : (w2.setCell ⟨w.heap.size, 1, none⟩ (.int .u64 ((a1 ||| 2 ^ j : Nat) : Int))).drew.heap[w.heap.size]? = some (.cells #[.int .u64 (a0 : Nat), .int .u64 ((a1 ||| 2 ^ j : Nat) : Int), .int .u64 (a2 : Nat), .int .u64 (a3 : Nat)] 121 (0, 0)) := box_set (w := w2) B1 1 _
  have R2 : (w2.setCell ⟨w.heap.size, 1, none⟩ (.int .u64 ((a1 ||| 2 ^ j : Nat) : Int))).drew.heap[w.heap.size + 1]? = _ := (box_other (w := w2) (by omega) 1 _).trans R1
  have HB2 := (HB0.setCell (p := ⟨w.heap.size, 1, none⟩) (Nat.le_refl _) (.int .u64 ((a1 ||| 2 ^ j : Nat) : Int))).drew
  refine hK.out _ _ (⟨_, B2⟩) (fun hX => ?_)
  clear hK K hHeld
  have hHeld := hX
  clear hX
  refine wpAnyH_done (by kernel_rfl) ?_ _
  generalize (w2.setCell ⟨w.heap.size, 1, none⟩ (.int .u64 ((a1 ||| 2 ^ j : Nat) : Int))).drew = w3 at B2 R2 HB2 ⊢
  clear c0 f0 B1 R1 HB0 hHeld
  have c0 := box_cell B2 0
  have c1 := box_cell B2 1
  have c2 := box_cell B2 2
  have c3 := box_cell B2 3
  have g0 := box_cell R2 0
  have g1 := box_cell R2 1
  have g2 := box_cell R2 2
  have g3 := box_cell R2 3
  have f0 := box_frozen R2 0
  have f1 := box_frozen R2 1
  have f2 := box_frozen R2 2
  have f3 := box_frozen R2 3
  have HR := Lib.hid R2
  have HB := Lib.hid HB2
  clear R2 HB2
  go_wp2
  have R3 := box_set (box_set (box_set (box_set HR.out 0 (.int .u64 (a0 : Nat))) 1 (.int .u64 ((a1 ||| 2 ^ j : Nat) : Int))) 2 (.int .u64 (a2 : Nat))) 3 (.int .u64 (a3 : Nat))
  have HB3 := (((HB.out.setCell (p := ⟨w.heap.size + 1, 0, none⟩) (by show w.heap.size ≤ w.heap.size + 1; omega) (.int .u64 (a0 : Nat))).setCell (p := ⟨w.heap.size + 1, 1, none⟩) (by show w.heap.size ≤ w.heap.size + 1; omega) (.int .u64 ((a1 ||| 2 ^ j : Nat) : Int))).setCell (p := ⟨w.heap.size + 1, 2, none⟩) (by show w.heap.size ≤ w.heap.size + 1; omega) (.int .u64 (a2 : Nat))).setCell (p := ⟨w.heap.size + 1, 3, none⟩) (by show w.heap.size ≤ w.heap.size + 1; omega) (.int .u64 (a3 : Nat))
  exact bodyPost_ret (results_cell_row (fn := Tryz.f90) (p := 4) rfl _ _ (w.heap.size + 1) 121 _ (0, 0) _ rfl R3 Tryz.underlying121 rfl infoOffs) rfl ⟨rfl, HB3⟩
 ·rw [H0, H1, H2, H3]
  clear H0 H1 H2 H3
  simp (config := { decide := true }) only [if_true, if_false]
  unfold offW
  generalize wordN (part64 f 0) 64 = a0 at *
  generalize wordN (part64 f 1) 64 = a1 at *
  generalize wordN (part64 f 2) 64 = a2 at *
  generalize wordN (part64 f 3) 64 = a3 at *
  have hwk : IntKind.i64.wrap 2 = 2 := by decide
  have HV := Lib.hid (or_bit a2 j l2 hj)
  go_enter Tryz.func90, Tryz.ntmps90
  go_wp2
  have B0 : (w.alloc (.cells #[.int .u64 (a0 : Nat), .int .u64 (a1 : Nat), .int .u64 (a2 : Nat), .int .u64 (a3 : Nat)] 121)).heap[w.heap.size]? = some (.cells #[.int .u64 (a0 : Nat), .int .u64 (a1 : Nat), .int .u64 (a2 : Nat), .int .u64 (a3 : Nat)] 121 (0, 0)) := heap_new w _
  have HB0 : Below w.heap.size w ((w.alloc (.cells #[.int .u64 (a0 : Nat), .int .u64 (a1 : Nat), .int .u64 (a2 : Nat), .int .u64 (a3 : Nat)] 121)).alloc (.cells #[.int .u64 0, .int .u64 0, .int .u64 0, .int .u64 0] 121)) := ((Below.refl _ w).alloc (Nat.le_refl _) _).alloc (by simp) _
  have B1 : ((w.alloc (.cells #[.int .u64 (a0 : Nat), .int .u64 (a1 : Nat), .int .u64 (a2 : Nat), .int .u64 (a3 : Nat)] 121)).alloc (.cells #[.int .u64 0, .int .u64 0, .int .u64 0, .int .u64 0] 121)).heap[w.heap.size]? = some (.cells #[.int .u64 (a0 : Nat), .int .u64 (a1 : Nat), .int .u64 (a2 : Nat), .int .u64 (a3 : Nat)] 121 (0, 0)) := (Below.heap_alloc _ _ _ (by simp)).trans B0
  have R1 : ((w.alloc (.cells #[.int .u64 (a0 : Nat), .int .u64 (a1 : Nat), .int .u64 (a2 : Nat), .int .u64 (a3 : Nat)] 121)).alloc (.cells #[.int .u64 0, .int .u64 0, .int .u64 0, .int .u64 0] 121)).heap[w.heap.size + 1]? = some (.cells #[.int .u64 0, .int .u64 0, .int .u64 0, .int .u64 0] 121 (0, 0)) := by
   have := heap_new (w.alloc (.cells #[.int .u64 (a0 : Nat), .int .u64 (a1 : Nat), .int .u64 (a2 : Nat), .int .u64 (a3 : Nat)] 121)) (.cells #[.int .u64 0, .int .u64 0, .int .u64 0, .int .u64 0] 121)
   rwa [World.size_alloc] at this
  generalize (w.alloc (.cells #[.int .u64 (a0 : Nat), .int .u64 (a1 : Nat), .int .u64 (a2 : Nat), .int .u64 (a3 : Nat)] 121)).alloc (.cells #[.int .u64 0, .int .u64 0, .int .u64 0, .int .u64 0] 121) = w2 at B1 R1 HB0 ⊢
  clear B0
  refine wp_region_held_drew (S := fun X => ∃ z, X.heap[w.heap.size]? = some (.cells #[.int .u64 (a0 : Nat), .int .u64 (a1 : Nat), z, .int .u64 (a3 : Nat)] 121 (0, 0))) (by kernel_rfl) ⟨_, B1⟩ (fun hHeld => ?_)
  refine tk (i := 0) (v := ?_) rfl (Or.inl ⟨rfl, ?hy21⟩) ?_
  case hy21 =>
   intro W hS
   go_simp
   try with_reducible rfl
  try simp only [Act.put, List.getElem_toArray, List.getElem_cons_zero, List.setIfInBounds_toArray, List.set_cons_zero, List.set_cons_succ]
  refine tk (i := 1) (v := ?_) rfl (Or.inl ⟨rfl, ?hy22⟩) ?_
  case hy22 =>
   intro W hS
   go_simp
   try with_reducible rfl
  try simp only [Act.put, List.getElem_toArray, List.getElem_cons_succ, List.getElem_cons_zero, List.setIfInBounds_toArray, List.set_cons_zero, List.set_cons_succ]
  refine tk (i := 2) (v := ?_) rfl (Or.inl ⟨rfl, ?hy23⟩) ?_
  case hy23 =>
   intro W hS
   go_simp
   try with_reducible rfl
  try simp only [Act.put, List.getElem_toArray, List.getElem_cons_succ, List.getElem_cons_zero, List.setIfInBounds_toArray, List.set_cons_zero, List.set_cons_succ]
  refine tk (i := 3) (v := ?_) rfl (Or.inl ⟨rfl, ?hy24⟩) ?_
  case hy24 =>
   intro W hS
   go_simp
   try with_reducible rfl
  try simp only [Act.put, List.getElem_toArray, List.getElem_cons_succ, List.getElem_cons_zero, List.setIfInBounds_toArray, List.set_cons_zero, List.set_cons_succ]
  refine tk (i := 5) (v := ?_) rfl (Or.inl ⟨rfl, ?hy25⟩) ?_
  case hy25 =>
   intro W hS
   go_simp
   try with_reducible rfl
  try simp only [Act.put, List.getElem_toArray, List.getElem_cons_succ, List.getElem_cons_zero, List.setIfInBounds_toArray, List.set_cons_zero, List.set_cons_succ]
  refine tk (i := 6) (v := ?_) rfl (Or.inl ⟨rfl, ?hy26⟩) ?_
  case hy26 =>
   intro W hS
   go_simp
   try with_reducible rfl
  try simp only [Act.put, List.getElem_toArray, List.getElem_cons_succ, List.getElem_cons_zero, List.setIfInBounds_toArray, List.set_cons_zero, List.set_cons_succ]
  refine tk (i := 7) (v := ?_) rfl (Or.inl ⟨rfl, ?hy27⟩) ?_
  case hy27 =>
   intro W hS
   go_simp
   try with_reducible rfl
  try simp only [Act.put, List.getElem_toArray, List.getElem_cons_succ, List.getElem_cons_zero, List.setIfInBounds_toArray, List.set_cons_zero, List.set_cons_succ]
  refine tk (i := 9) (v := ?_) rfl (Or.inl ⟨rfl, ?hy28⟩) ?_
  case hy28 =>
   intro W hS
   go_simp
   try with_reducible rfl
  try simp only [Act.put, List.getElem_toArray, List.getElem_cons_succ, List.getElem_cons_zero, List.setIfInBounds_toArray, List.set_cons_zero, List.set_cons_succ]
  refine wpAnyH_ready (rs := [4]) (by kernel_rfl) (by simp) (AllReadyH.cons rfl (fun K hK => ?_) AllReadyH.nil)
  have c0 := box_cell (w := w2.drew) B1 2
  go_simp
  refine hK.out _ _ (hHeld) (fun hX => ?_)
  clear hK K hHeld
  have hHeld := hX
  clear hX
  refine tk (i := 8) (v := ?_) rfl (Or.inl ⟨rfl, ?hy29⟩) ?_
  case hy29 =>
   intro W hS
   go_simp
   try with_reducible rfl
  try simp only [Act.put, List.getElem_toArray, List.getElem_cons_succ, List.getElem_cons_zero, List.setIfInBounds_toArray, List.set_cons_zero, List.set_cons_succ]
  refine tk (i := 10) (v := ?_) rfl (Or.inl ⟨rfl, ?hy30⟩) ?_
  case hy30 =>
   intro W hS
   go_simp
   try with_reducible rfl
  try simp only [Act.put, List.getElem_toArray, List.getElem_cons_succ, List.getElem_cons_zero, List.setIfInBounds_toArray, List.set_cons_zero, List.set_cons_succ]
  refine wpAnyH_ready (rs := [11]) (by kernel_rfl) (by simp) (AllReadyH.cons rfl (fun K hK => ?_) AllReadyH.nil)
  clear c0
  have c0 := box_cell (w := w2.drew) B1 2
  have f0 := box_frozen (w := w2.drew) B1 2
  go_simp
  rw [HV.out]
  have B2 : (w2.setCell ⟨w.heap.size, 2, none⟩ (.int .u64 ((a2 ||| 2 ^ j : Nat) : Int))).drew.heap[w.heap.size]? = some (.cells #[.int .u64 (a0 : Nat), .int .u64 (a1 : Nat), .int .u64 ((a2 ||| 2 ^ j : Nat) : Int), .int .u64 (a3 : Nat)] 121 (0, 0)) := box_set (w := w2) B1 2 _
  have R2 : (w2.setCell ⟨w.heap.size, 2, none⟩ (.int .u64 ((a2 ||| 2 ^ j : Nat) : Int))).drew.heap[w.heap.size + 1]? = _ := (box_other (w := w2) (by omega) 2 _).trans R1
  have HB2 := (HB0.setCell (p := ⟨w.heap.size, 2, none⟩) (Nat.le_refl _) (.int .u64 ((a2 ||| 2 ^ j : Nat) : Int))).drew
  refine hK.out _ _ (⟨_, B2⟩) (fun hX => ?_)
  clear hK K hHeld
  have hHeld := hX
  clear hX
  refine wpAnyH_done (by kernel_rfl) ?_ _
  generalize (w2.setCell ⟨w.heap.size, 2, none⟩ (.int .u64 ((a2 ||| 2 ^ j : Nat) : Int))).drew = w3 at B2 R2 HB2 ⊢
  clear c0 f0 B1 R1 HB0 hHeld
  have c0 := box_cell B2 0
  have c1 := box_cell B2 1
  have c2 := box_cell B2 2
  have c3 := box_cell B2 3
  have g0 := box_cell R2 0
  have g1 := box_cell R2 1
  have g2 := box_cell R2 2
  have g3 := box_cell R2 3
  have f0 := box_frozen R2 0
  have f1 := box_frozen R2 1
  have f2 := box_frozen R2 2
  have f3 := box_frozen R2 3
  have HR := Lib.hid R2
  have HB := Lib.hid HB2
  clear R2 HB2
  go_wp2
  have R3 := box_set (box_set (box_set (box_set HR.out 0 (.int .u64 (a0 : Nat))) 1 (.int .u64 (a1 : Nat))) 2 (.int .u64 ((a2 ||| 2 ^ j : Nat) : Int))) 3 (.int .u64 (a3 : Nat))
  have HB3 := (((HB.out.setCell (p := ⟨w.heap.size + 1, 0, none⟩) (by show w.heap.size ≤ w.heap.size + 1; omega) (.int .u64 (a0 : Nat))).setCell (p := ⟨w.heap.size + 1, 1, none⟩) (by show w.heap.size ≤ w.heap.size + 1; omega) (.int .u64 (a1 : Nat))).setCell (p := ⟨w.heap.size + 1, 2, none⟩) (by show w.heap.size ≤ w.heap.size + 1; omega) (.int .u64 ((a2 ||| 2 ^ j : Nat) : Int))).setCell (p := ⟨w.heap.size + 1, 3, none⟩) (by show w.heap.size ≤ w.heap.size + 1; omega) (.int .u64 (a3 : Nat))
  exact bodyPost_ret (results_cell_row (fn := Tryz.f90) (p := 4) rfl _ _ (w.heap.size + 1) 121 _ (0, 0) _ rfl R3 Tryz.underlying121 rfl infoOffs) rfl ⟨rfl, HB3⟩
 ·rw [H0, H1, H2, H3]
  clear H0 H1 H2 H3
  simp (config := { decide := true }) only [if_true, if_false]
  unfold offW
  generalize wordN (part64 f 0) 64 = a0 at *
  generalize wordN (part64 f 1) 64 = a1 at *
  generalize wordN (part64 f 2) 64 = a2 at *
  generalize wordN (part64 f 3) 64 = a3 at *
  have hwk : IntKind.i64.wrap 3 = 3 := by decide
  have HV := Lib.hid (or_bit a3 j l3 hj)
  go_enter Tryz.func90, Tryz.ntmps90
  go_wp2
  have B0 : (w.alloc (.cells #[.int .u64 (a0 : Nat), .int .u64 (a1 : Nat), .int .u64 (a2 : Nat), .int .u64 (a3 : Nat)] 121)).heap[w.heap.size]? = some (.cells #[.int .u64 (a0 : Nat), .int .u64 (a1 : Nat), .int .u64 (a2 : Nat), .int .u64 (a3 : Nat)] 121 (0, 0)) := heap_new w _
  have HB0 : Below w.heap.size w ((w.alloc (.cells #[.int .u64 (a0 : Nat), .int .u64 (a1 : Nat), .int .u64 (a2 : Nat), .int .u64 (a3 : Nat)] 121)).alloc (.cells #[.int .u64 0, .int .u64 0, .int .u64 0, .int .u64 0] 121)) := ((Below.refl _ w).alloc (Nat.le_refl _) _).alloc (by simp) _
  have B1 : ((w.alloc (.cells #[.int .u64 (a0 : Nat), .int .u64 (a1 : Nat), .int .u64 (a2 : Nat), .int .u64 (a3 : Nat)] 121)).alloc (.cells #[.int .u64 0, .int .u64 0, .int .u64 0, .int .u64 0] 121)).heap[w.heap.size]? = some (.cells #[.int .u64 (a0 : Nat), .int .u64 (a1 : Nat), .int .u64 (a2 : Nat), .int .u64 (a3 : Nat)] 121 (0, 0)) := (Below.heap_alloc _ _ _ (by simp)).trans B0
  have R1 : ((w.alloc (.cells #[.int .u64 (a0 : Nat), .int .u64 (a1 : Nat), .int .u64 (a2 : Nat), .int .u64 (a3 : Nat)] 121)).alloc (.cells #[.int .u64 0, .int .u64 0, .int .u64 0, .int .u64 0] 121)).heap[w.heap.size + 1]? = some (.cells #[.int .u64 0, .int .u64 0, .int .u64 0, .int .u64 0] 121 (0, 0)) := by
   have := heap_new (w.alloc (.cells #[.int .u64 (a0 : Nat), .int .u64 (a1 : Nat), .int .u64 (a2 : Nat), .int .u64 (a3 : Nat)] 121)) (.cells #[.int .u64 0, .int .u64 0, .int .u64 0, .int .u64 0] 121)
   rwa [World.size_alloc] at this
  generalize (w.alloc (.cells #[.int .u64 (a0 : Nat), .int .u64 (a1 : Nat), .int .u64 (a2 : Nat), .int .u64 (a3 : Nat)] 121)).alloc (.cells #[.int .u64 0, .int .u64 0, .int .u64 0, .int .u64 0] 121) = w2 at B1 R1 HB0 ⊢
  clear B0
  refine wp_region_held_drew (S := fun X => ∃ z, X.heap[w.heap.size]? = some (.cells #[.int .u64 (a0 : Nat), .int .u64 (a1 : Nat), .int .u64 (a2 : Nat), z] 121 (0, 0))) (by kernel_rfl) ⟨_, B1⟩ (fun hHeld => ?_)
  refine tk (i := 0) (v := ?_) rfl (Or.inl ⟨rfl, ?hy31⟩) ?_
  case hy31 =>
   intro W hS
   go_simp
   try with_reducible rfl
  try simp only [Act.put, List.getElem_toArray, List.getElem_cons_zero, List.setIfInBounds_toArray, List.set_cons_zero, List.set_cons_succ]
  refine tk (i := 1) (v := ?_) rfl (Or.inl ⟨rfl, ?hy32⟩) ?_
  case hy32 =>
   intro W hS
   go_simp
   try with_reducible rfl
  try simp only [Act.put, List.getElem_toArray, List.getElem_cons_succ, List.getElem_cons_zero, List.setIfInBounds_toArray, List.set_cons_zero, List.set_cons_succ]
  refine tk (i := 2) (v := ?_) rfl (Or.inl ⟨rfl, ?hy33⟩) ?_
  case hy33 =>
   intro W hS
   go_simp
   try with_reducible rfl
  try simp only [Act.put, List.getElem_toArray, List.getElem_cons_succ, List.getElem_cons_zero, List.setIfInBounds_toArray, List.set_cons_zero, List.set_cons_succ]
  refine tk (i := 3) (v := ?_) rfl (Or.inl ⟨rfl, ?hy34⟩) ?_
  case hy34 =>
   intro W hS
   go_simp
   try with_reducible rfl
  try simp only [Act.put, List.getElem_toArray, List.getElem_cons_succ, List.getElem_cons_zero, List.setIfInBounds_toArray, List.set_cons_zero, List.set_cons_succ]
  refine tk (i := 5) (v := ?_) rfl (Or.inl ⟨rfl, ?hy35⟩) ?_
  case hy35 =>
   intro W hS
   go_simp
   try with_reducible rfl
  try simp only [Act.put, List.getElem_toArray, List.getElem_cons_succ, List.getElem_cons_zero, List.setIfInBounds_toArray, List.set_cons_zero, List.set_cons_succ]
  refine tk (i := 6) (v := ?_) rfl (Or.inl ⟨rfl, ?hy36⟩) ?_
  case hy36 =>
   intro W hS
   go_simp
   try with_reducible rfl
  try simp only [Act.put, List.getElem_toArray, List.getElem_cons_succ, List.getElem_cons_zero, List.setIfInBounds_toArray, List.set_cons_zero, List.set_cons_succ]
  refine tk (i := 7) (v := ?_) rfl (Or.inl ⟨rfl, ?hy37⟩) ?_
  case hy37 =>
   intro W hS
   go_simp
   try with_reducible rfl
  try simp only [Act.put, List.getElem_toArray, List.getElem_cons_succ, List.getElem_cons_zero, List.setIfInBounds_toArray, List.set_cons_zero, List.set_cons_succ]
  refine tk (i := 9) (v := ?_) rfl (Or.inl ⟨rfl, ?hy38⟩) ?_
  case hy38 =>
   intro W hS
   go_simp
   try with_reducible rfl
  try simp only [Act.put, List.getElem_toArray, List.getElem_cons_succ, List.getElem_cons_zero, List.setIfInBounds_toArray, List.set_cons_zero, List.set_cons_succ]
  refine wpAnyH_ready (rs := [4]) (by kernel_rfl) (by simp) (AllReadyH.cons rfl (fun K hK => ?_) AllReadyH.nil)
  have c0 := box_cell (w := w2.drew) B1 3
  go_simp
  refine hK.out _ _ (hHeld) (fun hX => ?_)
  clear hK K hHeld
  have hHeld := hX
  clear hX
  refine tk (i := 8) (v := ?_) rfl (Or.inl ⟨rfl, ?hy39⟩) ?_
  case hy39 =>
   intro W hS
   go_simp
   try with_reducible rfl
  try simp only [Act.put, List.getElem_toArray, List.getElem_cons_succ, List.getElem_cons_zero, List.setIfInBounds_toArray, List.set_cons_zero, List.set_cons_succ]
  refine tk (i := 10) (v := ?_) rfl (Or.inl ⟨rfl, ?hy40⟩) ?_
  case hy40 =>
   intro W hS
   go_simp
   try with_reducible rfl
  try simp only [Act.put, List.getElem_toArray, List.getElem_cons_succ, List.getElem_cons_zero, List.setIfInBounds_toArray, List.set_cons_zero, List.set_cons_succ]
  refine wpAnyH_ready (rs := [11]) (by kernel_rfl) (by simp) (AllReadyH.cons rfl (fun K hK => ?_) AllReadyH.nil)
  clear c0
  have c0 := box_cell (w := w2.drew) B1 3
  have f0 := box_frozen (w := w2.drew) B1 3
  go_simp
  rw [HV.out]
  have B2 : (w2.setCell ⟨w.heap.size, 3, none⟩ (.int .u64 ((a3 ||| 2 ^ j : Nat) : Int))).drew.heap[w.heap.size]? = some (.cells #[.int .u64 (a0 : Nat), .int .u64 (a1 : Nat), .int .u64 (a2 : Nat), .int .u64 ((a3 ||| 2 ^ j : Nat) : Int)] 121 (0, 0)) := box_set (w := w2) B1 3 _
  have R2 : (w2.setCell ⟨w.heap.size, 3, none⟩ (.int .u64 ((a3 ||| 2 ^ j : Nat) : Int))).drew.heap[w.heap.size + 1]? = _ := (box_other (w := w2) (by omega) 3 _).trans R1
  have HB2 := (HB0.setCell (p := ⟨w.heap.size, 3, none⟩) (Nat.le_refl _) (.int .u64 ((a3 ||| 2 ^ j : Nat) : Int))).drew
  refine hK.out _ _ (⟨_, B2⟩) (fun hX => ?_)
  clear hK K hHeld
  have hHeld := hX
  clear hX
  refine wpAnyH_done (by kernel_rfl) ?_ _
  generalize (w2.setCell ⟨w.heap.size, 3, none⟩ (.int .u64 ((a3 ||| 2 ^ j : Nat) : Int))).drew = w3 at B2 R2 HB2 ⊢
  clear c0 f0 B1 R1 HB0 hHeld
  have c0 := box_cell B2 0
  have c1 := box_cell B2 1
  have c2 := box_cell B2 2
  have c3 := box_cell B2 3
  have g0 := box_cell R2 0
  have g1 := box_cell R2 1
  have g2 := box_cell R2 2
  have g3 := box_cell R2 3
  have f0 := box_frozen R2 0
  have f1 := box_frozen R2 1
  have f2 := box_frozen R2 2
  have f3 := box_frozen R2 3
  have HR := Lib.hid R2
  have HB := Lib.hid HB2
  clear R2 HB2
  go_wp2
  have R3 := box_set (box_set (box_set (box_set HR.out 0 (.int .u64 (a0 : Nat))) 1 (.int .u64 (a1 : Nat))) 2 (.int .u64 (a2 : Nat))) 3 (.int .u64 ((a3 ||| 2 ^ j : Nat) : Int))
  have HB3 := (((HB.out.setCell (p := ⟨w.heap.size + 1, 0, none⟩) (by show w.heap.size ≤ w.heap.size + 1; omega) (.int .u64 (a0 : Nat))).setCell (p := ⟨w.heap.size + 1, 1, none⟩) (by show w.heap.size ≤ w.heap.size + 1; omega) (.int .u64 (a1 : Nat))).setCell (p := ⟨w.heap.size + 1, 2, none⟩) (by show w.heap.size ≤ w.heap.size + 1; omega) (.int .u64 (a2 : Nat))).setCell (p := ⟨w.heap.size + 1, 3, none⟩) (by show w.heap.size ≤ w.heap.size + 1; omega) (.int .u64 ((a3 ||| 2 ^ j : Nat) : Int))
  exact bodyPost_ret (results_cell_row (fn := Tryz.f90) (p := 4) rfl _ _ (w.heap.size + 1) 121 _ (0, 0) _ rfl R3 Tryz.underlying121 rfl infoOffs) rfl ⟨rfl, HB3⟩
end Go.Proofs.YthekkjfaaedamaaGreatDoor
