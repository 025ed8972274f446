/- Texts of this proof, joined. -/
import Derived.Test.YtmedickofiielaaFirst
import Derived.Maps.AppendAt
import Derived.RangeFuncBox
import Derived.Test.YtmedickofiielaaGRefOps
import Derived.Test.YtmedickofiielaaGReads64
import Derived.Deep.RegionHeldLaw
import Derived.Deep.AppendLies
import Derived.Test.YtmedickofiielaaGNameEq
import Derived.Test.YtmedickofiielaaGPlain
import Derived.Test.YtmedickofiielaaGConvOwn
import Derived.Deep.QuietTactic
import Derived.Test.YtmedickofiielaaTabW
namespace Go.Proofs.Ytmedickofiielaa
open Go.RowKit

theorem infoI32' : (Try.prog.info? 21).map (fun i => (i.zero, i.size, i.bytes)) = some (some (.int .i32 0), 1, 4) := by kernel_rfl
end Go.Proofs.Ytmedickofiielaa

namespace Go.Proofs.Ytmedickofiielaa
open Go.RowKit

end Go.Proofs.Ytmedickofiielaa

namespace Go.Proofs.Ytmedickofiielaa
open Go.RowKit

def EBox (N : Nat) (s q c k a l : Int) (t : ByteArray) (w W : World) : Prop :=
 W.cell? ⟨N, 0, none⟩ = some (.int .i64 s) ∧ W.cell? ⟨N, 1, none⟩ = some (.int .i64 q) ∧ W.cell? ⟨N, 2, none⟩ = some (.int .i64 c) ∧ W.cell? ⟨N, 3, none⟩ = some (.int .i64 k) ∧
  W.cell? ⟨N, 4, none⟩ = some (.int .i64 a) ∧ W.cell? ⟨N, 5, none⟩ = some (.int .i64 l) ∧ W.cell? ⟨N, 6, none⟩ = some (.string t) ∧ Below N w W
theorem EBox.keep {N : Nat} {s q c k a l : Int} {t : ByteArray} {w W W' : World} (h : EBox N s q c k a l t w W) (hb : Below W.heap.size W W') : EBox N s q c k a l t w W' := by
 obtain ⟨h0, h1, h2, h3, h4, h5, h6, h7⟩ := h
 have hl : N < W.heap.size := World.block_lt_of_cell? W _ h0
 exact ⟨cell_stays hb h0, cell_stays hb h1, cell_stays hb h2, cell_stays hb h3, cell_stays hb h4, cell_stays hb h5, cell_stays hb h6, h7.trans (hb.mono (Nat.le_of_lt hl))⟩
theorem EBox.new (s q c k a l : Int) (t : ByteArray) (w : World) (ty : TypeId) : EBox w.heap.size s q c k a l t w (w.alloc (.cells #[.int .i64 s, .int .i64 q, .int .i64 c, .int .i64 k, .int .i64 a, .int .i64 l, .string t] ty)) := by
 have h := heap_alloc_new w (.cells #[.int .i64 s, .int .i64 q, .int .i64 c, .int .i64 k, .int .i64 a, .int .i64 l, .string t] ty)
 exact ⟨cell_of_row _ _ 0 _ _ _ h, cell_of_row _ _ 1 _ _ _ h, cell_of_row _ _ 2 _ _ _ h, cell_of_row _ _ 3 _ _ _ h, cell_of_row _ _ 4 _ _ _ h, cell_of_row _ _ 5 _ _ _ h, cell_of_row _ _ 6 _ _ _ h, (Below.refl _ w).alloc (Nat.le_refl _) _⟩
end Go.Proofs.Ytmedickofiielaa

namespace Go.Proofs.Ytmedickofiielaa
open Go.RowKit

theorem infoCell : (Try.prog.info? 41).map (fun i => (i.zero, i.size, i.bytes)) = some (some (.agg #[.int .i64 0, .int .i64 0, .int .i64 0, .int .i32 0, .bool false]), 5, 32) := by kernel_rfl
theorem OBox.up {N : Nat} {s q n k a : Int} {t : ByteArray} {sp : Value} {w W W' : World} (h : OBox N s q n k a t sp w W) (hb : Below (N + 1) W W') : OBox N s q n k a t sp w W' := by
 obtain ⟨c0, c1, c2, c3, c4, c5, c6, hB⟩ := h
 have e : ∀ o, W'.cell? ⟨N, o, none⟩ = W.cell? ⟨N, o, none⟩ := fun o => hb.cell (p := ⟨N, o, none⟩) (Nat.lt_succ_self N)
 exact ⟨(e 0).trans c0, (e 1).trans c1, (e 2).trans c2, (e 3).trans c3, (e 4).trans c4, (e 5).trans c5, (e 6).trans c6, hB.trans (hb.mono (Nat.le_succ N))⟩
end Go.Proofs.Ytmedickofiielaa

namespace Go.Proofs.Ytmedickofiielaa
open Go.RowKit

end Go.Proofs.Ytmedickofiielaa

namespace Go.Proofs.Ytmedickofiielaa
open Go.RowKit

theorem blankC_next (n : Nat) : blankC (n + 1) = blankC n ++ [⟨99, 1, n, 46, false⟩] := by simp [blankC, List.range_succ]
theorem blankC_cells (n : Nat) : cCells (blankC (n + 1)) = cCells (blankC n) ++ [.int .i64 99, .int .i64 1, .int .i64 (n : Int), .int .i32 46, .bool false] := by
 rw [blankC_next, cCells_append, cCells_one]; rfl
set_option maxRecDepth 100000 in
set_option maxHeartbeats 4000000 in
theorem rBlank_any (n : Nat) (hn : n ≤ 100000) (w : World) :
  Calls Try.prog 10 #[.int .i64 n] w fun e w' => ∃ v, e = .returned v ∧ w'.ownsRow w.heap.size 41 5 v n (cCells (blankC n)) ∧ Below w.heap.size w w' := by
 obtain ⟨i0, hi, hz0, hz1, hz2⟩ := info_parts infoCell
 go_enter Try.func10, Try.ntmps10
 go_wp2_with fail
 go_loopw [3, 4] (fun v i wr => ∃ k : Nat, i = .int .i64 k ∧ k ≤ n ∧ RowKit.Hid (wr.ownsRow w.heap.size 41 5 v k (cCells (blankC k))) ∧ RowKit.Hid (Below w.heap.size w wr)) (fun _ i _ => n - (intOf i).toNat)
 case atStart => exact ⟨0, rfl, Nat.zero_le _, Lib.hid (World.ownsRow_nil _ _ _ _), Lib.hid (Below.refl _ _)⟩
 case round =>
  rename_i wr
  obtain ⟨k, rfl, hk, ho, hb⟩ := hrel
  rcases Nat.lt_or_ge k n with hlt | hge
  ·have hi0 : (0 : Int) ≤ (k : Int) ∧ (k : Int) < (n : Int) := ⟨by omega, by omega⟩
   have hkk : k + 1 ≤ maxLen := by unfold maxLen; omega
   have hby : (k + 1) * 32 ≤ 140737488355328 := by omega
   have HNX := Lib.hid (blankC_cells k)
   have Hhb := Lib.hid hb.out.size
   go_wp2_with (at_builtin; refine wpList_append_own _ rfl _ _ 36 rfl w.heap.size 41 i0 (.agg #[.int .i64 0, .int .i64 0, .int .i64 0, .int .i32 0, .bool false]) 5 32 Try.underlying36 hi hz0 hz1 hz2 rfl (by decide) _ k _ rfl (ho.out.alloc _) ⟨wr.heap.size, 0, none⟩ 1 1 [.int .i64 99, .int .i64 1, .int .i64 k, .int .i32 46, .bool false] rfl rfl ?c1 (by simp [Value.oneCell']) hkk hby ?c5 ?_)
   case c1 => exact World.news_of_block (cs := #[.int .i64 99, .int .i64 1, .int .i64 k, .int .i32 46, .bool false]) (t := 41) (fr := (0, 0)) (heap_alloc_new wr _)
   case c5 => simp; exact Nat.le_succ_of_le Hhb.out
   intro v' w2 hown' hgrow _
   rw [← HNX.out] at hown'
   have HO := Lib.hid hown'
   have HB := Lib.hid (hb.out.trans (((Below.refl w.heap.size wr).alloc Hhb.out _).grown hgrow (by simp; exact Nat.le_succ_of_le Hhb.out) (fun g hg => (ho.out.lt g hg).1)))
   go_wp2
   exact ⟨⟨k + 1, by go_num, by omega, HO, HB⟩, by simp [intOf]; omega⟩
  ·have hk' : k = n := by omega
   subst hk'
   go_wp2
   go_ret
   exact ⟨_, rfl, ho.out, hb.out⟩
end Go.Proofs.Ytmedickofiielaa

namespace Go.Proofs.Ytmedickofiielaa
open Go.RowKit

theorem getC_some {l : List PCell} {k : Nat} (h : k < l.length) : ∃ c, l[k]? = some c := ⟨l[k], List.getElem?_eq_getElem h⟩
end Go.Proofs.Ytmedickofiielaa

namespace Go.Proofs.Ytmedickofiielaa
open Go.RowKit

def CellsEPost (v : Value) (x : List PCell × Int) (w : World) (e : Ending) (w' : World) : Prop := ∃ v', e = .returned (.tuple #[v', .int .i64 x.2]) ∧ CAt w' v' x.1 ∧ (v' = v ∨ ∀ g, v'.ownBlock = some g → w.heap.size ≤ g) ∧ Below w.heap.size w w'
theorem CellsEPost.same {v : Value} {l : List PCell} {c : Int} {x : List PCell × Int} {w w' : World} (hx : x = (l, c)) (h : CAt w v l) (hb : Below w.heap.size w w') : CellsEPost v x w (.returned (.tuple #[v, .int .i64 c])) w' := by
 subst hx
 exact ⟨v, rfl, h.below hb, .inl rfl, hb⟩
theorem CellsEPost.new {v v' : Value} {m : List PCell} {c : Int} {x : List PCell × Int} {w w' : World} (hx : x = (m, c)) (h : CAt w' v' m) (hf : ∀ g, v'.ownBlock = some g → w.heap.size ≤ g) (hb : Below w.heap.size w w') : CellsEPost v x w (.returned (.tuple #[v', .int .i64 c])) w' := by
 subst hx
 exact ⟨v', rfl, h, .inr hf, hb⟩
end Go.Proofs.Ytmedickofiielaa

namespace Go.Proofs.Ytmedickofiielaa
open Go.RowKit

def keptC (l : List PCell) (f : Nat → Bool) (k : Nat) : List PCell := (List.range k).filterMap fun i => if f i then none else l[i]?
end Go.Proofs.Ytmedickofiielaa

namespace Go.Proofs.Ytmedickofiielaa
open Go.RowKit

def cellOk (c : PCell) : Bool := nMay c.site c.seq && decide (0 ≤ c.off ∧ c.off ≤ 199) && Lib.validRune c.r
def sameId (c d : PCell) : Bool := decide (c.site = d.site ∧ c.seq = d.seq ∧ c.off = d.off)
def dupTo (l : List PCell) (d : PCell) (k : Nat) : Bool := (l.take k).any fun c => sameId c d
def dupC (l : List PCell) (n : Nat) : Bool := (List.range n).any fun i => match l[i]? with
 | some d => dupTo l d i
 | none => false
def cMay (l : List PCell) : Int := if l.all cellOk then (if dupC l l.length then 15 else if 20000 < l.length then 4 else 0) else 1
end Go.Proofs.Ytmedickofiielaa

namespace Go.Proofs.Ytmedickofiielaa
open Go.RowKit

def gapOk (l : List PCell) (i : Int) (p : Nat) : Bool := match l[p]? with
 | some c => !c.gone && decide ((cSeen l p : Int) = i)
 | none => false
def gapTo (l : List PCell) (i : Int) (k : Nat) : Option Nat := (List.range k).find? (gapOk l i)
theorem gapTo_next (l : List PCell) (i : Int) (k : Nat) : gapTo l i (k + 1) = (gapTo l i k).or (if gapOk l i k then some k else none) := by
 unfold gapTo
 rw [List.range_succ, List.find?_append]
 cases h : gapOk l i k <;> simp [h]
def cGap (l : List PCell) (i : Int) : Int := match gapTo l i l.length with
 | some p => p
 | none => if (cLive l : Int) = i then l.length else -1
def runB (l : List PCell) (i n : Int) (p : Nat) : Bool := match l[p]? with
 | some c => !c.gone && (decide (i ≤ (cSeen l p : Int)) && decide ((cSeen l p : Int) - i < n))
 | none => false
def cRunOk (l : List PCell) (i n : Int) : Bool := decide (0 ≤ i ∧ i ≤ cLive l ∧ 0 ≤ n ∧ n ≤ cLive l - i)
def cRun (l : List PCell) (i n : Int) : List Sp := sMade (runB l i n) 20000
def CRunPost (l : List PCell) (i n : Int) (w : World) (e : Ending) (w' : World) : Prop := ∃ v, e = .returned (.tuple #[v, .bool (cRunOk l i n)]) ∧ SpAt w' v (if cRunOk l i n then cRun l i n else []) ∧ Below w.heap.size w w'
theorem CRunPost.no {l : List PCell} {i n : Int} {w : World} (h : cRunOk l i n = false) : CRunPost l i n w (.returned (.tuple #[.slice none 0 0, .bool false])) w := ⟨_, by rw [h], by rw [h]; exact SpAt.nil _, Below.refl _ _⟩
theorem CRunPost.yes {l : List PCell} {i n : Int} {w w' : World} {v : Value} (h : cRunOk l i n = true) (hv : SpAt w' v (cRun l i n)) (hb : Below w.heap.size w w') : CRunPost l i n w (.returned (.tuple #[v, .bool true])) w' := ⟨_, by rw [h], by rw [h]; exact hv, hb⟩
end Go.Proofs.Ytmedickofiielaa

namespace Go.Proofs.Ytmedickofiielaa
open Go.RowKit

def CWf (l : List PCell) : Prop := ∀ c ∈ l, (Lit.int .i64 c.site).wf = true ∧ (Lit.int .i64 c.seq).wf = true ∧ (Lit.int .i64 c.off).wf = true ∧ (Lit.int .i32 c.r).wf = true
def DKept (D : World → Value → List PCell → (Nat → Prop) → Prop) (p : Value) (l : List PCell) (S : Nat → Prop) (w w' : World) (S' : Nat → Prop) : Prop :=
 D w' p l S' ∧ (∀ b, S' b → S b ∨ w.heap.size ≤ b) ∧ Keep S w.heap.size w w'
def DVal (D : World → Value → List PCell → (Nat → Prop) → Prop) (p : Value) (l : List PCell) (S : Nat → Prop) (x : Value) (w : World) (e : Ending) (w' : World) : Prop := ∃ S', DKept D p l S w w' S' ∧ e = .returned x
end Go.Proofs.Ytmedickofiielaa

namespace Go.Proofs.Ytmedickofiielaa
open Go.RowKit

def Nothing (x : Value) (w : World) (e : Ending) (w' : World) : Prop := e = .returned x ∧ Below w.heap.size w w'
end Go.Proofs.Ytmedickofiielaa

namespace Go.Proofs.Ytmedickofiielaa

theorem cMay_ok {l : List PCell} (h : cMay l = 0) : l.all cellOk = true ∧ dupC l l.length = false ∧ l.length ≤ 20000 := by
 unfold cMay at h
 by_cases h1 : l.all cellOk = true
 ·rw [if_pos h1] at h
  by_cases h2 : dupC l l.length = true
  ·rw [if_pos h2] at h; omega
  ·rw [if_neg h2] at h
   refine ⟨h1, by simpa using h2, ?_⟩
   split at h <;> omega
 ·rw [if_neg h1] at h; omega
end Go.Proofs.Ytmedickofiielaa

namespace Go.Proofs.Ytmedickofiielaa
open Go.RowKit

structure PAct where
 kd : Int
 site : Int
 seq : Int
 num : Int
 kind : Int
 pl : Int
 text : ByteArray
 sp : Value
 xs : List Sp
def PAct.op (x : PAct) : POp := ⟨x.site, x.seq, x.num, x.kind, x.pl, x.text.data.toList, x.xs⟩
def PAct.vals (x : PAct) : List Value := [.int .u8 x.kd, .int .i64 x.site, .int .i64 x.seq, .int .i64 x.num, .int .i64 x.kind, .int .i64 x.pl, .string x.text, x.sp]
def PAct.val (x : PAct) : Value := .agg #[.int .u8 x.kd, .int .i64 x.site, .int .i64 x.seq, .int .i64 x.num, .int .i64 x.kind, .int .i64 x.pl, .string x.text, x.sp]
def aCells : List PAct → List Value
 | [] => []
 | c :: r => c.vals ++ aCells r
theorem aCells_at : ∀ (l : List PAct) (i j : Nat) (c : PAct), l[i]? = some c → j < 8 → (aCells l)[i * 8 + j]? = c.vals[j]?
 | [], i, _, _, h, _ => by simp at h
 | d :: r, 0, j, c, h, hj => by
  obtain rfl : d = c := by simpa using h
  show (d.vals ++ aCells r)[0 * 8 + j]? = _
  rw [List.getElem?_append_left (by show 0 * 8 + j < 8; omega), show 0 * 8 + j = j by omega]
 | d :: r, i + 1, j, c, h, hj => by
  show (d.vals ++ aCells r)[(i + 1) * 8 + j]? = _
  rw [List.getElem?_append_right (by show 8 ≤ (i + 1) * 8 + j; omega), show (i + 1) * 8 + j - d.vals.length = i * 8 + j by show (i + 1) * 8 + j - 8 = _; omega]
  exact aCells_at r i j c (by simpa using h) hj
structure PAct.Wf (x : PAct) : Prop where
 kd : (Lit.int .u8 x.kd).wf = true
 s : (Lit.int .i64 x.site).wf = true
 q : (Lit.int .i64 x.seq).wf = true
 n : (Lit.int .i64 x.num).wf = true
 k : (Lit.int .i64 x.kind).wf = true
 a : (Lit.int .i64 x.pl).wf = true
 w : sWf x.xs
def ActsAt (W : World) (v : Value) (l : List PAct) : Prop := RowR 8 W v l.length (aCells l) ∧ ∀ x ∈ l, SpAt W x.sp x.xs ∧ x.Wf
theorem ActsAt.below {W W' : World} {v : Value} {l : List PAct} (h : ActsAt W v l) (hb : Below W.heap.size W W') : ActsAt W' v l := ⟨h.1.below hb, fun x hx => ⟨(h.2 x hx).1.below hb, (h.2 x hx).2⟩⟩
theorem ActsAt.shape {W : World} {v : Value} {l : List PAct} (h : ActsAt W v l) : ∃ ao cap, v = .slice ao l.length cap := by
 obtain ⟨⟨_, ao, cap, e, _⟩, _⟩ := h
 exact ⟨ao, cap, e⟩
theorem ActsAt.at {W : World} {v : Value} {l : List PAct} (h : ActsAt W v l) {i : Nat} {x : PAct} (hi : l[i]? = some x) : ∃ b off cap, v = .slice (some ⟨b, off, none⟩) l.length cap ∧
  W.cell? ⟨b, off + i * 8, none⟩ = some (.int .u8 x.kd) ∧ W.cell? ⟨b, off + i * 8 + 1, none⟩ = some (.int .i64 x.site) ∧ W.cell? ⟨b, off + i * 8 + 2, none⟩ = some (.int .i64 x.seq) ∧
  W.cell? ⟨b, off + i * 8 + 3, none⟩ = some (.int .i64 x.num) ∧ W.cell? ⟨b, off + i * 8 + 4, none⟩ = some (.int .i64 x.kind) ∧ W.cell? ⟨b, off + i * 8 + 5, none⟩ = some (.int .i64 x.pl) ∧
  W.cell? ⟨b, off + i * 8 + 6, none⟩ = some (.string x.text) ∧ W.cell? ⟨b, off + i * 8 + 7, none⟩ = some x.sp := by
 obtain ⟨⟨_, ao, cap, rfl, h2⟩, _⟩ := h
 have hl := (List.getElem?_eq_some_iff.1 hi).1
 obtain ⟨b, off, rfl, hc⟩ := h2 (by omega)
 have e : ∀ j, j < 8 → W.cell? ⟨b, off + i * 8 + j, none⟩ = x.vals[j]? := fun j hj => by
  have q := aCells_at l i j x hi hj
  have hlt : j < x.vals.length := hj
  rw [List.getElem?_eq_getElem hlt] at q ⊢
  rw [Nat.add_assoc]
  exact hc _ _ q
 exact ⟨b, off, cap, rfl, e 0 (by decide), e 1 (by decide), e 2 (by decide), e 3 (by decide), e 4 (by decide), e 5 (by decide), e 6 (by decide), e 7 (by decide)⟩
end Go.Proofs.Ytmedickofiielaa

namespace Go.Proofs.Ytmedickofiielaa
open Go.RowKit

theorem DKept.up {D : World → Value → List PCell → (Nat → Prop) → Prop} {p : Value} {l : List PCell} {S S' : Nat → Prop} {w w' : World} {N : Nat} (h : DKept D p l S w w' S') (hS : ∀ b, S b → N ≤ b) (hN : N ≤ w.heap.size) : (∀ b, S' b → N ≤ b) ∧ Below N w w' :=
 ⟨fun b hb => (h.2.1 b hb).elim (hS b) (fun q => Nat.le_trans hN q), h.2.2.below hN hS⟩
theorem CAt.keep {S : Nat → Prop} {W W' : World} {v : Value} {l : List PCell} (h : CAt W v l) (hk : Keep S W.heap.size W W') (hg : ∀ g, v.ownBlock = some g → ¬ S g) : CAt W' v l := by
 obtain ⟨hl, ao, cap, rfl, h1, h2, h3, h4⟩ := h
 refine ⟨hl, ao, cap, rfl, h1, h2, h3, fun ad ha => ?_⟩
 subst ha
 obtain ⟨b, off, rfl, hlt, hc⟩ := h4 _ rfl
 refine ⟨b, off, rfl, Nat.lt_of_lt_of_le hlt hk.size, fun j u hj => ?_⟩
 rw [hk.cell (p := ⟨b, off + j, none⟩) hlt (hg b rfl)]
 exact hc j u hj
theorem CAt.lt {W : World} {v : Value} {l : List PCell} (h : CAt W v l) : ∀ g, v.ownBlock = some g → g < W.heap.size := by
 obtain ⟨_, ao, cap, rfl, _, _, _, h4⟩ := h
 intro g hg
 cases ao with
 | none => cases hg
 | some ad =>
  obtain ⟨b, off, rfl, hlt, _⟩ := h4 _ rfl
  cases hg
  exact hlt
end Go.Proofs.Ytmedickofiielaa

namespace Go.Proofs.Ytmedickofiielaa
open Go.RowKit

theorem DKept.trans {D : World → Value → List PCell → (Nat → Prop) → Prop} {p : Value} {l m : List PCell} {S S1 S2 : Nat → Prop} {W W1 W2 : World} (h : DKept D p l S W W1 S1) (k : DKept D p m S1 W1 W2 S2) : DKept D p m S W W2 S2 :=
 ⟨k.1, fun b hb => (k.2.1 b hb).elim (h.2.1 b) (fun q => .inr (Nat.le_trans h.2.2.size q)), h.2.2.trans (k.2.2.weak h.2.2.size fun b hb q => (h.2.1 b q).elim id (fun z => absurd hb (Nat.not_lt.2 z)))⟩
end Go.Proofs.Ytmedickofiielaa

namespace Go.Proofs.Ytmedickofiielaa

end Go.Proofs.Ytmedickofiielaa

namespace Go.Proofs.Ytmedickofiielaa

theorem cSeen_step (l : List PCell) (k : Nat) : cSeen l k ≤ cSeen l (k + 1) ∧ cSeen l (k + 1) ≤ cSeen l k + 1 := by
 cases hc : l[k]? with
 | none =>
  have : cSeen l (k + 1) = cSeen l k := by
   unfold cSeen
   rw [List.take_add_one, hc]
   simp
  omega
 | some c =>
  cases hg : c.gone with
  | true => rw [cSeen_gone hc hg]; omega
  | false => rw [cSeen_live hc hg]; omega
theorem cSeen_mono (l : List PCell) {a b : Nat} (h : a ≤ b) : cSeen l a ≤ cSeen l b := by
 obtain ⟨d, rfl⟩ := Nat.exists_eq_add_of_le h
 clear h
 induction d with
 | zero => exact Nat.le_refl _
 | succ d ih => exact Nat.le_trans ih (cSeen_step l (a + d)).1
theorem textR_length (l : List PCell) (k : Nat) : (textR (l.take k)).length = cSeen l k := by
 unfold textR cSeen
 rw [List.length_map, List.countP_eq_length_filter]
theorem textR_append (a b : List PCell) : textR (a ++ b) = textR a ++ textR b := by
 unfold textR
 rw [List.filter_append, List.map_append]
theorem textR_parts (l : List PCell) (p : Nat) : textR (l.take p) = (textR l).take (cSeen l p) ∧ textR (l.drop p) = (textR l).drop (cSeen l p) := by
 have e : textR l = textR (l.take p) ++ textR (l.drop p) := by rw [← textR_append, List.take_append_drop]
 have hl := textR_length l p
 rw [e, ← hl]
 exact ⟨(List.take_left' rfl).symm, (List.drop_left' rfl).symm⟩
theorem gapOk_seen {l : List PCell} {i : Int} {p : Nat} (h : gapOk l i p = true) : p < l.length ∧ (cSeen l p : Int) = i ∧ (cSeen l (p + 1) : Int) = i + 1 := by
 unfold gapOk at h
 cases hc : l[p]? with
 | none => rw [hc] at h; cases h
 | some c =>
  rw [hc] at h
  simp only [Bool.and_eq_true, Bool.not_eq_true', decide_eq_true_eq] at h
  refine ⟨(List.getElem?_eq_some_iff.1 hc).1, h.2, ?_⟩
  rw [cSeen_live hc h.1]
  omega
theorem gap_some (l : List PCell) (i : Nat) : ∀ k, k ≤ l.length → i < cSeen l k → ∃ p, p < k ∧ gapOk l i p = true
 | 0, _, h => by rw [cSeen_zero] at h; omega
 | k + 1, hk, h => by
  by_cases h1 : i < cSeen l k
  ·obtain ⟨p, hp, hq⟩ := gap_some l i k (by omega) h1
   exact ⟨p, by omega, hq⟩
  ·obtain ⟨c, hc⟩ := getC_some (l := l) (k := k) (by omega)
   have hs := cSeen_step l k
   cases hg : c.gone with
   | true => rw [cSeen_gone hc hg] at h; omega
   | false =>
    refine ⟨k, by omega, ?_⟩
    unfold gapOk
    rw [hc]
    simp only [hg, Bool.not_false, Bool.true_and, decide_eq_true_eq]
    omega
theorem gap_cases (l : List PCell) (i : Int) : (∃ p : Nat, (0 ≤ i ∧ i ≤ cLive l) ∧ p ≤ l.length ∧ cGap l i = p ∧ cSeen l p = i.toNat) ∨ (¬ (0 ≤ i ∧ i ≤ cLive l) ∧ cGap l i = -1) := by
 cases hg : gapTo l i l.length with
 | some p =>
  have h1 : gapOk l i p = true := List.find?_some hg
  obtain ⟨q1, q2, q3⟩ := gapOk_seen h1
  have hm := cSeen_mono l (show p + 1 ≤ l.length by omega)
  refine .inl ⟨p, ⟨by omega, ?_⟩, by omega, ?_, by omega⟩
  ·unfold cLive; omega
  ·unfold cGap; rw [hg]
 | none =>
  have hn : ∀ p, p < l.length → gapOk l i p = false := fun p hp => by
   have := List.find?_eq_none.1 hg p (List.mem_range.2 hp)
   simpa using this
  by_cases he : (cLive l : Int) = i
  ·refine .inl ⟨l.length, ⟨by omega, by omega⟩, Nat.le_refl _, ?_, ?_⟩
   ·unfold cGap; rw [hg]; exact if_pos he
   ·have : cSeen l l.length = cLive l := rfl
    omega
  ·refine .inr ⟨fun hz => ?_, ?_⟩
   ·obtain ⟨p, hp, hq⟩ := gap_some l i.toNat l.length (Nat.le_refl _) (by have : cSeen l l.length = cLive l := rfl; omega)
    rw [show ((i.toNat : Nat) : Int) = i by omega, hn p hp] at hq
    cases hq
   ·unfold cGap; rw [hg]; exact if_neg he
end Go.Proofs.Ytmedickofiielaa

namespace Go.Proofs.Ytmedickofiielaa

def kPut (l : List PCell) (site i j : Int) : Int × Int × Int × Int :=
 if 1 ≤ site ∧ site ≤ 16 then (if cGap l i < 0 then (0, 0, 0, 3) else if cGap l j < 0 then (0, 0, 0, 3) else (site, cGap l i, cGap l j, 0)) else (0, 0, 0, 1)
theorem run_at {l : List PCell} {o : POp} (h : OMay o l.length) {k : Nat} {c : PCell} (hc : l[k]? = some c) :
  ∃ (k' : Nat) (c' : PCell), kPoint (k + 1) o false = k' + 1 ∧ (runC l o)[k']? = some c' ∧ c'.site = c.site ∧ c'.seq = c.seq ∧ c'.off = c.off := by
 have hk := (List.getElem?_eq_some_iff.1 hc).1
 obtain ⟨_, _, _, ⟨hi, p0, p1, ht, _⟩ | ⟨hd, _⟩⟩ := h
 ·have e1 := oAdds_ins hi ht
  have e2 := newC_length ht
  unfold kPoint runC mvP
  rw [if_pos hi, if_pos hi]
  by_cases hb : o.pl < (k : Int) + 1
  ·refine ⟨k + (newC o).length, c, by rw [if_pos (.inl hb)]; omega, ?_, rfl, rfl, rfl⟩
   rw [insC_at _ _ _ _ (by omega), if_neg (by omega), if_neg (by omega), Nat.add_sub_cancel]
   exact hc
  ·refine ⟨k, c, by rw [if_neg (by rintro (q | ⟨q, q2⟩) <;> first | omega | cases q2)], ?_, rfl, rfl, rfl⟩
   rw [insC_at _ _ _ _ (by omega), if_pos (by omega)]
   exact hc
 ·unfold kPoint runC
  rw [if_neg (by omega), if_neg (by omega)]
  refine ⟨k, { c with gone := c.gone || sMark o.spans k }, rfl, ?_, rfl, rfl, rfl⟩
  rw [goneC_at, hc]
  rfl
theorem point_zero {o : POp} {size : Int} (h : OMay o size) : kPoint 0 o false = 0 := by
 unfold kPoint mvP
 obtain ⟨_, _, _, ⟨hi, p0, p1, ht, _⟩ | ⟨hd, _⟩⟩ := h
 ·rw [if_pos hi, if_neg (by rintro (q | ⟨q, q2⟩) <;> first | omega | cases q2)]
 ·rw [if_neg (by omega)]
def Stands (m : List PCell) (s q off : Int) (P : Nat) : Prop := (off < 0 ∧ P = 0) ∨ (0 ≤ off ∧ ∃ k c, m[k]? = some c ∧ c.site = s ∧ c.seq = q ∧ c.off = off ∧ P = k + 1)
theorem Stands.next {m : List PCell} {s q off : Int} {P : Nat} {o : POp} (h : Stands m s q off P) (ho : OMay o m.length) : ∃ P' : Nat, kPoint P o false = P' ∧ Stands (runC m o) s q off P' := by
 rcases h with ⟨h1, rfl⟩ | ⟨h1, k, c, hc, e1, e2, e3, rfl⟩
 ·exact ⟨0, point_zero ho, .inl ⟨h1, rfl⟩⟩
 ·obtain ⟨k', c', q1, q2, q3, q4, q5⟩ := run_at ho hc
  exact ⟨k' + 1, q1, .inr ⟨h1, k', c', q2, q3.trans e1, q4.trans e2, q5.trans e3, rfl⟩⟩
theorem Stands.put {m : List PCell} (hm : cMay m = 0) {P : Nat} (hP : P ≠ 0) (hle : P ≤ m.length) : ∃ c, m[P - 1]? = some c ∧ Stands m c.site c.seq c.off P := by
 obtain ⟨c, hc⟩ := getC_some (l := m) (k := P - 1) (by omega)
 have := (List.all_eq_true.1 (cMay_ok hm).1) c (List.mem_of_getElem? hc)
 unfold cellOk at this
 simp only [Bool.and_eq_true, decide_eq_true_eq] at this
 exact ⟨c, hc, .inr ⟨by omega, P - 1, c, hc, rfl, rfl, rfl, by omega⟩⟩
theorem typed {l : List PCell} {p : Nat} (hp : p ≤ l.length) {s q : Int} {t : List UInt8} {rs : List Int} (hr : runesL t = some rs) :
  textR (runC l ⟨s, q, 0, 1, p, t, []⟩) = (textR l).take (cSeen l p) ++ (rs ++ (textR l).drop (cSeen l p)) ∧ cSeen (runC l ⟨s, q, 0, 1, p, t, []⟩) (p + rs.length) = cSeen l p + rs.length := by
 have e : runC l ⟨s, q, 0, 1, p, t, []⟩ = l.take p ++ newC ⟨s, q, 0, 1, p, t, []⟩ ++ l.drop p := by unfold runC; rw [if_pos rfl]; simp
 have en : newC ⟨s, q, 0, 1, p, t, []⟩ = rs.mapIdx fun i r => (⟨s, q, i, r, false⟩ : PCell) := by unfold newC; rw [hr]; rfl
 have e3 : textR (rs.mapIdx fun i r => (⟨s, q, i, r, false⟩ : PCell)) = rs := by
  unfold textR
  rw [List.filter_eq_self.2 (by intro c hc; obtain ⟨i, hi, rfl⟩ := List.mem_mapIdx.1 hc; rfl)]
  refine List.ext_getElem? fun i => ?_
  rw [List.getElem?_map, List.getElem?_mapIdx]
  cases rs[i]? <;> rfl
 have htl : (l.take p).length = p := by rw [List.length_take]; omega
 constructor
 ·rw [e, en, textR_append, textR_append, e3, (textR_parts l p).1, (textR_parts l p).2, List.append_assoc]
 ·rw [← textR_length, e, en]
  rw [show (l.take p ++ (rs.mapIdx fun i r => (⟨s, q, i, r, false⟩ : PCell)) ++ l.drop p).take (p + rs.length) = l.take p ++ rs.mapIdx fun i r => (⟨s, q, i, r, false⟩ : PCell) from List.take_left' (by rw [List.length_append, htl, List.length_mapIdx])]
  rw [textR_append, e3, List.length_append, textR_length]
def Typed (l m : List PCell) (i P : Nat) (rs : List Int) : Prop := P ≤ m.length ∧ cSeen m P = i + rs.length ∧ textR m = (textR l).take i ++ (rs ++ (textR l).drop i) ∧ (∀ r ∈ rs, Lib.validRune r = true)
theorem Typed.nil {l : List PCell} {i P : Nat} (hP : P ≤ l.length) (hs : cSeen l P = i) : Typed l l i P [] := ⟨hP, hs, by simp, fun _ h => by cases h⟩
theorem Typed.next {l m : List PCell} {i P : Nat} {rs : List Int} {s q : Int} {t : List UInt8} (h : Typed l m i P rs) (hi : i ≤ (textR l).length) (ho : OMay ⟨s, q, 0, 1, P, t, []⟩ m.length) :
  ∃ rs' : List Int, t = joinL rs' ∧ Typed l (runC m ⟨s, q, 0, 1, P, t, []⟩) i (P + rs'.length) (rs ++ rs') ∧ kPoint P ⟨s, q, 0, 1, P, t, []⟩ true = ((P + rs'.length : Nat) : Int) ∧ kEnd ⟨s, q, 0, 1, P, t, []⟩ = ((P + rs'.length : Nat) : Int) ∧ rs'.length ≤ 200 := by
 obtain ⟨h1, h2, h3, h4⟩ := h
 have hlen := runC_length ho
 obtain ⟨_, _, _, ⟨_, _, _, hm, _, _⟩ | ⟨hk, _⟩⟩ := ho
 ·have e1 := oAdds_ins (o := ⟨s, q, 0, 1, P, t, []⟩) rfl hm
  dsimp only at hm e1
  obtain ⟨rs', hr⟩ : ∃ rs', runesL t = some rs' := by
   cases hr : runesL t with
   | none => unfold lenT at e1; rw [hr] at e1; dsimp only at e1; omega
   | some r => exact ⟨r, rfl⟩
  have hl : lenT t = rs'.length := by unfold lenT; rw [hr]
  obtain ⟨e2, e3⟩ := runesL_join hr
  obtain ⟨y1, y2⟩ := typed (l := m) (p := P) h1 (s := s) (q := q) hr
  refine ⟨rs', e2, ⟨by omega, by rw [y2, h2, List.length_append]; omega, ?_, ?_⟩, ?_, ?_, by omega⟩
  ·rw [y1, h2, h3]
   have e4 : ((textR l).take i ++ (rs ++ (textR l).drop i)).take (i + rs.length) = (textR l).take i ++ rs := by
    rw [← List.append_assoc]
    exact List.take_left' (by rw [List.length_append, List.length_take]; omega)
   have e5 : ((textR l).take i ++ (rs ++ (textR l).drop i)).drop (i + rs.length) = (textR l).drop i := by
    rw [← List.append_assoc]
    exact List.drop_left' (by rw [List.length_append, List.length_take]; omega)
   rw [e4, e5]
   simp
  ·intro r hr'
   rcases List.mem_append.1 hr' with h | h
   ·exact h4 r h
   ·exact e3 r h
  ·unfold kPoint mvP
   rw [if_pos rfl, if_pos (.inr ⟨rfl, rfl⟩)]
   omega
  ·unfold kEnd
   rw [if_pos rfl]
   dsimp only
   omega
 ·exact absurd hk (show ¬ (1 : Int) = 2 by decide)
end Go.Proofs.Ytmedickofiielaa

namespace Go.Proofs.Ytmedickofiielaa
open Go.RowKit

end Go.Proofs.Ytmedickofiielaa

namespace Go.Proofs.Ytmedickofiielaa
open Go.RowKit

set_option maxRecDepth 100000 in
set_option maxHeartbeats 2000000 in
theorem cgreat7_any (n : Nat) (ao : Option Addr) (cap : Nat) (w : World) :
  Calls Try.prog 5 #[.slice ao n cap] w fun e w' => e = .returned (.bool (decide ((60 : Int) < n))) ∧ w = w' := by
 go_enter Try.func5, Try.ntmps5
 go_wp2
 go_ret
 exact ⟨rfl, rfl⟩
end Go.Proofs.Ytmedickofiielaa
