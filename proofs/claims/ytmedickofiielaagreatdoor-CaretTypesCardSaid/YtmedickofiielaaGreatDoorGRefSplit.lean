/- Texts of this proof, joined. -/
import Derived.Test.YtmedickofiielaaGreatDoorFirst
import Derived.Maps.AppendAt
import Derived.RangeFuncBox
import Derived.Test.YtmedickofiielaaGreatDoorGRefOps
import Derived.Test.YtmedickofiielaaGreatDoorGReads64
import Derived.Deep.RegionHeldLaw
import Derived.Deep.AppendLies
import Derived.Test.YtmedickofiielaaGreatDoorGNameEq
import Derived.Test.YtmedickofiielaaGreatDoorGPlain
import Derived.Test.YtmedickofiielaaGreatDoorGConvOwn
import Derived.Deep.QuietTactic
import Derived.Test.YtmedickofiielaaGreatDoorTabW
namespace Go.Proofs.YtmedickofiielaaGreatDoor
open Go.RowKit

theorem infoI32' : (Tryz.prog.info? 21).map (fun i => (i.zero, i.size, i.bytes)) = some (some (.int .i32 0), 1, 4) := by kernel_rfl
end Go.Proofs.YtmedickofiielaaGreatDoor

namespace Go.Proofs.YtmedickofiielaaGreatDoor
open Go.RowKit

end Go.Proofs.YtmedickofiielaaGreatDoor

namespace Go.Proofs.YtmedickofiielaaGreatDoor
open Go.RowKit

def EBox (N : Nat) (s q c k a l : Int) (t : ByteArray) (w W : World) : Prop :=
 W.cell? ⟨N, 0, none⟩ = some (.int .i64 s) ∧ W.cell? ⟨N, 1, none⟩ = some (.int .i64 q) ∧ W.cell? ⟨N, 2, none⟩ = some (.int .i64 c) ∧ W.cell? ⟨N, 3, none⟩ = some (.int .i64 k) ∧
  W.cell? ⟨N, 4, none⟩ = some (.int .i64 a) ∧ W.cell? ⟨N, 5, none⟩ = some (.int .i64 l) ∧ W.cell? ⟨N, 6, none⟩ = some (.string t) ∧ Below N w W
theorem EBox.keep {N : Nat} {s q c k a l : Int} {t : ByteArray} {w W W' : World} (h : EBox N s q c k a l t w W) (hb : Below W.heap.size W W') : EBox N s q c k a l t w W' := by
 obtain ⟨h0, h1, h2, h3, h4, h5, h6, h7⟩ := h
 have hl : N < W.heap.size := World.block_lt_of_cell? W _ h0
 exact ⟨cell_stays hb h0, cell_stays hb h1, cell_stays hb h2, cell_stays hb h3, cell_stays hb h4, cell_stays hb h5, cell_stays hb h6, h7.trans (hb.mono (Nat.le_of_lt hl))⟩
theorem EBox.new (s q c k a l : Int) (t : ByteArray) (w : World) (ty : TypeId) : EBox w.heap.size s q c k a l t w (w.alloc (.cells #[.int .i64 s, .int .i64 q, .int .i64 c, .int .i64 k, .int .i64 a, .int .i64 l, .string t] ty)) := by
 have h := heap_alloc_new w (.cells #[.int .i64 s, .int .i64 q, .int .i64 c, .int .i64 k, .int .i64 a, .int .i64 l, .string t] ty)
 exact ⟨cell_of_row _ _ 0 _ _ _ h, cell_of_row _ _ 1 _ _ _ h, cell_of_row _ _ 2 _ _ _ h, cell_of_row _ _ 3 _ _ _ h, cell_of_row _ _ 4 _ _ _ h, cell_of_row _ _ 5 _ _ _ h, cell_of_row _ _ 6 _ _ _ h, (Below.refl _ w).alloc (Nat.le_refl _) _⟩
end Go.Proofs.YtmedickofiielaaGreatDoor

namespace Go.Proofs.YtmedickofiielaaGreatDoor
open Go.RowKit

theorem infoCell : (Tryz.prog.info? 48).map (fun i => (i.zero, i.size, i.bytes)) = some (some (.agg #[.int .i64 0, .int .i64 0, .int .i64 0, .int .i32 0, .bool false]), 5, 32) := by kernel_rfl
theorem OBox.up {N : Nat} {s q n k a : Int} {t : ByteArray} {sp : Value} {w W W' : World} (h : OBox N s q n k a t sp w W) (hb : Below (N + 1) W W') : OBox N s q n k a t sp w W' := by
 obtain ⟨c0, c1, c2, c3, c4, c5, c6, hB⟩ := h
 have e : ∀ o, W'.cell? ⟨N, o, none⟩ = W.cell? ⟨N, o, none⟩ := fun o => hb.cell (p := ⟨N, o, none⟩) (Nat.lt_succ_self N)
 exact ⟨(e 0).trans c0, (e 1).trans c1, (e 2).trans c2, (e 3).trans c3, (e 4).trans c4, (e 5).trans c5, (e 6).trans c6, hB.trans (hb.mono (Nat.le_succ N))⟩
end Go.Proofs.YtmedickofiielaaGreatDoor

namespace Go.Proofs.YtmedickofiielaaGreatDoor
open Go.RowKit

end Go.Proofs.YtmedickofiielaaGreatDoor

namespace Go.Proofs.YtmedickofiielaaGreatDoor
open Go.RowKit

theorem blankC_next (n : Nat) : blankC (n + 1) = blankC n ++ [⟨99, 1, n, 46, false⟩] := by simp [blankC, List.range_succ]
theorem blankC_cells (n : Nat) : cCells (blankC (n + 1)) = cCells (blankC n) ++ [.int .i64 99, .int .i64 1, .int .i64 (n : Int), .int .i32 46, .bool false] := by
 rw [blankC_next, cCells_append, cCells_one]; rfl
set_option maxRecDepth 100000 in
set_option maxHeartbeats 4000000 in
theorem rBlank_any (n : Nat) (hn : n ≤ 100000) (w : World) :
  Calls Tryz.prog 23 #[.int .i64 n] w fun e w' => ∃ v, e = .returned v ∧ w'.ownsRow w.heap.size 48 5 v n (cCells (blankC n)) ∧ Below w.heap.size w w' := by
 obtain ⟨i0, hi, hz0, hz1, hz2⟩ := info_parts infoCell
 go_enter Tryz.func23, Tryz.ntmps23
 go_wp2_with fail
 go_loopw [3, 4] (fun v i wr => ∃ k : Nat, i = .int .i64 k ∧ k ≤ n ∧ RowKit.Hid (wr.ownsRow w.heap.size 48 5 v k (cCells (blankC k))) ∧ RowKit.Hid (Below w.heap.size w wr)) (fun _ i _ => n - (intOf i).toNat)
 case atStart => exact ⟨0, rfl, Nat.zero_le _, Lib.hid (World.ownsRow_nil _ _ _ _), Lib.hid (Below.refl _ _)⟩
 case round =>
  rename_i wr
  obtain ⟨k, rfl, hk, ho, hb⟩ := hrel
  rcases Nat.lt_or_ge k n with hlt | hge
  ·have hi0 : (0 : Int) ≤ (k : Int) ∧ (k : Int) < (n : Int) := ⟨by omega, by omega⟩
   have hkk : k + 1 ≤ maxLen := by unfold maxLen; omega
   have hby : (k + 1) * 32 ≤ 140737488355328 := by omega
   have HNX := Lib.hid (blankC_cells k)
   have Hhb := Lib.hid hb.out.size
   go_wp2_with (at_builtin; refine wpList_append_own _ rfl _ _ 22 rfl w.heap.size 48 i0 (.agg #[.int .i64 0, .int .i64 0, .int .i64 0, .int .i32 0, .bool false]) 5 32 Tryz.underlying22 hi hz0 hz1 hz2 rfl (by decide) _ k _ rfl (ho.out.alloc _) ⟨wr.heap.size, 0, none⟩ 1 1 [.int .i64 99, .int .i64 1, .int .i64 k, .int .i32 46, .bool false] rfl rfl ?c1 (by simp [Value.oneCell']) hkk hby ?c5 ?_)
   case c1 => exact World.news_of_block (cs := #[.int .i64 99, .int .i64 1, .int .i64 k, .int .i32 46, .bool false]) (t := 48) (fr := (0, 0)) (heap_alloc_new wr _)
   case c5 => simp; exact Nat.le_succ_of_le Hhb.out
   intro v' w2 hown' hgrow _
   rw [← HNX.out] at hown'
   have HO := Lib.hid hown'
   have HB := Lib.hid (hb.out.trans (((Below.refl w.heap.size wr).alloc Hhb.out _).grown hgrow (by simp; exact Nat.le_succ_of_le Hhb.out) (fun g hg => (ho.out.lt g hg).1)))
   go_wp2
   exact ⟨⟨k + 1, by go_num, by omega, HO, HB⟩, by simp [intOf]; omega⟩
  ·have hk' : k = n := by omega
   subst hk'
   go_wp2
   go_ret
   exact ⟨_, rfl, ho.out, hb.out⟩
end Go.Proofs.YtmedickofiielaaGreatDoor

namespace Go.Proofs.YtmedickofiielaaGreatDoor
open Go.RowKit

def cText (l : List PCell) : ByteArray := if allValid (textR l) then ⟨(joinL (textR l)).toArray⟩ else ⟨#[]⟩
theorem getC_some {l : List PCell} {k : Nat} (h : k < l.length) : ∃ c, l[k]? = some c := ⟨l[k], List.getElem?_eq_getElem h⟩
set_option maxRecDepth 100000 in
set_option maxHeartbeats 2000000 in
theorem rSeen_any (v : Value) (l : List PCell) (p : Nat) (w : World) (h : CAt w v l) (hp : p ≤ l.length) (hl : l.length ≤ 1000000) :
  Calls Tryz.prog 44 #[v, .int .i64 p] w fun e w' => e = .returned (.int .i64 (cSeen l p)) ∧ w' = w := by
 have H := Lib.hid h
 obtain ⟨bo, cap, rfl, h1, h2⟩ := h.shape
 obtain ⟨L, hL⟩ : ∃ L, l.length = L := ⟨_, rfl⟩
 have HL := Lib.hid hL
 rw [hL] at hp hl h1 ⊢
 have Z := Lib.hid (cSeen_zero l)
 clear hL h
 go_enter Tryz.func44, Tryz.ntmps44
 go_wp2
 go_loopw [5, 6] (fun n i wr => ∃ k : Nat, i = .int .i64 k ∧ n = .int .i64 (cSeen l k) ∧ k ≤ p ∧ wr = w) (fun _ i _ => p - (intOf i).toNat)
 case atStart => exact ⟨0, rfl, by rw [Z.out]; rfl, Nat.zero_le _, rfl⟩
 case round =>
  obtain ⟨k, rfl, rfl, hk, rfl⟩ := hrel
  rcases Nat.lt_or_ge k p with hlt | hge
  ·obtain ⟨c, hc⟩ := getC_some (l := l) (k := k) (by rw [HL.out]; omega)
   obtain ⟨b, off, cp, hv, c0, c1, c2, c3, c4⟩ := H.out.at hc
   rw [HL.out] at hv
   cases hv
   have hi0 : (0 : Int) ≤ (k : Int) ∧ (k : Int) < (L : Int) := ⟨by omega, by omega⟩
   have hle := cSeen_le l k
   cases hg : c.gone with
   | true =>
    rw [hg] at c4
    have HN := Lib.hid (cSeen_gone hc hg)
    clear hc hg c0 c1 c2 c3
    go_wp2
    exact ⟨⟨k + 1, by go_num, by rw [HN.out], by omega, trivial⟩, by simp [intOf]; omega⟩
   | false =>
    rw [hg] at c4
    have HN := Lib.hid (cSeen_live hc hg)
    clear hc hg c0 c1 c2 c3
    generalize cSeen l k = S at *
    go_wp2
    exact ⟨⟨k + 1, by go_num, by rw [HN.out]; go_num, by omega, trivial⟩, by simp [intOf]; omega⟩
  ·have hk' : k = p := by omega
   subst hk'
   go_wp2
   go_ret
   exact ⟨rfl, rfl⟩
set_option maxRecDepth 100000 in
set_option maxHeartbeats 2000000 in
theorem rLive_any (v : Value) (l : List PCell) (w : World) (h : CAt w v l) (hl : l.length ≤ 1000000) :
  Calls Tryz.prog 17 #[v] w fun e w' => e = .returned (.int .i64 (cLive l)) ∧ w' = w := by
 have hS := rSeen_any v l l.length w h (Nat.le_refl _) hl
 obtain ⟨bo, cap, rfl, h1, h2⟩ := h.shape
 unfold cLive
 generalize cSeen l l.length = S at *
 generalize l.length = L at *
 clear h
 go_enter Tryz.func17, Tryz.ntmps17
 go_wp2_with fail
 refine hS.mono ?_
 rintro e w1 ⟨rfl, rfl⟩
 go_wp2
 go_ret
 exact ⟨rfl, rfl⟩
end Go.Proofs.YtmedickofiielaaGreatDoor

namespace Go.Proofs.YtmedickofiielaaGreatDoor
open Go.RowKit

def hasN (l : List PCell) (s q : Int) : Bool := l.any fun c => decide (c.site = s ∧ c.seq = q)
def cDo (l : List PCell) (o : POp) : List PCell × Int := if oMay o l.length then (if o.kind = 1 ∧ hasN l o.site o.seq = true then (l, 15) else (runC l o, 0)) else (l, 1)
def CellsEPost (v : Value) (x : List PCell × Int) (w : World) (e : Ending) (w' : World) : Prop := ∃ v', e = .returned (.tuple #[v', .int .i64 x.2]) ∧ CAt w' v' x.1 ∧ (v' = v ∨ ∀ g, v'.ownBlock = some g → w.heap.size ≤ g) ∧ Below w.heap.size w w'
theorem CellsEPost.same {v : Value} {l : List PCell} {c : Int} {x : List PCell × Int} {w w' : World} (hx : x = (l, c)) (h : CAt w v l) (hb : Below w.heap.size w w') : CellsEPost v x w (.returned (.tuple #[v, .int .i64 c])) w' := by
 subst hx
 exact ⟨v, rfl, h.below hb, .inl rfl, hb⟩
theorem CellsEPost.new {v v' : Value} {m : List PCell} {c : Int} {x : List PCell × Int} {w w' : World} (hx : x = (m, c)) (h : CAt w' v' m) (hf : ∀ g, v'.ownBlock = some g → w.heap.size ≤ g) (hb : Below w.heap.size w w') : CellsEPost v x w (.returned (.tuple #[v', .int .i64 c])) w' := by
 subst hx
 exact ⟨v', rfl, h, .inr hf, hb⟩
end Go.Proofs.YtmedickofiielaaGreatDoor

namespace Go.Proofs.YtmedickofiielaaGreatDoor
open Go.RowKit

def keptC (l : List PCell) (f : Nat → Bool) (k : Nat) : List PCell := (List.range k).filterMap fun i => if f i then none else l[i]?
theorem keptC_no {l : List PCell} {f : Nat → Bool} {k : Nat} (hf : f k = true) : keptC l f (k + 1) = keptC l f k := by
 unfold keptC
 rw [List.range_succ, List.filterMap_append]
 simp [hf]
theorem keptC_yes {l : List PCell} {f : Nat → Bool} {k : Nat} {c : PCell} (hf : f k = false) (hc : l[k]? = some c) : keptC l f (k + 1) = keptC l f k ++ [c] := by
 unfold keptC
 rw [List.range_succ, List.filterMap_append]
 simp [hf, hc]
theorem keptC_le (l : List PCell) (f : Nat → Bool) (k : Nat) : (keptC l f k).length ≤ k := by
 unfold keptC
 refine Nat.le_trans (List.length_filterMap_le _ _) ?_
 rw [List.length_range]
 exact Nat.le_refl _
def outB (f : Nat → Bool) (n m : Nat) : Bool := (List.range m).any fun i => decide (n ≤ i) && f i
def liveB (l : List PCell) (f : Nat → Bool) (k : Nat) : Bool := (List.range k).any fun i => f i && !goneB l i
def cDrop (l : List PCell) (xs : List Sp) : List PCell × Int :=
 if sMay xs then (if outB (sMark xs) l.length 20000 then (l, 1) else if liveB l (sMark xs) l.length then (l, 13) else (keptC l (sMark xs) l.length, 0)) else (l, 1)
end Go.Proofs.YtmedickofiielaaGreatDoor

namespace Go.Proofs.YtmedickofiielaaGreatDoor
open Go.RowKit

def cellOk (c : PCell) : Bool := nMay c.site c.seq && decide (0 ≤ c.off ∧ c.off ≤ 199) && Lib.validRune c.r
def sameId (c d : PCell) : Bool := decide (c.site = d.site ∧ c.seq = d.seq ∧ c.off = d.off)
def dupTo (l : List PCell) (d : PCell) (k : Nat) : Bool := (l.take k).any fun c => sameId c d
def dupC (l : List PCell) (n : Nat) : Bool := (List.range n).any fun i => match l[i]? with
 | some d => dupTo l d i
 | none => false
def cMay (l : List PCell) : Int := if l.all cellOk then (if dupC l l.length then 15 else if 20000 < l.length then 4 else 0) else 1
end Go.Proofs.YtmedickofiielaaGreatDoor

namespace Go.Proofs.YtmedickofiielaaGreatDoor
open Go.RowKit

def gapOk (l : List PCell) (i : Int) (p : Nat) : Bool := match l[p]? with
 | some c => !c.gone && decide ((cSeen l p : Int) = i)
 | none => false
def gapTo (l : List PCell) (i : Int) (k : Nat) : Option Nat := (List.range k).find? (gapOk l i)
theorem gapTo_next (l : List PCell) (i : Int) (k : Nat) : gapTo l i (k + 1) = (gapTo l i k).or (if gapOk l i k then some k else none) := by
 unfold gapTo
 rw [List.range_succ, List.find?_append]
 cases h : gapOk l i k <;> simp [h]
def cGap (l : List PCell) (i : Int) : Int := match gapTo l i l.length with
 | some p => p
 | none => if (cLive l : Int) = i then l.length else -1
def runB (l : List PCell) (i n : Int) (p : Nat) : Bool := match l[p]? with
 | some c => !c.gone && (decide (i ≤ (cSeen l p : Int)) && decide ((cSeen l p : Int) - i < n))
 | none => false
def cRunOk (l : List PCell) (i n : Int) : Bool := decide (0 ≤ i ∧ i ≤ cLive l ∧ 0 ≤ n ∧ n ≤ cLive l - i)
def cRun (l : List PCell) (i n : Int) : List Sp := sMade (runB l i n) 20000
def CRunPost (l : List PCell) (i n : Int) (w : World) (e : Ending) (w' : World) : Prop := ∃ v, e = .returned (.tuple #[v, .bool (cRunOk l i n)]) ∧ SpAt w' v (if cRunOk l i n then cRun l i n else []) ∧ Below w.heap.size w w'
theorem CRunPost.no {l : List PCell} {i n : Int} {w : World} (h : cRunOk l i n = false) : CRunPost l i n w (.returned (.tuple #[.slice none 0 0, .bool false])) w := ⟨_, by rw [h], by rw [h]; exact SpAt.nil _, Below.refl _ _⟩
theorem CRunPost.yes {l : List PCell} {i n : Int} {w w' : World} {v : Value} (h : cRunOk l i n = true) (hv : SpAt w' v (cRun l i n)) (hb : Below w.heap.size w w') : CRunPost l i n w (.returned (.tuple #[v, .bool true])) w' := ⟨_, by rw [h], by rw [h]; exact hv, hb⟩
end Go.Proofs.YtmedickofiielaaGreatDoor

namespace Go.Proofs.YtmedickofiielaaGreatDoor
open Go.RowKit

def CWf (l : List PCell) : Prop := ∀ c ∈ l, (Lit.int .i64 c.site).wf = true ∧ (Lit.int .i64 c.seq).wf = true ∧ (Lit.int .i64 c.off).wf = true ∧ (Lit.int .i32 c.r).wf = true
def DKept (D : World → Value → List PCell → (Nat → Prop) → Prop) (p : Value) (l : List PCell) (S : Nat → Prop) (w w' : World) (S' : Nat → Prop) : Prop :=
 D w' p l S' ∧ (∀ b, S' b → S b ∨ w.heap.size ≤ b) ∧ Keep S w.heap.size w w'
def DVal (D : World → Value → List PCell → (Nat → Prop) → Prop) (p : Value) (l : List PCell) (S : Nat → Prop) (x : Value) (w : World) (e : Ending) (w' : World) : Prop := ∃ S', DKept D p l S w w' S' ∧ e = .returned x
structure CC where
 D : World → Value → List PCell → (Nat → Prop) → Prop
 keep : ∀ {w w' : World} {p : Value} {l : List PCell} {S : Nat → Prop}, D w p l S → (∀ b, S b → w'.heap[b]? = w.heap[b]?) → w.heap.size ≤ w'.heap.size → D w' p l S
 low : ∀ {w : World} {p : Value} {l : List PCell} {S : Nat → Prop}, D w p l S → ∀ b, S b → b < w.heap.size
 ptr : ∀ {w : World} {p : Value} {l : List PCell} {S : Nat → Prop}, D w p l S → ∃ B, p = .pointer (some ⟨B, 0, none⟩)
 may : ∀ {w : World} {p : Value} {l : List PCell} {S : Nat → Prop}, D w p l S → cMay l = 0
 new_yes : ∀ (v : Value) (l : List PCell) (w : World), TabW w → CAt w v l → CWf l → l.length ≤ 20000 → cMay l = 0 →
  Calls Tryz.prog 16 #[v] w fun e w' => ∃ p S, e = .returned (.tuple #[p, .int .i64 0]) ∧ D w' p l S ∧ (∀ b, S b → w.heap.size ≤ b) ∧ Below w.heap.size w w'
 new_no : ∀ (v : Value) (l : List PCell) (w : World), TabW w → CAt w v l → CWf l → l.length ≤ 20000 → cMay l ≠ 0 →
  Calls Tryz.prog 16 #[v] w fun e w' => e = .returned (.tuple #[.pointer none, .int .i64 (cMay l)]) ∧ Below w.heap.size w w'
 doOp : ∀ (s q n k a : Int) (t : ByteArray) (sp : Value) (xs : List Sp) (p : Value) (l : List PCell) (S : Nat → Prop) (w : World), D w p l S → TabW w → SpAt w sp xs → NWf s q n k a → t.size ≤ 1000 → xs.length ≤ 20000 → sWf xs →
  Calls Tryz.prog 18 #[p, opV s q n k a t sp] w (DVal D p (cDo l ⟨s, q, n, k, a, t.data.toList, xs⟩).1 S (.int .i64 (cDo l ⟨s, q, n, k, a, t.data.toList, xs⟩).2) w)
 drop : ∀ (sp : Value) (xs : List Sp) (p : Value) (l : List PCell) (S : Nat → Prop) (w : World), D w p l S → SpAt w sp xs → sWf xs → xs.length ≤ 20000 →
  Calls Tryz.prog 14 #[p, sp] w (DVal D p (cDrop l xs).1 S (.int .i64 (cDrop l xs).2) w)
 size : ∀ (p : Value) (l : List PCell) (S : Nat → Prop) (w : World), D w p l S → Calls Tryz.prog 15 #[p] w (DVal D p l S (.int .i64 l.length) w)
 live : ∀ (p : Value) (l : List PCell) (S : Nat → Prop) (w : World), D w p l S → Calls Tryz.prog 10 #[p] w (DVal D p l S (.int .i64 (cLive l)) w)
 text : ∀ (p : Value) (l : List PCell) (S : Nat → Prop) (w : World), D w p l S → Calls Tryz.prog 21 #[p] w (DVal D p l S (.string (cText l)) w)
 cells : ∀ (p : Value) (l : List PCell) (S : Nat → Prop) (w : World), D w p l S → Calls Tryz.prog 64 #[p] w fun e w' => ∃ v S', e = .returned v ∧ DKept D p l S w w' S' ∧ CAt w' v l ∧ ∀ g, v.ownBlock = some g → w.heap.size ≤ g ∧ ¬ S' g
 gone : ∀ (p : Value) (l : List PCell) (S : Nat → Prop) (w : World), D w p l S → Calls Tryz.prog 12 #[p] w fun e w' => ∃ v S', e = .returned v ∧ DKept D p l S w w' S' ∧ SpAt w' v (cGone l)
 gap : ∀ (i : Int) (p : Value) (l : List PCell) (S : Nat → Prop) (w : World), D w p l S → (Lit.int .i64 i).wf = true →
  Calls Tryz.prog 27 #[p, .int .i64 i] w (DVal D p l S (if cGap l i < 0 then .tuple #[.int .i64 0, .int .i64 3] else .tuple #[.int .i64 (cGap l i), .int .i64 0]) w)
end Go.Proofs.YtmedickofiielaaGreatDoor

namespace Go.Proofs.YtmedickofiielaaGreatDoor
open Go.RowKit

structure PAct where
 kd : Int
 site : Int
 seq : Int
 num : Int
 kind : Int
 pl : Int
 text : ByteArray
 sp : Value
 xs : List Sp
def PAct.op (x : PAct) : POp := ⟨x.site, x.seq, x.num, x.kind, x.pl, x.text.data.toList, x.xs⟩
def PAct.vals (x : PAct) : List Value := [.int .u8 x.kd, .int .i64 x.site, .int .i64 x.seq, .int .i64 x.num, .int .i64 x.kind, .int .i64 x.pl, .string x.text, x.sp]
def PAct.val (x : PAct) : Value := .agg #[.int .u8 x.kd, .int .i64 x.site, .int .i64 x.seq, .int .i64 x.num, .int .i64 x.kind, .int .i64 x.pl, .string x.text, x.sp]
def aCells : List PAct → List Value
 | [] => []
 | c :: r => c.vals ++ aCells r
theorem aCells_length : ∀ l, (aCells l).length = l.length * 8
 | [] => rfl
 | c :: r => by
  show (c.vals ++ aCells r).length = (r.length + 1) * 8
  rw [List.length_append, aCells_length r, show c.vals.length = 8 from rfl]
  omega
theorem aCells_at : ∀ (l : List PAct) (i j : Nat) (c : PAct), l[i]? = some c → j < 8 → (aCells l)[i * 8 + j]? = c.vals[j]?
 | [], i, _, _, h, _ => by simp at h
 | d :: r, 0, j, c, h, hj => by
  obtain rfl : d = c := by simpa using h
  show (d.vals ++ aCells r)[0 * 8 + j]? = _
  rw [List.getElem?_append_left (by show 0 * 8 + j < 8; omega), show 0 * 8 + j = j by omega]
 | d :: r, i + 1, j, c, h, hj => by
  show (d.vals ++ aCells r)[(i + 1) * 8 + j]? = _
  rw [List.getElem?_append_right (by show 8 ≤ (i + 1) * 8 + j; omega), show (i + 1) * 8 + j - d.vals.length = i * 8 + j by show (i + 1) * 8 + j - 8 = _; omega]
  exact aCells_at r i j c (by simpa using h) hj
structure PAct.Wf (x : PAct) : Prop where
 kd : (Lit.int .u8 x.kd).wf = true
 s : (Lit.int .i64 x.site).wf = true
 q : (Lit.int .i64 x.seq).wf = true
 n : (Lit.int .i64 x.num).wf = true
 k : (Lit.int .i64 x.kind).wf = true
 a : (Lit.int .i64 x.pl).wf = true
 w : sWf x.xs
def ActsAt (W : World) (v : Value) (l : List PAct) : Prop := RowR 8 W v l.length (aCells l) ∧ ∀ x ∈ l, SpAt W x.sp x.xs ∧ x.Wf
theorem ActsAt.below {W W' : World} {v : Value} {l : List PAct} (h : ActsAt W v l) (hb : Below W.heap.size W W') : ActsAt W' v l := ⟨h.1.below hb, fun x hx => ⟨(h.2 x hx).1.below hb, (h.2 x hx).2⟩⟩
theorem ActsAt.shape {W : World} {v : Value} {l : List PAct} (h : ActsAt W v l) : ∃ ao cap, v = .slice ao l.length cap := by
 obtain ⟨⟨_, ao, cap, e, _⟩, _⟩ := h
 exact ⟨ao, cap, e⟩
theorem ActsAt.at {W : World} {v : Value} {l : List PAct} (h : ActsAt W v l) {i : Nat} {x : PAct} (hi : l[i]? = some x) : ∃ b off cap, v = .slice (some ⟨b, off, none⟩) l.length cap ∧
  W.cell? ⟨b, off + i * 8, none⟩ = some (.int .u8 x.kd) ∧ W.cell? ⟨b, off + i * 8 + 1, none⟩ = some (.int .i64 x.site) ∧ W.cell? ⟨b, off + i * 8 + 2, none⟩ = some (.int .i64 x.seq) ∧
  W.cell? ⟨b, off + i * 8 + 3, none⟩ = some (.int .i64 x.num) ∧ W.cell? ⟨b, off + i * 8 + 4, none⟩ = some (.int .i64 x.kind) ∧ W.cell? ⟨b, off + i * 8 + 5, none⟩ = some (.int .i64 x.pl) ∧
  W.cell? ⟨b, off + i * 8 + 6, none⟩ = some (.string x.text) ∧ W.cell? ⟨b, off + i * 8 + 7, none⟩ = some x.sp := by
 obtain ⟨⟨_, ao, cap, rfl, h2⟩, _⟩ := h
 have hl := (List.getElem?_eq_some_iff.1 hi).1
 obtain ⟨b, off, rfl, hc⟩ := h2 (by omega)
 have e : ∀ j, j < 8 → W.cell? ⟨b, off + i * 8 + j, none⟩ = x.vals[j]? := fun j hj => by
  have q := aCells_at l i j x hi hj
  have hlt : j < x.vals.length := hj
  rw [List.getElem?_eq_getElem hlt] at q ⊢
  rw [Nat.add_assoc]
  exact hc _ _ q
 exact ⟨b, off, cap, rfl, e 0 (by decide), e 1 (by decide), e 2 (by decide), e 3 (by decide), e 4 (by decide), e 5 (by decide), e 6 (by decide), e 7 (by decide)⟩
theorem ActsAt.mem {W : World} {v : Value} {l : List PAct} (h : ActsAt W v l) {i : Nat} {x : PAct} (hi : l[i]? = some x) : SpAt W x.sp x.xs ∧ x.Wf := h.2 x (List.mem_of_getElem? hi)
def aGreat (x : PAct) : Bool := decide ((40 : Int) < x.xs.length) || decide ((1000 : Int) < x.text.size)
def cGreat (l : List PCell) (xa : List PAct) : Bool := decide (250 < l.length) || (decide (25 < xa.length) || xa.any aGreat)
theorem aGreat_next {l : List PAct} {k : Nat} {x : PAct} (h : l[k]? = some x) : (l.take (k + 1)).any aGreat = ((l.take k).any aGreat || aGreat x) := by
 rw [List.take_add_one, h, List.any_append]
 simp
theorem getA_some {l : List PAct} {k : Nat} (h : k < l.length) : ∃ c, l[k]? = some c := ⟨l[k], List.getElem?_eq_getElem h⟩
set_option maxRecDepth 100000 in
set_option maxHeartbeats 2000000 in
theorem cgreat1_any (s q n k a : Int) (t : ByteArray) (x : Nat) (ao : Option Addr) (cap : Nat) (w : World) :
  Calls Tryz.prog 24 #[opV s q n k a t (.slice ao x cap)] w fun e w' => e = .returned (.bool (decide ((40 : Int) < x) || decide ((1000 : Int) < t.size))) ∧ Below w.heap.size w w' := by
 have hbx := OBox.new s q n k a t (.slice ao x cap) w 50
 have hB := hbx.2.2.2.2.2.2.2
 unfold opV
 go_enter Tryz.func24, Tryz.ntmps24
 go_wp2
 all_goals
  go_ret
  exact ⟨rfl, hB⟩
set_option maxRecDepth 100000 in
set_option maxHeartbeats 4000000 in
theorem cgreat_any (v : Value) (l : List PCell) (u : Value) (xa : List PAct) (w : World) (h : CAt w v l) (hA : ActsAt w u xa) :
  Calls Tryz.prog 7 #[v, u] w fun e w' => e = .returned (.bool (cGreat l xa)) ∧ Below w.heap.size w w' := by
 have HA := Lib.hid hA
 obtain ⟨bo, cap, rfl, h1, h2⟩ := h.shape
 obtain ⟨ao, ac, rfl⟩ := hA.shape
 unfold cGreat
 obtain ⟨L, hL⟩ : ∃ L, l.length = L := ⟨_, rfl⟩
 obtain ⟨M, hM⟩ : ∃ M, xa.length = M := ⟨_, rfl⟩
 have HM := Lib.hid hM
 rw [hL, hM]
 clear hL hM h h1 hA
 by_cases b0 : 250 < L
 ·rw [decide_eq_true b0, Bool.true_or]
  have b1 : (250 : Int) < (L : Int) := by omega
  go_enter Tryz.func7, Tryz.ntmps7
  go_wp2
  go_ret
  exact ⟨rfl, Below.refl _ _⟩
 rw [decide_eq_false b0, Bool.false_or]
 have b1 : ¬ (250 : Int) < (L : Int) := by omega
 clear b0
 by_cases b2 : 25 < M
 ·rw [decide_eq_true b2, Bool.true_or]
  have b3 : (25 : Int) < (M : Int) := by omega
  go_enter Tryz.func7, Tryz.ntmps7
  go_wp2
  go_ret
  exact ⟨rfl, Below.refl _ _⟩
 rw [decide_eq_false b2, Bool.false_or]
 have b3 : ¬ (25 : Int) < (M : Int) := by omega
 clear b2
 go_enter Tryz.func7, Tryz.ntmps7
 go_wp2
 go_loopw [5] (fun i wr => ∃ k : Nat, i = .int .i64 k ∧ k ≤ M ∧ RowKit.Hid ((xa.take k).any aGreat = false) ∧ RowKit.Hid (Below w.heap.size w wr)) (fun i _ => M - (intOf i).toNat)
 case atStart => exact ⟨0, rfl, Nat.zero_le _, Lib.hid rfl, Lib.hid (Below.refl _ _)⟩
 case round =>
  obtain ⟨k, rfl, hk, hg, hb⟩ := hrel
  rcases Nat.lt_or_ge k M with hlt | hge
  ·obtain ⟨x, hx⟩ := getA_some (l := xa) (k := k) (by rw [HM.out]; omega)
   obtain ⟨b, off, cp, hv, c0, c1, c2, c3, c4, c5, c6, c7⟩ := (HA.out.below hb.out).at hx
   rw [HM.out] at hv
   cases hv
   have hi0 : (0 : Int) ≤ (k : Int) ∧ (k : Int) < (M : Int) := ⟨by omega, by omega⟩
   obtain ⟨sa, sc, hsp, _⟩ := (HA.out.mem hx).1
   rw [hsp] at c7
   have hG := fun W => cgreat1_any x.site x.seq x.num x.kind x.pl x.text x.xs.length sa sc W
   unfold opV at hG
   have hgr : (decide ((40 : Int) < x.xs.length) || decide ((1000 : Int) < x.text.size)) = aGreat x := rfl
   rw [hgr] at hG
   have Hx := Lib.hid hx
   clear hx hgr hsp c0
   cases hq : aGreat x with
   | true =>
    rw [hq] at hG
    have HV := Lib.hid (show xa.any aGreat = true from List.any_eq_true.2 ⟨x, List.mem_of_getElem? Hx.out, hq⟩)
    clear hq
    go_wp2_with fail
    refine (hG _).mono ?_
    clear hG
    rintro e w1 ⟨rfl, hb1⟩
    have hz := hb.out.trans (hb1.mono hb.out.size)
    go_wp2
    go_ret
    exact ⟨ret_bool HV.out.symm, hz⟩
   | false =>
    rw [hq] at hG
    have HN := Lib.hid (show (xa.take (k + 1)).any aGreat = false by rw [aGreat_next Hx.out, hg.out, hq]; rfl)
    clear hq
    go_wp2_with fail
    refine (hG _).mono ?_
    clear hG
    rintro e w1 ⟨rfl, hb1⟩
    have hz := Lib.hid (hb.out.trans (hb1.mono hb.out.size))
    go_wp2
    exact ⟨⟨k + 1, by go_num, by omega, HN, hz⟩, by simp [intOf]; omega⟩
  ·have hk2 : k = M := by omega
   subst hk2
   have hV := hg.out
   rw [List.take_of_length_le (by rw [HM.out]; exact Nat.le_refl _)] at hV
   have HV := Lib.hid hV
   have hz := hb.out
   clear hV
   go_wp2
   go_ret
   exact ⟨ret_bool HV.out.symm, hz⟩
end Go.Proofs.YtmedickofiielaaGreatDoor

namespace Go.Proofs.YtmedickofiielaaGreatDoor
open Go.RowKit

def cFind (l : List PCell) (s q off : Int) : Int × Bool := match l.findIdx? fun c => decide (c.site = s ∧ c.seq = q ∧ c.off = off) with
 | some i => (i, true)
 | none => (0, false)
def Nothing (x : Value) (w : World) (e : Ending) (w' : World) : Prop := e = .returned x ∧ Below w.heap.size w w'
end Go.Proofs.YtmedickofiielaaGreatDoor

namespace Go.Proofs.YtmedickofiielaaGreatDoor

theorem cMay_ok {l : List PCell} (h : cMay l = 0) : l.all cellOk = true ∧ dupC l l.length = false ∧ l.length ≤ 20000 := by
 unfold cMay at h
 by_cases h1 : l.all cellOk = true
 ·rw [if_pos h1] at h
  by_cases h2 : dupC l l.length = true
  ·rw [if_pos h2] at h; omega
  ·rw [if_neg h2] at h
   refine ⟨h1, by simpa using h2, ?_⟩
   split at h <;> omega
 ·rw [if_neg h1] at h; omega
theorem dup_no {l : List PCell} (h : dupC l l.length = false) {i k : Nat} {c d : PCell} (hik : k < i) (hc : l[k]? = some c) (hd : l[i]? = some d) : sameId c d = false := by
 unfold dupC at h
 rw [List.any_eq_false] at h
 have hi := (List.getElem?_eq_some_iff.1 hd).1
 have h1 := h i (List.mem_range.2 hi)
 rw [hd] at h1
 simp only at h1
 cases hs : sameId c d with
 | false => rfl
 | true =>
  exfalso
  apply h1
  unfold dupTo
  rw [List.any_eq_true]
  refine ⟨c, ?_, hs⟩
  exact List.mem_of_getElem? (by rw [List.getElem?_take, if_pos hik]; exact hc)
theorem find_at {l : List PCell} (h : cMay l = 0) {k : Nat} {c : PCell} (hc : l[k]? = some c) : cFind l c.site c.seq c.off = ((k : Int), true) := by
 obtain ⟨_, h2, _⟩ := cMay_ok h
 have hk := (List.getElem?_eq_some_iff.1 hc).1
 have : (l.findIdx? fun d => decide (d.site = c.site ∧ d.seq = c.seq ∧ d.off = c.off)) = some k := by
  rw [List.findIdx?_eq_some_iff_getElem]
  have e : l[k] = c := by
   have := (List.getElem?_eq_some_iff.1 hc).2
   exact this
  refine ⟨hk, by rw [e]; simp, fun j hj => ?_⟩
  have hjl : j < l.length := by omega
  have hs := dup_no h2 hj (List.getElem?_eq_getElem hjl) hc
  unfold sameId at hs
  rw [hs]
  simp
 unfold cFind
 rw [this]
end Go.Proofs.YtmedickofiielaaGreatDoor

namespace Go.Proofs.YtmedickofiielaaGreatDoor
open Go.RowKit

theorem CC.below (C : CC) {w w' : World} {p : Value} {l : List PCell} {S : Nat → Prop} (h : C.D w p l S) (hb : Below w.heap.size w w') : C.D w' p l S := C.keep h (fun b hS => hb.block b (C.low h b hS)) hb.size
theorem DKept.up {D : World → Value → List PCell → (Nat → Prop) → Prop} {p : Value} {l : List PCell} {S S' : Nat → Prop} {w w' : World} {N : Nat} (h : DKept D p l S w w' S') (hS : ∀ b, S b → N ≤ b) (hN : N ≤ w.heap.size) : (∀ b, S' b → N ≤ b) ∧ Below N w w' :=
 ⟨fun b hb => (h.2.1 b hb).elim (hS b) (fun q => Nat.le_trans hN q), h.2.2.below hN hS⟩
theorem CAt.keep {S : Nat → Prop} {W W' : World} {v : Value} {l : List PCell} (h : CAt W v l) (hk : Keep S W.heap.size W W') (hg : ∀ g, v.ownBlock = some g → ¬ S g) : CAt W' v l := by
 obtain ⟨hl, ao, cap, rfl, h1, h2, h3, h4⟩ := h
 refine ⟨hl, ao, cap, rfl, h1, h2, h3, fun ad ha => ?_⟩
 subst ha
 obtain ⟨b, off, rfl, hlt, hc⟩ := h4 _ rfl
 refine ⟨b, off, rfl, Nat.lt_of_lt_of_le hlt hk.size, fun j u hj => ?_⟩
 rw [hk.cell (p := ⟨b, off + j, none⟩) hlt (hg b rfl)]
 exact hc j u hj
theorem CAt.lt {W : World} {v : Value} {l : List PCell} (h : CAt W v l) : ∀ g, v.ownBlock = some g → g < W.heap.size := by
 obtain ⟨_, ao, cap, rfl, _, _, _, h4⟩ := h
 intro g hg
 cases ao with
 | none => cases hg
 | some ad =>
  obtain ⟨b, off, rfl, hlt, _⟩ := h4 _ rfl
  cases hg
  exact hlt
def DOwn (C : CC) (N : Nat) (w : World) (p : Value) (l : List PCell) (W : World) : Prop := ∃ S, C.D W p l S ∧ (∀ b, S b → N ≤ b) ∧ Below N w W ∧ N ≤ W.heap.size
theorem DOwn.below {C : CC} {N : Nat} {w : World} {p : Value} {l : List PCell} {W W' : World} (h : DOwn C N w p l W) (hb : Below W.heap.size W W') : DOwn C N w p l W' := by
 obtain ⟨S, h1, h2, h3, h4⟩ := h
 exact ⟨S, C.below h1 hb, h2, h3.trans (hb.mono h4), Nat.le_trans h4 hb.size⟩
theorem DOwn.kept {C : CC} {N : Nat} {w : World} {p : Value} {m : List PCell} {W W' : World} {S S' : Nat → Prop} (h2 : ∀ b, S b → N ≤ b) (h3 : Below N w W) (h4 : N ≤ W.heap.size) (hk : DKept C.D p m S W W' S') : DOwn C N w p m W' := by
 obtain ⟨q1, q2⟩ := hk.up h2 h4
 exact ⟨S', hk.1, q1, h3.trans q2, Nat.le_trans h4 q2.size⟩
theorem DOwn.call {C : CC} {N f : Nat} {args : Array Value} {w : World} {p x : Value} {l m : List PCell} {W : World} (h : DOwn C N w p l W) (hc : ∀ S, C.D W p l S → Calls Tryz.prog f args W (DVal C.D p m S x W)) : Calls Tryz.prog f args W fun e W' => e = .returned x ∧ DOwn C N w p m W' := by
 obtain ⟨S, h1, h2, h3, h4⟩ := h
 refine (hc S h1).mono ?_
 rintro e W' ⟨S', hk, he⟩
 exact ⟨he, DOwn.kept h2 h3 h4 hk⟩
theorem DOwn.ptr {C : CC} {N : Nat} {w : World} {p : Value} {l : List PCell} {W : World} (h : DOwn C N w p l W) : ∃ B, p = .pointer (some ⟨B, 0, none⟩) := by
 obtain ⟨S, h1, _⟩ := h
 exact C.ptr h1
theorem DOwn.up {C : CC} {N : Nat} {w : World} {p : Value} {l : List PCell} {W : World} (h : DOwn C N w p l W) : Below N w W := by
 obtain ⟨S, _, _, h3, _⟩ := h
 exact h3
end Go.Proofs.YtmedickofiielaaGreatDoor

namespace Go.Proofs.YtmedickofiielaaGreatDoor
open Go.RowKit

theorem DKept.after {D : World → Value → List PCell → (Nat → Prop) → Prop} {p : Value} {m : List PCell} {S S' : Nat → Prop} {W W1 W' : World} (hb : Below W.heap.size W W1) (h : DKept D p m S W1 W' S') : DKept D p m S W W' S' :=
 ⟨h.1, fun b hb' => (h.2.1 b hb').imp id (fun q => Nat.le_trans hb.size q), (Keep.of_below hb (Nat.le_refl _)).trans (h.2.2.weak hb.size fun _ _ q => q)⟩
theorem DKept.trans {D : World → Value → List PCell → (Nat → Prop) → Prop} {p : Value} {l m : List PCell} {S S1 S2 : Nat → Prop} {W W1 W2 : World} (h : DKept D p l S W W1 S1) (k : DKept D p m S1 W1 W2 S2) : DKept D p m S W W2 S2 :=
 ⟨k.1, fun b hb => (k.2.1 b hb).elim (h.2.1 b) (fun q => .inr (Nat.le_trans h.2.2.size q)), h.2.2.trans (k.2.2.weak h.2.2.size fun b hb q => (h.2.1 b q).elim id (fun z => absurd hb (Nat.not_lt.2 z)))⟩
theorem cGone_wf (l : List PCell) : sWf (cGone l) := sWf_may ((sMay_good _).2 (sMade_good _ _ (Nat.le_refl _)))
theorem cGone_length (l : List PCell) : (cGone l).length ≤ 20000 := sMade_length _ _
theorem aGreat_no {x : PAct} (h : aGreat x = false) : x.xs.length ≤ 40 ∧ x.text.size ≤ 1000 := by
 unfold aGreat at h
 rw [Bool.or_eq_false_iff, decide_eq_false_iff_not, decide_eq_false_iff_not] at h
 omega
end Go.Proofs.YtmedickofiielaaGreatDoor

namespace Go.Proofs.YtmedickofiielaaGreatDoor

theorem gone_mark (l : List PCell) (hl : l.length ≤ 20000) : sMark (cGone l) = goneB l := by
 funext i
 unfold cGone
 rw [sMade_mark]
 by_cases g : i < 20000
 ·rw [decide_eq_true g, Bool.true_and]
 ·rw [decide_eq_false g, Bool.false_and, goneB_out (by omega)]
theorem drop_gone {l : List PCell} (hl : l.length ≤ 20000) : cDrop l (cGone l) = (keptC l (goneB l) l.length, 0) := by
 have h1 : sMay (cGone l) = true := (sMay_good _).2 (sMade_good _ _ (Nat.le_refl _))
 have h2 : outB (sMark (cGone l)) l.length 20000 = false := by
  unfold outB
  rw [List.any_eq_false]
  intro i _
  rw [gone_mark l hl]
  by_cases g : l.length ≤ i
  ·rw [goneB_out g]; simp
  ·simp [g]
 have h3 : liveB l (sMark (cGone l)) l.length = false := by
  unfold liveB
  rw [List.any_eq_false]
  intro i _
  rw [gone_mark l hl]
  cases goneB l i <;> simp
 unfold cDrop
 rw [if_pos h1, if_neg (by rw [h2]; decide), if_neg (by rw [h3]; decide), gone_mark l hl]
theorem kept_live (l : List PCell) : ∀ k, k ≤ l.length → ∀ c ∈ keptC l (goneB l) k, c.gone = false
 | 0, _, c, h => by cases h
 | k + 1, hk, c, h => by
  obtain ⟨d, hd⟩ := getC_some (l := l) (k := k) (by omega)
  cases hg : d.gone with
  | true =>
   rw [keptC_no (by rw [goneB_at hd]; exact hg)] at h
   exact kept_live l k (by omega) c h
  | false =>
   rw [keptC_yes (by rw [goneB_at hd]; exact hg) hd] at h
   rcases List.mem_append.1 h with h | h
   ·exact kept_live l k (by omega) c h
   ·simp at h; rw [h]; exact hg
end Go.Proofs.YtmedickofiielaaGreatDoor

namespace Go.Proofs.YtmedickofiielaaGreatDoor

theorem cSeen_step (l : List PCell) (k : Nat) : cSeen l k ≤ cSeen l (k + 1) ∧ cSeen l (k + 1) ≤ cSeen l k + 1 := by
 cases hc : l[k]? with
 | none =>
  have : cSeen l (k + 1) = cSeen l k := by
   unfold cSeen
   rw [List.take_add_one, hc]
   simp
  omega
 | some c =>
  cases hg : c.gone with
  | true => rw [cSeen_gone hc hg]; omega
  | false => rw [cSeen_live hc hg]; omega
theorem cSeen_mono (l : List PCell) {a b : Nat} (h : a ≤ b) : cSeen l a ≤ cSeen l b := by
 obtain ⟨d, rfl⟩ := Nat.exists_eq_add_of_le h
 clear h
 induction d with
 | zero => exact Nat.le_refl _
 | succ d ih => exact Nat.le_trans ih (cSeen_step l (a + d)).1
theorem textR_length (l : List PCell) (k : Nat) : (textR (l.take k)).length = cSeen l k := by
 unfold textR cSeen
 rw [List.length_map, List.countP_eq_length_filter]
theorem textR_append (a b : List PCell) : textR (a ++ b) = textR a ++ textR b := by
 unfold textR
 rw [List.filter_append, List.map_append]
theorem textR_parts (l : List PCell) (p : Nat) : textR (l.take p) = (textR l).take (cSeen l p) ∧ textR (l.drop p) = (textR l).drop (cSeen l p) := by
 have e : textR l = textR (l.take p) ++ textR (l.drop p) := by rw [← textR_append, List.take_append_drop]
 have hl := textR_length l p
 rw [e, ← hl]
 exact ⟨(List.take_left' rfl).symm, (List.drop_left' rfl).symm⟩
theorem gapOk_seen {l : List PCell} {i : Int} {p : Nat} (h : gapOk l i p = true) : p < l.length ∧ (cSeen l p : Int) = i ∧ (cSeen l (p + 1) : Int) = i + 1 := by
 unfold gapOk at h
 cases hc : l[p]? with
 | none => rw [hc] at h; cases h
 | some c =>
  rw [hc] at h
  simp only [Bool.and_eq_true, Bool.not_eq_true', decide_eq_true_eq] at h
  refine ⟨(List.getElem?_eq_some_iff.1 hc).1, h.2, ?_⟩
  rw [cSeen_live hc h.1]
  omega
theorem gap_some (l : List PCell) (i : Nat) : ∀ k, k ≤ l.length → i < cSeen l k → ∃ p, p < k ∧ gapOk l i p = true
 | 0, _, h => by rw [cSeen_zero] at h; omega
 | k + 1, hk, h => by
  by_cases h1 : i < cSeen l k
  ·obtain ⟨p, hp, hq⟩ := gap_some l i k (by omega) h1
   exact ⟨p, by omega, hq⟩
  ·obtain ⟨c, hc⟩ := getC_some (l := l) (k := k) (by omega)
   have hs := cSeen_step l k
   cases hg : c.gone with
   | true => rw [cSeen_gone hc hg] at h; omega
   | false =>
    refine ⟨k, by omega, ?_⟩
    unfold gapOk
    rw [hc]
    simp only [hg, Bool.not_false, Bool.true_and, decide_eq_true_eq]
    omega
theorem gap_cases (l : List PCell) (i : Int) : (∃ p : Nat, (0 ≤ i ∧ i ≤ cLive l) ∧ p ≤ l.length ∧ cGap l i = p ∧ cSeen l p = i.toNat) ∨ (¬ (0 ≤ i ∧ i ≤ cLive l) ∧ cGap l i = -1) := by
 cases hg : gapTo l i l.length with
 | some p =>
  have h1 : gapOk l i p = true := List.find?_some hg
  obtain ⟨q1, q2, q3⟩ := gapOk_seen h1
  have hm := cSeen_mono l (show p + 1 ≤ l.length by omega)
  refine .inl ⟨p, ⟨by omega, ?_⟩, by omega, ?_, by omega⟩
  ·unfold cLive; omega
  ·unfold cGap; rw [hg]
 | none =>
  have hn : ∀ p, p < l.length → gapOk l i p = false := fun p hp => by
   have := List.find?_eq_none.1 hg p (List.mem_range.2 hp)
   simpa using this
  by_cases he : (cLive l : Int) = i
  ·refine .inl ⟨l.length, ⟨by omega, by omega⟩, Nat.le_refl _, ?_, ?_⟩
   ·unfold cGap; rw [hg]; exact if_pos he
   ·have : cSeen l l.length = cLive l := rfl
    omega
  ·refine .inr ⟨fun hz => ?_, ?_⟩
   ·obtain ⟨p, hp, hq⟩ := gap_some l i.toNat l.length (Nat.le_refl _) (by have : cSeen l l.length = cLive l := rfl; omega)
    rw [show ((i.toNat : Nat) : Int) = i by omega, hn p hp] at hq
    cases hq
   ·unfold cGap; rw [hg]; exact if_neg he
end Go.Proofs.YtmedickofiielaaGreatDoor

namespace Go.Proofs.YtmedickofiielaaGreatDoor

def kPut (l : List PCell) (site i j : Int) : Int × Int × Int × Int :=
 if 1 ≤ site ∧ site ≤ 16 then (if cGap l i < 0 then (0, 0, 0, 3) else if cGap l j < 0 then (0, 0, 0, 3) else (site, cGap l i, cGap l j, 0)) else (0, 0, 0, 1)
def kShown (l : List PCell) (s a t : Int) : Int × Int × Int := if kMay s a t l.length then ((cSeen l a.toNat : Int), (cSeen l t.toNat : Int), 0) else (0, 0, 1)
def shV (x : Int × Int × Int) : Value := .tuple #[.int .i64 x.1, .int .i64 x.2.1, .int .i64 x.2.2]
theorem gone_seen (l : List PCell) : ∀ p, p ≤ l.length → cntTo (goneB l) p + cSeen l p = p
 | 0, _ => by rw [cSeen_zero]; rfl
 | p + 1, hp => by
  obtain ⟨c, hc⟩ := getC_some (l := l) (k := p) (by omega)
  have ih := gone_seen l p (by omega)
  have e : cntTo (goneB l) (p + 1) = cntTo (goneB l) p + if goneB l p then 1 else 0 := rfl
  rw [e, goneB_at hc]
  cases hg : c.gone with
  | true => rw [cSeen_gone hc hg]; simp; omega
  | false => rw [cSeen_live hc hg]; simp; omega
theorem less_gone {l : List PCell} (hl : l.length ≤ 20000) {p : Nat} (hp : p ≤ l.length) : kLess (cGone l) p = cSeen l p := by
 have h := gone_seen l p hp
 unfold kLess
 rw [gone_mark l hl, Int.toNat_natCast, Nat.min_eq_right (by omega)]
 omega
theorem kept_length (l : List PCell) : ∀ k, k ≤ l.length → (keptC l (goneB l) k).length = cSeen l k
 | 0, _ => by rw [cSeen_zero]; rfl
 | k + 1, hk => by
  obtain ⟨c, hc⟩ := getC_some (l := l) (k := k) (by omega)
  have ih := kept_length l k (by omega)
  cases hg : c.gone with
  | true => rw [keptC_no (by rw [goneB_at hc]; exact hg), ih, cSeen_gone hc hg]
  | false => rw [keptC_yes (by rw [goneB_at hc]; exact hg) hc, List.length_append, ih, cSeen_live hc hg]; rfl
theorem live_seen {l : List PCell} (h : ∀ c ∈ l, c.gone = false) {p : Nat} (hp : p ≤ l.length) : cSeen l p = p := by
 unfold cSeen
 have : (l.take p).countP (fun c => !c.gone) = (l.take p).length := List.countP_eq_length.2 fun c hc => by rw [h c (List.mem_of_mem_take hc)]; rfl
 rw [this, List.length_take]
 omega
theorem drop_shown {l : List PCell} (hl : l.length ≤ 20000) {s : Int} (hs : 1 ≤ s ∧ s ≤ 16) {p q : Nat} (hp : p ≤ l.length) (hq : q ≤ l.length) :
  kDrop s p q (cGone l) = (s, (cSeen l p : Int), (cSeen l q : Int), 0) ∧ kShown (cDrop l (cGone l)).1 s (cSeen l p : Int) (cSeen l q : Int) = ((cSeen l p : Int), (cSeen l q : Int), 0) ∧ (cDrop l (cGone l)).2 = 0 := by
 have h1 : sMay (cGone l) = true := (sMay_good _).2 (sMade_good _ _ (Nat.le_refl _))
 have h2 : kMay s p q 20000 = true := (kMay_iff _ _ _ _).2 (by omega)
 refine ⟨by unfold kDrop; rw [h1, h2, less_gone hl hp, less_gone hl hq]; rfl, ?_, by rw [drop_gone hl]⟩
 rw [drop_gone hl]
 have hk := kept_length l l.length (Nat.le_refl _)
 have hlv := kept_live l l.length (Nat.le_refl _)
 have m1 := cSeen_mono l hp
 have m2 := cSeen_mono l hq
 have m3 := cSeen_le l l.length
 have h3 : kMay s (cSeen l p : Int) (cSeen l q : Int) ((keptC l (goneB l) l.length).length : Nat) = true := (kMay_iff _ _ _ _).2 (by rw [hk]; omega)
 unfold kShown
 rw [h3, if_pos rfl, Int.toNat_natCast, Int.toNat_natCast, live_seen hlv (by rw [hk]; exact m1), live_seen hlv (by rw [hk]; exact m2)]
theorem put_cases (l : List PCell) (site i j : Int) (hs : 1 ≤ site ∧ site ≤ 16) :
  (¬ (0 ≤ i ∧ i ≤ cLive l ∧ 0 ≤ j ∧ j ≤ cLive l) ∧ kPut l site i j = (0, 0, 0, 3)) ∨
   (∃ p q : Nat, (0 ≤ i ∧ i ≤ cLive l ∧ 0 ≤ j ∧ j ≤ cLive l) ∧ p ≤ l.length ∧ q ≤ l.length ∧ (cSeen l p : Int) = i ∧ (cSeen l q : Int) = j ∧ kPut l site i j = (site, (p : Int), (q : Int), 0)) := by
 unfold kPut
 rw [if_pos hs]
 rcases gap_cases l i with ⟨p, h1, h2, h3, h4⟩ | ⟨h1, h2⟩
 ·rcases gap_cases l j with ⟨q, g1, g2, g3, g4⟩ | ⟨g1, g2⟩
  ·refine .inr ⟨p, q, by omega, h2, g2, by omega, by omega, ?_⟩
   rw [h3, g3, if_neg (by omega), if_neg (by omega)]
  ·refine .inl ⟨by omega, ?_⟩
   rw [h3, g2, if_neg (by omega), if_pos (by omega)]
 ·refine .inl ⟨by omega, ?_⟩
  rw [h2, if_pos (by omega)]
theorem put_one (l : List PCell) (site i : Int) (hs : 1 ≤ site ∧ site ≤ 16) :
  (¬ (0 ≤ i ∧ i ≤ cLive l) ∧ kPut l site i i = (0, 0, 0, 3)) ∨ (∃ p : Nat, (0 ≤ i ∧ i ≤ cLive l) ∧ p ≤ l.length ∧ (cSeen l p : Int) = i ∧ kPut l site i i = (site, (p : Int), (p : Int), 0)) := by
 unfold kPut
 rw [if_pos hs]
 rcases gap_cases l i with ⟨p, h1, h2, h3, h4⟩ | ⟨h1, h2⟩
 ·refine .inr ⟨p, h1, h2, by omega, ?_⟩
  rw [h3, if_neg (by omega), if_neg (by omega)]
 ·refine .inl ⟨h1, ?_⟩
  rw [h2, if_pos (by omega)]
theorem run_at {l : List PCell} {o : POp} (h : OMay o l.length) {k : Nat} {c : PCell} (hc : l[k]? = some c) :
  ∃ (k' : Nat) (c' : PCell), kPoint (k + 1) o false = k' + 1 ∧ (runC l o)[k']? = some c' ∧ c'.site = c.site ∧ c'.seq = c.seq ∧ c'.off = c.off := by
 have hk := (List.getElem?_eq_some_iff.1 hc).1
 obtain ⟨_, _, _, ⟨hi, p0, p1, ht, _⟩ | ⟨hd, _⟩⟩ := h
 ·have e1 := oAdds_ins hi ht
  have e2 := newC_length ht
  unfold kPoint runC mvP
  rw [if_pos hi, if_pos hi]
  by_cases hb : o.pl < (k : Int) + 1
  ·refine ⟨k + (newC o).length, c, by rw [if_pos (.inl hb)]; omega, ?_, rfl, rfl, rfl⟩
   rw [insC_at _ _ _ _ (by omega), if_neg (by omega), if_neg (by omega), Nat.add_sub_cancel]
   exact hc
  ·refine ⟨k, c, by rw [if_neg (by rintro (q | ⟨q, q2⟩) <;> first | omega | cases q2)], ?_, rfl, rfl, rfl⟩
   rw [insC_at _ _ _ _ (by omega), if_pos (by omega)]
   exact hc
 ·unfold kPoint runC
  rw [if_neg (by omega), if_neg (by omega)]
  refine ⟨k, { c with gone := c.gone || sMark o.spans k }, rfl, ?_, rfl, rfl, rfl⟩
  rw [goneC_at, hc]
  rfl
theorem point_zero {o : POp} {size : Int} (h : OMay o size) : kPoint 0 o false = 0 := by
 unfold kPoint mvP
 obtain ⟨_, _, _, ⟨hi, p0, p1, ht, _⟩ | ⟨hd, _⟩⟩ := h
 ·rw [if_pos hi, if_neg (by rintro (q | ⟨q, q2⟩) <;> first | omega | cases q2)]
 ·rw [if_neg (by omega)]
def Stands (m : List PCell) (s q off : Int) (P : Nat) : Prop := (off < 0 ∧ P = 0) ∨ (0 ≤ off ∧ ∃ k c, m[k]? = some c ∧ c.site = s ∧ c.seq = q ∧ c.off = off ∧ P = k + 1)
theorem Stands.le {m : List PCell} {s q off : Int} {P : Nat} (h : Stands m s q off P) : P ≤ m.length := by
 rcases h with ⟨_, h⟩ | ⟨_, k, c, hc, _, _, _, h⟩
 ·omega
 ·have := (List.getElem?_eq_some_iff.1 hc).1
  omega
theorem Stands.next {m : List PCell} {s q off : Int} {P : Nat} {o : POp} (h : Stands m s q off P) (ho : OMay o m.length) : ∃ P' : Nat, kPoint P o false = P' ∧ Stands (runC m o) s q off P' := by
 rcases h with ⟨h1, rfl⟩ | ⟨h1, k, c, hc, e1, e2, e3, rfl⟩
 ·exact ⟨0, point_zero ho, .inl ⟨h1, rfl⟩⟩
 ·obtain ⟨k', c', q1, q2, q3, q4, q5⟩ := run_at ho hc
  exact ⟨k' + 1, q1, .inr ⟨h1, k', c', q2, q3.trans e1, q4.trans e2, q5.trans e3, rfl⟩⟩
theorem Stands.find {m : List PCell} {s q off : Int} {P : Nat} (h : Stands m s q off P) (hm : cMay m = 0) (ho : 0 ≤ off) : cFind m s q off = ((P : Int) - 1, true) := by
 rcases h with ⟨h1, _⟩ | ⟨_, k, c, hc, rfl, rfl, rfl, rfl⟩
 ·omega
 ·rw [find_at hm hc]
  congr 1
  omega
theorem Stands.put {m : List PCell} (hm : cMay m = 0) {P : Nat} (hP : P ≠ 0) (hle : P ≤ m.length) : ∃ c, m[P - 1]? = some c ∧ Stands m c.site c.seq c.off P := by
 obtain ⟨c, hc⟩ := getC_some (l := m) (k := P - 1) (by omega)
 have := (List.all_eq_true.1 (cMay_ok hm).1) c (List.mem_of_getElem? hc)
 unfold cellOk at this
 simp only [Bool.and_eq_true, decide_eq_true_eq] at this
 exact ⟨c, hc, .inr ⟨by omega, P - 1, c, hc, rfl, rfl, rfl, by omega⟩⟩
theorem do_ok {l : List PCell} {o : POp} (h : (cDo l o).2 = 0) : OMay o l.length ∧ (cDo l o).1 = runC l o := by
 unfold cDo at *
 by_cases h1 : oMay o l.length = true
 ·rw [if_pos h1] at h ⊢
  by_cases h2 : o.kind = 1 ∧ hasN l o.site o.seq = true
  ·rw [if_pos h2] at h; cases h
  ·rw [if_neg h2] at h ⊢
   exact ⟨(oMay_iff _ _).1 h1, rfl⟩
 ·rw [if_neg h1] at h; cases h
theorem do_no {l : List PCell} {o : POp} (h : (cDo l o).2 ≠ 0) : (cDo l o).1 = l := by
 unfold cDo at *
 repeat' split at h
 all_goals first | rfl | (exfalso; exact h rfl) | skip
 all_goals simp_all
theorem typed {l : List PCell} {p : Nat} (hp : p ≤ l.length) {s q : Int} {t : List UInt8} {rs : List Int} (hr : runesL t = some rs) :
  textR (runC l ⟨s, q, 0, 1, p, t, []⟩) = (textR l).take (cSeen l p) ++ (rs ++ (textR l).drop (cSeen l p)) ∧ cSeen (runC l ⟨s, q, 0, 1, p, t, []⟩) (p + rs.length) = cSeen l p + rs.length := by
 have e : runC l ⟨s, q, 0, 1, p, t, []⟩ = l.take p ++ newC ⟨s, q, 0, 1, p, t, []⟩ ++ l.drop p := by unfold runC; rw [if_pos rfl]; simp
 have en : newC ⟨s, q, 0, 1, p, t, []⟩ = rs.mapIdx fun i r => (⟨s, q, i, r, false⟩ : PCell) := by unfold newC; rw [hr]; rfl
 have e3 : textR (rs.mapIdx fun i r => (⟨s, q, i, r, false⟩ : PCell)) = rs := by
  unfold textR
  rw [List.filter_eq_self.2 (by intro c hc; obtain ⟨i, hi, rfl⟩ := List.mem_mapIdx.1 hc; rfl)]
  refine List.ext_getElem? fun i => ?_
  rw [List.getElem?_map, List.getElem?_mapIdx]
  cases rs[i]? <;> rfl
 have htl : (l.take p).length = p := by rw [List.length_take]; omega
 constructor
 ·rw [e, en, textR_append, textR_append, e3, (textR_parts l p).1, (textR_parts l p).2, List.append_assoc]
 ·rw [← textR_length, e, en]
  rw [show (l.take p ++ (rs.mapIdx fun i r => (⟨s, q, i, r, false⟩ : PCell)) ++ l.drop p).take (p + rs.length) = l.take p ++ rs.mapIdx fun i r => (⟨s, q, i, r, false⟩ : PCell) from List.take_left' (by rw [List.length_append, htl, List.length_mapIdx])]
  rw [textR_append, e3, List.length_append, textR_length]
def Typed (l m : List PCell) (i P : Nat) (rs : List Int) : Prop := P ≤ m.length ∧ cSeen m P = i + rs.length ∧ textR m = (textR l).take i ++ (rs ++ (textR l).drop i) ∧ (∀ r ∈ rs, Lib.validRune r = true)
theorem Typed.nil {l : List PCell} {i P : Nat} (hP : P ≤ l.length) (hs : cSeen l P = i) : Typed l l i P [] := ⟨hP, hs, by simp, fun _ h => by cases h⟩
theorem Typed.next {l m : List PCell} {i P : Nat} {rs : List Int} {s q : Int} {t : List UInt8} (h : Typed l m i P rs) (hi : i ≤ (textR l).length) (ho : OMay ⟨s, q, 0, 1, P, t, []⟩ m.length) :
  ∃ rs' : List Int, t = joinL rs' ∧ Typed l (runC m ⟨s, q, 0, 1, P, t, []⟩) i (P + rs'.length) (rs ++ rs') ∧ kPoint P ⟨s, q, 0, 1, P, t, []⟩ true = ((P + rs'.length : Nat) : Int) ∧ kEnd ⟨s, q, 0, 1, P, t, []⟩ = ((P + rs'.length : Nat) : Int) ∧ rs'.length ≤ 200 := by
 obtain ⟨h1, h2, h3, h4⟩ := h
 have hlen := runC_length ho
 obtain ⟨_, _, _, ⟨_, _, _, hm, _, _⟩ | ⟨hk, _⟩⟩ := ho
 ·have e1 := oAdds_ins (o := ⟨s, q, 0, 1, P, t, []⟩) rfl hm
  dsimp only at hm e1
  obtain ⟨rs', hr⟩ : ∃ rs', runesL t = some rs' := by
   cases hr : runesL t with
   | none => unfold lenT at e1; rw [hr] at e1; dsimp only at e1; omega
   | some r => exact ⟨r, rfl⟩
  have hl : lenT t = rs'.length := by unfold lenT; rw [hr]
  obtain ⟨e2, e3⟩ := runesL_join hr
  obtain ⟨y1, y2⟩ := typed (l := m) (p := P) h1 (s := s) (q := q) hr
  refine ⟨rs', e2, ⟨by omega, by rw [y2, h2, List.length_append]; omega, ?_, ?_⟩, ?_, ?_, by omega⟩
  ·rw [y1, h2, h3]
   have e4 : ((textR l).take i ++ (rs ++ (textR l).drop i)).take (i + rs.length) = (textR l).take i ++ rs := by
    rw [← List.append_assoc]
    exact List.take_left' (by rw [List.length_append, List.length_take]; omega)
   have e5 : ((textR l).take i ++ (rs ++ (textR l).drop i)).drop (i + rs.length) = (textR l).drop i := by
    rw [← List.append_assoc]
    exact List.drop_left' (by rw [List.length_append, List.length_take]; omega)
   rw [e4, e5]
   simp
  ·intro r hr'
   rcases List.mem_append.1 hr' with h | h
   ·exact h4 r h
   ·exact e3 r h
  ·unfold kPoint mvP
   rw [if_pos rfl, if_pos (.inr ⟨rfl, rfl⟩)]
   omega
  ·unfold kEnd
   rw [if_pos rfl]
   dsimp only
   omega
 ·exact absurd hk (show ¬ (1 : Int) = 2 by decide)
end Go.Proofs.YtmedickofiielaaGreatDoor

namespace Go.Proofs.YtmedickofiielaaGreatDoor
open Go.RowKit

theorem cMay_le {l : List PCell} (h : cMay l = 0) : l.length ≤ 20000 := by
 unfold cMay at h
 repeat' split at h
 all_goals omega
structure Pair (C : CC) (N : Nat) (w : World) (p : Value) (l : List PCell) (v : Value) (m : List PCell) (S : Nat → Prop) (W : World) : Prop where
 doc : C.D W p l S
 own : ∀ b, S b → N ≤ b
 up : Below N w W
 size : N ≤ W.heap.size
 list : CAt W v m
 apart : ∀ g, v.ownBlock = some g → ¬ S g
theorem Pair.le {C : CC} {N : Nat} {w : World} {p : Value} {l : List PCell} {v : Value} {m : List PCell} {S : Nat → Prop} {W : World} (h : Pair C N w p l v m S W) : l.length ≤ 20000 := cMay_le (C.may h.doc)
theorem Pair.below {C : CC} {N : Nat} {w : World} {p : Value} {l : List PCell} {v : Value} {m : List PCell} {S : Nat → Prop} {W W' : World} (h : Pair C N w p l v m S W) (hb : Below W.heap.size W W') : Pair C N w p l v m S W' :=
 ⟨C.below h.doc hb, h.own, h.up.trans (hb.mono h.size), Nat.le_trans h.size hb.size, h.list.below hb, h.apart⟩
theorem Pair.next {C : CC} {N : Nat} {w : World} {p : Value} {l l' : List PCell} {v : Value} {m : List PCell} {S S' : Nat → Prop} {W W' : World} (h : Pair C N w p l v m S W) (hk : DKept C.D p l' S W W' S') : Pair C N w p l' v m S' W' := by
 obtain ⟨q1, q2⟩ := hk.up h.own h.size
 exact ⟨hk.1, q1, h.up.trans q2, Nat.le_trans h.size q2.size, h.list.keep hk.2.2 h.apart, fun g hg hS => (hk.2.1 g hS).elim (h.apart g hg) fun q => Nat.lt_irrefl _ (Nat.lt_of_lt_of_le (h.list.lt g hg) q)⟩
theorem Pair.turn {C : CC} {N : Nat} {w : World} {p : Value} {l : List PCell} {v v' : Value} {m m' : List PCell} {S : Nat → Prop} {W W' : World} (h : Pair C N w p l v m S W) (hc : CAt W' v' m') (hf : v' = v ∨ ∀ g, v'.ownBlock = some g → W.heap.size ≤ g) (hb : Below W.heap.size W W') : Pair C N w p l v' m' S W' :=
 ⟨C.below h.doc hb, h.own, h.up.trans (hb.mono h.size), Nat.le_trans h.size hb.size, hc, fun g hg hS => hf.elim (fun e => h.apart g (by rw [← e]; exact hg) hS) fun q => Nat.lt_irrefl _ (Nat.lt_of_lt_of_le (C.low h.doc g hS) (q g hg))⟩
theorem Pair.call {C : CC} {N f : Nat} {args : Array Value} {w : World} {p x : Value} {l l' : List PCell} {v : Value} {m : List PCell} {S : Nat → Prop} {W : World} (h : Pair C N w p l v m S W) (hc : Calls Tryz.prog f args W (DVal C.D p l' S x W)) :
  Calls Tryz.prog f args W fun e W' => e = .returned x ∧ ∃ S', Pair C N w p l' v m S' W' := by
 refine hc.mono ?_
 rintro e W' ⟨S', hk, he⟩
 exact ⟨he, S', h.next hk⟩
end Go.Proofs.YtmedickofiielaaGreatDoor

namespace Go.Proofs.YtmedickofiielaaGreatDoor
open Go.RowKit

structure Trio (C : CC) (N : Nat) (w : World) (p : Value) (l : List PCell) (S : Nat → Prop) (p' : Value) (l' : List PCell) (S' : Nat → Prop) (v : Value) (m : List PCell) (W : World) : Prop where
 doc : C.D W p l S
 cop : C.D W p' l' S'
 two : ∀ b, S b → ¬ S' b
 own : ∀ b, S b → N ≤ b
 own' : ∀ b, S' b → N ≤ b
 up : Below N w W
 size : N ≤ W.heap.size
 list : CAt W v m
 apart : ∀ g, v.ownBlock = some g → ¬ S g ∧ ¬ S' g
theorem Trio.below {C : CC} {N : Nat} {w : World} {p p' v : Value} {l l' m : List PCell} {S S' : Nat → Prop} {W W' : World} (h : Trio C N w p l S p' l' S' v m W) (hb : Below W.heap.size W W') : Trio C N w p l S p' l' S' v m W' :=
 ⟨C.below h.doc hb, C.below h.cop hb, h.two, h.own, h.own', h.up.trans (hb.mono h.size), Nat.le_trans h.size hb.size, h.list.below hb, h.apart⟩
theorem Trio.fst {C : CC} {N : Nat} {w : World} {p p' v : Value} {l l2 l' m : List PCell} {S S2 S' : Nat → Prop} {W W' : World} (h : Trio C N w p l S p' l' S' v m W) (hk : DKept C.D p l2 S W W' S2) : Trio C N w p l2 S2 p' l' S' v m W' := by
 obtain ⟨q1, q2⟩ := hk.up h.own h.size
 refine ⟨hk.1, C.keep h.cop (fun b hb => hk.2.2.block b (C.low h.cop b hb) (fun hS => h.two b hS hb)) hk.2.2.size, fun b hb hb' => ?_, q1, h.own', h.up.trans q2, Nat.le_trans h.size q2.size, h.list.keep hk.2.2 fun g hg => (h.apart g hg).1, fun g hg => ⟨fun hS => ?_, (h.apart g hg).2⟩⟩
 ·rcases hk.2.1 b hb with q | q
  ·exact h.two b q hb'
  ·exact Nat.lt_irrefl _ (Nat.lt_of_lt_of_le (C.low h.cop b hb') q)
 ·rcases hk.2.1 g hS with q | q
  ·exact (h.apart g hg).1 q
  ·exact Nat.lt_irrefl _ (Nat.lt_of_lt_of_le (h.list.lt g hg) q)
theorem Trio.call {C : CC} {N f : Nat} {args : Array Value} {w : World} {p p' v x : Value} {l l2 l' m : List PCell} {S S' : Nat → Prop} {W : World} (h : Trio C N w p l S p' l' S' v m W) (hc : Calls Tryz.prog f args W (DVal C.D p l2 S x W)) :
  Calls Tryz.prog f args W fun e W' => e = .returned x ∧ ∃ S2, Trio C N w p l2 S2 p' l' S' v m W' := by
 refine hc.mono ?_
 rintro e W' ⟨S2, hk, he⟩
 exact ⟨he, S2, h.fst hk⟩
end Go.Proofs.YtmedickofiielaaGreatDoor

namespace Go.Proofs.YtmedickofiielaaGreatDoor
open Go.RowKit

theorem RowC.keep {sz : Nat} {S : Nat → Prop} {W W' : World} {v : Value} {n : Nat} {cs : List Value} (h : RowC sz W v n cs) (hk : Keep S W.heap.size W W') (hg : ∀ g, v.ownBlock = some g → ¬ S g) : RowC sz W' v n cs := by
 obtain ⟨hl, ao, cap, rfl, h1, h2, h3, h4⟩ := h
 refine ⟨hl, ao, cap, rfl, h1, h2, h3, fun ad ha => ?_⟩
 subst ha
 obtain ⟨b, off, rfl, hlt, hc⟩ := h4 _ rfl
 refine ⟨b, off, rfl, Nat.lt_of_lt_of_le hlt hk.size, fun j u hj => ?_⟩
 rw [hk.cell (p := ⟨b, off + j, none⟩) hlt (hg b rfl)]
 exact hc j u hj
theorem RowC.lt {sz : Nat} {W : World} {v : Value} {n : Nat} {cs : List Value} (h : RowC sz W v n cs) : ∀ g, v.ownBlock = some g → g < W.heap.size := by
 obtain ⟨_, ao, cap, rfl, _, _, _, h4⟩ := h
 intro g hg
 cases ao with
 | none => cases hg
 | some ad =>
  obtain ⟨b, off, rfl, hlt, _⟩ := h4 _ rfl
  cases hg
  exact hlt
structure Duo (C : CC) (N : Nat) (w : World) (p : Value) (l : List PCell) (S : Nat → Prop) (v : Value) (R : List Int) (W : World) : Prop where
 doc : C.D W p l S
 own : ∀ b, S b → N ≤ b
 up : Below N w W
 size : N ≤ W.heap.size
 row : RowC 1 W v R.length (R.map (Value.int .i32))
 apart : ∀ g, v.ownBlock = some g → ¬ S g
theorem Duo.below {C : CC} {N : Nat} {w : World} {p v : Value} {l : List PCell} {R : List Int} {S : Nat → Prop} {W W' : World} (h : Duo C N w p l S v R W) (hb : Below W.heap.size W W') : Duo C N w p l S v R W' :=
 ⟨C.below h.doc hb, h.own, h.up.trans (hb.mono h.size), Nat.le_trans h.size hb.size, h.row.below hb, h.apart⟩
theorem Duo.next {C : CC} {N : Nat} {w : World} {p v : Value} {l l2 : List PCell} {R : List Int} {S S2 : Nat → Prop} {W W' : World} (h : Duo C N w p l S v R W) (hk : DKept C.D p l2 S W W' S2) : Duo C N w p l2 S2 v R W' := by
 obtain ⟨q1, q2⟩ := hk.up h.own h.size
 exact ⟨hk.1, q1, h.up.trans q2, Nat.le_trans h.size q2.size, h.row.keep hk.2.2 h.apart, fun g hg hS => (hk.2.1 g hS).elim (h.apart g hg) fun q => Nat.lt_irrefl _ (Nat.lt_of_lt_of_le (h.row.lt g hg) q)⟩
theorem Duo.call {C : CC} {N f : Nat} {args : Array Value} {w : World} {p v x : Value} {l l2 : List PCell} {R : List Int} {S : Nat → Prop} {W : World} (h : Duo C N w p l S v R W) (hc : Calls Tryz.prog f args W (DVal C.D p l2 S x W)) :
  Calls Tryz.prog f args W fun e W' => e = .returned x ∧ ∃ S2, Duo C N w p l2 S2 v R W' := by
 refine hc.mono ?_
 rintro e W' ⟨S2, hk, he⟩
 exact ⟨he, S2, h.next hk⟩
structure Quad (C : CC) (N : Nat) (w : World) (p : Value) (l : List PCell) (S : Nat → Prop) (p' : Value) (l' : List PCell) (S' : Nat → Prop) (v : Value) (R : List Int) (W : World) : Prop where
 fst : Duo C N w p l S v R W
 snd : Duo C N w p' l' S' v R W
 two : ∀ b, S b → ¬ S' b
theorem Quad.below {C : CC} {N : Nat} {w : World} {p p' v : Value} {l l' : List PCell} {R : List Int} {S S' : Nat → Prop} {W W' : World} (h : Quad C N w p l S p' l' S' v R W) (hb : Below W.heap.size W W') : Quad C N w p l S p' l' S' v R W' := ⟨h.fst.below hb, h.snd.below hb, h.two⟩
theorem Quad.next {C : CC} {N : Nat} {w : World} {p p' v : Value} {l l2 l' : List PCell} {R : List Int} {S S2 S' : Nat → Prop} {W W' : World} (h : Quad C N w p l S p' l' S' v R W) (hk : DKept C.D p l2 S W W' S2) : Quad C N w p l2 S2 p' l' S' v R W' := by
 have h1 := h.fst.next hk
 refine ⟨h1, ⟨C.keep h.snd.doc (fun b hb => hk.2.2.block b (C.low h.snd.doc b hb) (fun hS => h.two b hS hb)) hk.2.2.size, h.snd.own, h1.up, h1.size, h1.row, h.snd.apart⟩, fun b hb hb' => ?_⟩
 rcases hk.2.1 b hb with q | q
 ·exact h.two b q hb'
 ·exact Nat.lt_irrefl _ (Nat.lt_of_lt_of_le (C.low h.snd.doc b hb') q)
theorem Quad.call {C : CC} {N f : Nat} {args : Array Value} {w : World} {p p' v x : Value} {l l2 l' : List PCell} {R : List Int} {S S' : Nat → Prop} {W : World} (h : Quad C N w p l S p' l' S' v R W) (hc : Calls Tryz.prog f args W (DVal C.D p l2 S x W)) :
  Calls Tryz.prog f args W fun e W' => e = .returned x ∧ ∃ S2, Quad C N w p l2 S2 p' l' S' v R W' := by
 refine hc.mono ?_
 rintro e W' ⟨S2, hk, he⟩
 exact ⟨he, S2, h.next hk⟩
def SpK (S : Nat → Prop) (W : World) (v : Value) (xs : List Sp) : Prop := SpAt W v xs ∧ (xs ≠ [] → ∀ g, v.ownBlock = some g → g < W.heap.size ∧ ¬ S g)
theorem SpK.of {S : Nat → Prop} {W : World} {v : Value} {xs : List Sp} (h : SpAt W v xs) (hg : ∀ g, v.ownBlock = some g → ¬ S g) : SpK S W v xs := by
 refine ⟨h, fun hx g e => ⟨?_, hg g e⟩⟩
 obtain ⟨ao, cap, rfl, h2⟩ := h
 obtain ⟨b, off, rfl, hc⟩ := h2 hx
 have hb : b = g := by simpa [Value.ownBlock] using e
 subst hb
 exact World.block_lt_of_cell? _ _ (hc 0 (List.length_pos_iff.2 hx)).1
theorem SpK.keep {S S' : Nat → Prop} {W W' : World} {v : Value} {xs : List Sp} (h : SpK S W v xs) (hk : Keep S W.heap.size W W') (hS : ∀ b, S' b → S b ∨ W.heap.size ≤ b) : SpK S' W' v xs := by
 obtain ⟨⟨ao, cap, rfl, h2⟩, hg⟩ := h
 refine ⟨⟨ao, cap, rfl, fun hx => ?_⟩, fun hx g e => ⟨Nat.lt_of_lt_of_le (hg hx g e).1 hk.size, fun q => (hS g q).elim (hg hx g e).2 fun z => Nat.lt_irrefl _ (Nat.lt_of_lt_of_le (hg hx g e).1 z)⟩⟩
 obtain ⟨b, off, rfl, hc⟩ := h2 hx
 obtain ⟨g1, g2⟩ := hg hx b rfl
 exact ⟨b, off, rfl, fun i hi => ⟨by rw [hk.cell (p := ⟨b, off + i * 2, none⟩) g1 g2]; exact (hc i hi).1, by rw [hk.cell (p := ⟨b, off + i * 2 + 1, none⟩) g1 g2]; exact (hc i hi).2⟩⟩
theorem text_valid {l : List PCell} (h : cMay l = 0) : allValid (textR l) = true := by
 rw [allValid_iff]
 intro r hr
 unfold textR at hr
 obtain ⟨c, hc, rfl⟩ := List.mem_map.1 hr
 have := (List.all_eq_true.1 (cMay_ok h).1) c (List.mem_filter.1 hc).1
 unfold cellOk at this
 simp only [Bool.and_eq_true] at this
 exact this.2
theorem text_join {l : List PCell} (h : cMay l = 0) : cText l = ⟨(joinL (textR l)).toArray⟩ := by
 unfold cText
 rw [text_valid h]
 rfl
theorem conv_runes {R : List Int} (hv : allValid R = true) (hl : R.length ≤ 1000000) (w : World) : ∃ g cap W, (convert 9 59 (.string ⟨(joinL R).toArray⟩)).run Tryz.prog w = .ok (.slice (some ⟨g, 0, none⟩) R.length cap) W ∧
  RowC 1 W (.slice (some ⟨g, 0, none⟩) R.length cap) R.length (R.map (Value.int .i32)) ∧ g = w.heap.size ∧ Below w.heap.size w W := by
 have e := runesFrom_join hv
 have h := run_runes_of_string (P := Tryz.prog) w 9 59 21 ⟨(joinL R).toArray⟩ Tryz.underlying9 Tryz.underlying59 Tryz.underlying21 (by rw [e]; simp; omega)
 rw [e] at h
 rw [show (R.map (Value.int .i32)).toArray.size = R.length by simp] at h
 refine ⟨w.heap.size, _, _, h, ?_, rfl, (Below.refl _ w).drew.alloc (Nat.le_refl _) _⟩
 have hg := grownCap_ge w R.length 0 21
 refine ⟨by simp, _, _, rfl, ?_, ?_, (fun q => by cases q), fun ad had => ?_⟩
 ·exact hg
 ·exact grownCap_le_maxLen w R.length 0 21 (by unfold maxLen; omega)
 ·cases had
  refine ⟨w.heap.size, 0, rfl, by simp, fun j u hj => ?_⟩
  have hb := heap_alloc_new w.drew (.cells ((R.map (Value.int .i32)).toArray ++ Array.replicate (grownCap w R.length 0 21 - R.length) (.int .i32 0)) 21)
  rw [Nat.zero_add]
  refine (cell_of_row _ _ j _ _ _ hb).trans ?_
  have hjl := (List.getElem?_eq_some_iff.1 hj).1
  rw [Array.getElem?_append_left (by simpa using hjl)]
  simpa using hj
theorem addr_add (b o j : Nat) : (⟨b, o, none⟩ : Addr).add j = ⟨b, o + j, none⟩ := by simp [Addr.add]
theorem size_joinR (xs : List Int) (h : xs.length ≤ 20000) : (⟨(joinL xs).toArray⟩ : ByteArray).size ≤ 1000000 := by
 have := joinL_length_le xs
 show (joinL xs).toArray.size ≤ 1000000
 rw [List.size_toArray]
 omega
theorem conv_cells {R : List Int} {W : World} {ad : Addr} {m c : Nat} (hm : R.length = m) (hc : ∀ j, j < R.length → W.cell? (ad.add j) = some (.int .i32 (R.getD j 0))) (hv : allValid R = true) :
  (convert 59 9 (.slice (some ad) m c)).run Tryz.prog W = .ok (.string ⟨(joinL R).toArray⟩) W := by
 rw [run_convert_runes (P := Tryz.prog) W 59 9 21 ad m c R (by omega) Tryz.underlying59 Tryz.underlying21 Tryz.underlying9 hc, List.take_of_length_le (by omega), runesBytes_join hv]
theorem valid_take {R : List Int} (h : allValid R = true) (k : Nat) : allValid (R.take k) = true := allValid_iff.2 fun r hr => allValid_iff.1 h r (List.mem_of_mem_take hr)
theorem valid_drop {R : List Int} (h : allValid R = true) (k : Nat) : allValid (R.drop k) = true := allValid_iff.2 fun r hr => allValid_iff.1 h r (List.mem_of_mem_drop hr)
theorem conv_pre {R : List Int} {W : World} {g ml gc k : Nat} (h : RowC 1 W (.slice (some ⟨g, 0, none⟩) ml gc) R.length (R.map (Value.int .i32))) (hm : R.length = ml) (hk : k ≤ ml) (hv : allValid R = true) :
  (convert 59 9 (.slice (some ⟨g, 0, none⟩) k gc)).run Tryz.prog W = .ok (.string ⟨(joinL (R.take k)).toArray⟩) W := by
 obtain ⟨_, ao, cap, e, h1, h2, h3, h4⟩ := h
 cases e
 obtain ⟨b, off, e, hlt, hc⟩ := h4 _ rfl
 cases e
 refine conv_cells (by rw [List.length_take]; omega) (fun j hj => ?_) (valid_take hv k)
 rw [List.length_take] at hj
 have q := hc j (.int .i32 (R.getD j 0)) (by rw [List.getElem?_map, List.getElem?_eq_getElem (by omega)]; simp [List.getD, show j < R.length by omega])
 rw [addr_add, q]
 simp [List.getD, show j < k by omega]
theorem conv_suf {R : List Int} {W : World} {g ml gc k c' : Nat} (h : RowC 1 W (.slice (some ⟨g, 0, none⟩) ml gc) R.length (R.map (Value.int .i32))) (hm : R.length = ml) (hk : k ≤ ml) (hv : allValid R = true) :
  (convert 59 9 (.slice (if gc = k then some ⟨g, 0, none⟩ else some ⟨g, k, none⟩) (ml - k) c')).run Tryz.prog W = .ok (.string ⟨(joinL (R.drop k)).toArray⟩) W := by
 obtain ⟨_, ao, cap, e, h1, h2, h3, h4⟩ := h
 cases e
 obtain ⟨b, off, e, hlt, hc⟩ := h4 _ rfl
 cases e
 by_cases hg : gc = k
 ·rw [if_pos hg]
  refine conv_cells (by rw [List.length_drop, hm]) (fun j hj => ?_) (valid_drop hv k)
  rw [List.length_drop] at hj
  omega
 ·rw [if_neg hg]
  refine conv_cells (by rw [List.length_drop, hm]) (fun j hj => ?_) (valid_drop hv k)
  rw [List.length_drop] at hj
  have q := hc (k + j) (.int .i32 (R.getD (k + j) 0)) (by rw [List.getElem?_map, List.getElem?_eq_getElem (by omega)]; simp [List.getD, show k + j < R.length by omega])
  rw [addr_add, show k + j = 0 + (k + j) by omega, q]
  simp [List.getD, List.getElem?_drop]
end Go.Proofs.YtmedickofiielaaGreatDoor
