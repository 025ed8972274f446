/- Texts of this proof, joined. -/
import Derived.Test.YtfoglciiefoodaaGreatDoorFirst
import Derived.Maps.AppendAt
import Derived.RangeFuncBox
import Derived.Test.YtfoglciiefoodaaGreatDoorRefBytes
import Derived.Test.YtfoglciiefoodaaGreatDoorGReads64
import Derived.Test.YtfoglciiefoodaaGreatDoorConvOwn
import Derived.Laws.BytesArg
import Derived.Laws.IdiomStrings
import Derived.Laws.Cover4
import Derived.Lib.RuneBytes
import Derived.Test.YtfoglciiefoodaaGreatDoorGRefOps
import Derived.Deep.RegionHeldLaw
import Derived.Deep.AppendLies
import Derived.Test.YtfoglciiefoodaaGreatDoorGPlain
import Derived.Test.YtfoglciiefoodaaGreatDoorGNameEq
import Derived.Deep.QuietTactic
namespace Go.Proofs.YtfoglciiefoodaaGreatDoor
open Go.RowKit

theorem infoI32' : (Tryz.prog.info? 21).map (fun i => (i.zero, i.size, i.bytes)) = some (some (.int .i32 0), 1, 4) := by kernel_rfl
end Go.Proofs.YtfoglciiefoodaaGreatDoor

namespace Go.Proofs.YtfoglciiefoodaaGreatDoor
open Go.RowKit

def allValid (l : List Int) : Bool := l.all Lib.validRune
theorem allValid_iff {l : List Int} : allValid l = true ↔ ∀ r ∈ l, Lib.validRune r = true := by simp [allValid]

theorem joinL_length_le (l : List Int) : (joinL l).length ≤ 4 * l.length := by
  induction l with
  | nil => simp [joinL_nil]
  | cons r l ih =>
    rw [joinL_cons, List.length_append, List.length_cons]
    have := encode_le r
    omega
theorem joinL_take (l : List Int) (k : Nat) (h : k < l.length) : joinL (l.take (k + 1)) = joinL (l.take k) ++ Lib.encodeRune (l.getD k 0) := by
  rw [List.take_succ_eq_append_getElem h, joinL_append]
  simp [joinL, h]

def RJoinPost (w : World) (xs : List Int) (e : Ending) (w' : World) : Prop :=
  e = .returned (if allValid xs then .tuple #[.string ⟨(joinL xs).toArray⟩, .bool true] else .tuple #[.string ⟨#[]⟩, .bool false]) ∧ Below w.heap.size w w'
theorem RJoinPost.yes {w w' : World} {xs : List Int} (h : allValid xs = true) (hb : Below w.heap.size w w') : RJoinPost w xs (.returned (.tuple #[.string ⟨(joinL xs).toArray⟩, .bool true])) w' := ⟨by rw [if_pos h], hb⟩
theorem RJoinPost.no {w w' : World} {xs : List Int} (h : ¬ allValid xs = true) (hb : Below w.heap.size w w') : RJoinPost w xs (.returned (.tuple #[.string ⟨#[]⟩, .bool false])) w' := ⟨by rw [if_neg h], hb⟩

end Go.Proofs.YtfoglciiefoodaaGreatDoor

namespace Go.Proofs.YtfoglciiefoodaaGreatDoor
open Go.RowKit

theorem decode_place (s : ByteArray) (pos : Nat) : Utf8.decode s pos = Lib.decodeL (s.data.toList.drop pos) := by
  have g : ∀ i, s.get! i = s.data.toList.getD i 0 := fun i => get!_list s.data.toList i
  rw [Lib.decode_at, decodeL_eq, g, g, g, g, List.length_drop, ← Lib.size_eq]
  simp
theorem runesFrom_list (s : ByteArray) : ∀ (bound pos : Nat) (acc : Array Value) (rest : List Int), runesL (s.data.toList.drop pos) = some rest → s.size - pos ≤ bound → Conv.runesFrom s bound pos acc = acc ++ (rest.map (Value.int .i32)).toArray
  | 0, pos, acc, rest, h, hb => by
    have hd : s.data.toList.drop pos = [] := by
      rw [List.drop_eq_nil_iff, ← Lib.size_eq]
      omega
    rw [hd, runesL_nil] at h
    obtain rfl : [] = rest := by simpa using h
    simp [Conv.runesFrom]
  | bound + 1, pos, acc, rest, h, hb => by
    unfold Conv.runesFrom
    by_cases hp : pos < s.size
    · rw [if_pos hp]
      have hne : s.data.toList.drop pos ≠ [] := by
        intro e
        have h1 := congrArg List.length e
        have h2 := Lib.size_eq s
        rw [List.length_drop, List.length_nil] at h1
        omega
      have hbad : badL (s.data.toList.drop pos) = false := by
        cases hb' : badL (s.data.toList.drop pos) with
        | false => rfl
        | true => rw [runesL_bad _ hne hb'] at h; cases h
      obtain ⟨_, hK1, _, _⟩ := decodeL_bound _ hne hbad
      rw [runesL_step _ hne hbad, List.drop_drop] at h
      rw [decode_place]
      generalize (Lib.decodeL (s.data.toList.drop pos)) = RK at *
      obtain ⟨R, K⟩ := RK
      dsimp only at h hK1 ⊢
      cases hr2 : runesL (s.data.toList.drop (pos + K)) with
      | none => rw [hr2] at h; cases h
      | some r2 =>
        rw [hr2] at h
        obtain rfl : (R : Int) :: r2 = rest := by simpa using h
        rw [runesFrom_list s bound (pos + K) _ r2 hr2 (by omega)]
        apply Array.ext'
        simp
    · rw [if_neg hp]
      have hd : s.data.toList.drop pos = [] := by
        rw [List.drop_eq_nil_iff, ← Lib.size_eq]
        omega
      rw [hd, runesL_nil] at h
      obtain rfl : [] = rest := by simpa using h
      simp
theorem runesFrom_join {xs : List Int} (h : allValid xs = true) : Conv.runesFrom ⟨(joinL xs).toArray⟩ (⟨(joinL xs).toArray⟩ : ByteArray).size 0 #[] = (xs.map (Value.int .i32)).toArray := by
  rw [runesFrom_list _ _ 0 #[] xs (by rw [List.drop_zero]; exact runesL_split (allValid_iff.1 h)) (Nat.sub_le _ _)]
  simp
theorem encode_bytes {r : Int} (h : Lib.validRune r = true) : (Utf8.encode r).data.toList = Lib.encodeRune r := by
  unfold Lib.validRune at h
  have h := of_decide_eq_true h
  obtain ⟨c, rfl⟩ : ∃ c : Nat, r = c := ⟨r.toNat, by omega⟩
  have hv : Utf8.valid (c : Int) = true := by
    unfold Utf8.valid
    simp only [Bool.or_eq_true, Bool.and_eq_true, decide_eq_true_eq]
    omega
  unfold Utf8.encode
  simp only [hv, if_true, Int.toNat_natCast]
  unfold Lib.encodeRune
  by_cases c1 : c < 128
  · rw [if_pos c1, Lib.encodeRuneZ_one (by omega) (by omega)]
    rfl
  · rw [if_neg c1]
    by_cases c2 : c < 2048
    · rw [if_pos c2, Lib.encodeRuneZ_two (by omega) (by omega)]
      show [UInt8.ofNat (192 + c / 64), UInt8.ofNat (128 + c % 64)] = [UInt8.ofNat (192 + (c : Int) / 64).toNat, UInt8.ofNat (128 + (c : Int) % 64).toNat]
      rw [show (192 + (c : Int) / 64).toNat = 192 + c / 64 by omega, show (128 + (c : Int) % 64).toNat = 128 + c % 64 by omega]
    · rw [if_neg c2]
      by_cases c3 : c < 65536
      · rw [if_pos c3, Lib.encodeRuneZ_three (by omega)]
        show [UInt8.ofNat (224 + c / 4096), UInt8.ofNat (128 + c / 64 % 64), UInt8.ofNat (128 + c % 64)] = [UInt8.ofNat (224 + (c : Int) / 4096).toNat, UInt8.ofNat (128 + (c : Int) / 64 % 64).toNat, UInt8.ofNat (128 + (c : Int) % 64).toNat]
        rw [show (224 + (c : Int) / 4096).toNat = 224 + c / 4096 by omega, show (128 + (c : Int) / 64 % 64).toNat = 128 + c / 64 % 64 by omega, show (128 + (c : Int) % 64).toNat = 128 + c % 64 by omega]
      · rw [if_neg c3, Lib.encodeRuneZ_four (by omega) (by omega)]
        show [UInt8.ofNat (240 + c / 262144), UInt8.ofNat (128 + c / 4096 % 64), UInt8.ofNat (128 + c / 64 % 64), UInt8.ofNat (128 + c % 64)] = [UInt8.ofNat (240 + (c : Int) / 262144).toNat, UInt8.ofNat (128 + (c : Int) / 4096 % 64).toNat, UInt8.ofNat (128 + (c : Int) / 64 % 64).toNat, UInt8.ofNat (128 + (c : Int) % 64).toNat]
        rw [show (240 + (c : Int) / 262144).toNat = 240 + c / 262144 by omega, show (128 + (c : Int) / 4096 % 64).toNat = 128 + c / 4096 % 64 by omega, show (128 + (c : Int) / 64 % 64).toNat = 128 + c / 64 % 64 by omega, show (128 + (c : Int) % 64).toNat = 128 + c % 64 by omega]
theorem runesBytes_list : ∀ (xs : List Int) (a : ByteArray), (∀ r ∈ xs, Lib.validRune r = true) → (xs.foldl (fun r n => r ++ Utf8.encode n) a).data.toList = a.data.toList ++ joinL xs
  | [], a, _ => by simp [joinL_nil]
  | r :: xs, a, h => by
    rw [List.foldl_cons, runesBytes_list xs _ (fun q hq => h q (List.mem_cons_of_mem _ hq)), joinL_cons, ← encode_bytes (h r (List.mem_cons_self ..)), ← List.append_assoc]
    simp
theorem runesBytes_join {xs : List Int} (h : allValid xs = true) : runesBytes xs = ⟨(joinL xs).toArray⟩ := by
  have e := runesBytes_list xs ByteArray.empty (allValid_iff.1 h)
  unfold runesBytes
  apply ByteArray.ext
  apply Array.ext'
  rw [e]
  simp
end Go.Proofs.YtfoglciiefoodaaGreatDoor

namespace Go.Proofs.YtfoglciiefoodaaGreatDoor
open Go.RowKit

end Go.Proofs.YtfoglciiefoodaaGreatDoor

namespace Go.Proofs.YtfoglciiefoodaaGreatDoor
open Go.RowKit

def EBox (N : Nat) (s q c k a l : Int) (t : ByteArray) (w W : World) : Prop :=
  W.cell? ⟨N, 0, none⟩ = some (.int .i64 s) ∧ W.cell? ⟨N, 1, none⟩ = some (.int .i64 q) ∧ W.cell? ⟨N, 2, none⟩ = some (.int .i64 c) ∧ W.cell? ⟨N, 3, none⟩ = some (.int .i64 k) ∧
    W.cell? ⟨N, 4, none⟩ = some (.int .i64 a) ∧ W.cell? ⟨N, 5, none⟩ = some (.int .i64 l) ∧ W.cell? ⟨N, 6, none⟩ = some (.string t) ∧ Below N w W
theorem EBox.keep {N : Nat} {s q c k a l : Int} {t : ByteArray} {w W W' : World} (h : EBox N s q c k a l t w W) (hb : Below W.heap.size W W') : EBox N s q c k a l t w W' := by
  obtain ⟨h0, h1, h2, h3, h4, h5, h6, h7⟩ := h
  have hl : N < W.heap.size := World.block_lt_of_cell? W _ h0
  exact ⟨cell_stays hb h0, cell_stays hb h1, cell_stays hb h2, cell_stays hb h3, cell_stays hb h4, cell_stays hb h5, cell_stays hb h6, h7.trans (hb.mono (Nat.le_of_lt hl))⟩
theorem EBox.new (s q c k a l : Int) (t : ByteArray) (w : World) (ty : TypeId) : EBox w.heap.size s q c k a l t w (w.alloc (.cells #[.int .i64 s, .int .i64 q, .int .i64 c, .int .i64 k, .int .i64 a, .int .i64 l, .string t] ty)) := by
  have h := heap_alloc_new w (.cells #[.int .i64 s, .int .i64 q, .int .i64 c, .int .i64 k, .int .i64 a, .int .i64 l, .string t] ty)
  exact ⟨cell_of_row _ _ 0 _ _ _ h, cell_of_row _ _ 1 _ _ _ h, cell_of_row _ _ 2 _ _ _ h, cell_of_row _ _ 3 _ _ _ h, cell_of_row _ _ 4 _ _ _ h, cell_of_row _ _ 5 _ _ _ h, cell_of_row _ _ 6 _ _ _ h, (Below.refl _ w).alloc (Nat.le_refl _) _⟩
end Go.Proofs.YtfoglciiefoodaaGreatDoor

namespace Go.Proofs.YtfoglciiefoodaaGreatDoor
open Go.RowKit

theorem OBox.up {N : Nat} {s q n k a : Int} {t : ByteArray} {sp : Value} {w W W' : World} (h : OBox N s q n k a t sp w W) (hb : Below (N + 1) W W') : OBox N s q n k a t sp w W' := by
  obtain ⟨c0, c1, c2, c3, c4, c5, c6, hB⟩ := h
  have e : ∀ o, W'.cell? ⟨N, o, none⟩ = W.cell? ⟨N, o, none⟩ := fun o => hb.cell (p := ⟨N, o, none⟩) (Nat.lt_succ_self N)
  exact ⟨(e 0).trans c0, (e 1).trans c1, (e 2).trans c2, (e 3).trans c3, (e 4).trans c4, (e 5).trans c5, (e 6).trans c6, hB.trans (hb.mono (Nat.le_succ N))⟩
end Go.Proofs.YtfoglciiefoodaaGreatDoor

namespace Go.Proofs.YtfoglciiefoodaaGreatDoor
open Go.RowKit

def cText (l : List PCell) : ByteArray := if allValid (textR l) then ⟨(joinL (textR l)).toArray⟩ else ⟨#[]⟩
theorem getC_some {l : List PCell} {k : Nat} (h : k < l.length) : ∃ c, l[k]? = some c := ⟨l[k], List.getElem?_eq_getElem h⟩
end Go.Proofs.YtfoglciiefoodaaGreatDoor

namespace Go.Proofs.YtfoglciiefoodaaGreatDoor
open Go.RowKit

def gapOk (l : List PCell) (i : Int) (p : Nat) : Bool := match l[p]? with
  | some c => !c.gone && decide ((cSeen l p : Int) = i)
  | none => false
def gapTo (l : List PCell) (i : Int) (k : Nat) : Option Nat := (List.range k).find? (gapOk l i)
theorem gapTo_next (l : List PCell) (i : Int) (k : Nat) : gapTo l i (k + 1) = (gapTo l i k).or (if gapOk l i k then some k else none) := by
  unfold gapTo
  rw [List.range_succ, List.find?_append]
  cases h : gapOk l i k <;> simp [h]
def cGap (l : List PCell) (i : Int) : Int := match gapTo l i l.length with
  | some p => p
  | none => if (cLive l : Int) = i then l.length else -1
def runB (l : List PCell) (i n : Int) (p : Nat) : Bool := match l[p]? with
  | some c => !c.gone && (decide (i ≤ (cSeen l p : Int)) && decide ((cSeen l p : Int) - i < n))
  | none => false
def cRunOk (l : List PCell) (i n : Int) : Bool := decide (0 ≤ i ∧ i ≤ cLive l ∧ 0 ≤ n ∧ n ≤ cLive l - i)
def cRun (l : List PCell) (i n : Int) : List Sp := sMade (runB l i n) 20000
def CRunPost (l : List PCell) (i n : Int) (w : World) (e : Ending) (w' : World) : Prop := ∃ v, e = .returned (.tuple #[v, .bool (cRunOk l i n)]) ∧ SpAt w' v (if cRunOk l i n then cRun l i n else []) ∧ Below w.heap.size w w'
theorem CRunPost.no {l : List PCell} {i n : Int} {w : World} (h : cRunOk l i n = false) : CRunPost l i n w (.returned (.tuple #[.slice none 0 0, .bool false])) w := ⟨_, by rw [h], by rw [h]; exact SpAt.nil _, Below.refl _ _⟩
theorem CRunPost.yes {l : List PCell} {i n : Int} {w w' : World} {v : Value} (h : cRunOk l i n = true) (hv : SpAt w' v (cRun l i n)) (hb : Below w.heap.size w w') : CRunPost l i n w (.returned (.tuple #[v, .bool true])) w' := ⟨_, by rw [h], by rw [h]; exact hv, hb⟩
end Go.Proofs.YtfoglciiefoodaaGreatDoor

namespace Go.Proofs.YtfoglciiefoodaaGreatDoor
open Go.RowKit

end Go.Proofs.YtfoglciiefoodaaGreatDoor

namespace Go.Proofs.YtfoglciiefoodaaGreatDoor
open Go.RowKit

def hasN (l : List PCell) (s q : Int) : Bool := l.any fun c => decide (c.site = s ∧ c.seq = q)
def cDo (l : List PCell) (o : POp) : List PCell × Int := if oMay o l.length then (if o.kind = 1 ∧ hasN l o.site o.seq = true then (l, 15) else (runC l o, 0)) else (l, 1)
def CellsEPost (v : Value) (x : List PCell × Int) (w : World) (e : Ending) (w' : World) : Prop := ∃ v', e = .returned (.tuple #[v', .int .i64 x.2]) ∧ CAt w' v' x.1 ∧ (v' = v ∨ ∀ g, v'.ownBlock = some g → w.heap.size ≤ g) ∧ Below w.heap.size w w'
theorem CellsEPost.same {v : Value} {l : List PCell} {c : Int} {x : List PCell × Int} {w w' : World} (hx : x = (l, c)) (h : CAt w v l) (hb : Below w.heap.size w w') : CellsEPost v x w (.returned (.tuple #[v, .int .i64 c])) w' := by
  subst hx
  exact ⟨v, rfl, h.below hb, .inl rfl, hb⟩
theorem CellsEPost.new {v v' : Value} {m : List PCell} {c : Int} {x : List PCell × Int} {w w' : World} (hx : x = (m, c)) (h : CAt w' v' m) (hf : ∀ g, v'.ownBlock = some g → w.heap.size ≤ g) (hb : Below w.heap.size w w') : CellsEPost v x w (.returned (.tuple #[v', .int .i64 c])) w' := by
  subst hx
  exact ⟨v', rfl, h, .inr hf, hb⟩
end Go.Proofs.YtfoglciiefoodaaGreatDoor

namespace Go.Proofs.YtfoglciiefoodaaGreatDoor
open Go.RowKit

def keptC (l : List PCell) (f : Nat → Bool) (k : Nat) : List PCell := (List.range k).filterMap fun i => if f i then none else l[i]?
theorem keptC_no {l : List PCell} {f : Nat → Bool} {k : Nat} (hf : f k = true) : keptC l f (k + 1) = keptC l f k := by
  unfold keptC
  rw [List.range_succ, List.filterMap_append]
  simp [hf]
theorem keptC_yes {l : List PCell} {f : Nat → Bool} {k : Nat} {c : PCell} (hf : f k = false) (hc : l[k]? = some c) : keptC l f (k + 1) = keptC l f k ++ [c] := by
  unfold keptC
  rw [List.range_succ, List.filterMap_append]
  simp [hf, hc]
theorem keptC_le (l : List PCell) (f : Nat → Bool) (k : Nat) : (keptC l f k).length ≤ k := by
  unfold keptC
  refine Nat.le_trans (List.length_filterMap_le _ _) ?_
  rw [List.length_range]
  exact Nat.le_refl _
def outB (f : Nat → Bool) (n m : Nat) : Bool := (List.range m).any fun i => decide (n ≤ i) && f i
def liveB (l : List PCell) (f : Nat → Bool) (k : Nat) : Bool := (List.range k).any fun i => f i && !goneB l i
theorem liveB_next (l : List PCell) (f : Nat → Bool) (k : Nat) : liveB l f (k + 1) = (liveB l f k || (f k && !goneB l k)) := by
  unfold liveB
  rw [List.range_succ, List.any_append]
  simp
def cDrop (l : List PCell) (xs : List Sp) : List PCell × Int :=
  if sMay xs then (if outB (sMark xs) l.length 20000 then (l, 1) else if liveB l (sMark xs) l.length then (l, 13) else (keptC l (sMark xs) l.length, 0)) else (l, 1)
end Go.Proofs.YtfoglciiefoodaaGreatDoor

namespace Go.Proofs.YtfoglciiefoodaaGreatDoor
open Go.RowKit

def cellOk (c : PCell) : Bool := nMay c.site c.seq && decide (0 ≤ c.off ∧ c.off ≤ 199) && Lib.validRune c.r
def sameId (c d : PCell) : Bool := decide (c.site = d.site ∧ c.seq = d.seq ∧ c.off = d.off)
def dupTo (l : List PCell) (d : PCell) (k : Nat) : Bool := (l.take k).any fun c => sameId c d
def dupC (l : List PCell) (n : Nat) : Bool := (List.range n).any fun i => match l[i]? with
  | some d => dupTo l d i
  | none => false
def cMay (l : List PCell) : Int := if l.all cellOk then (if dupC l l.length then 15 else if 20000 < l.length then 4 else 0) else 1
end Go.Proofs.YtfoglciiefoodaaGreatDoor
