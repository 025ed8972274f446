/- Texts of this proof, joined. -/
import Derived.Test.YtfoglciiefoodaaGreatDoorGReads64
import Derived.Test.YtfoglciiefoodaaGreatDoorGTabW
import Derived.Test.YtfoglciiefoodaaGreatDoorGNameEq
import Derived.Test.YtfoglciiefoodaaGreatDoorGRefSplit
import Derived.Test.YtfoglciiefoodaaGreatDoorGRefOps
import Derived.Deep.RegionHeld
import Derived.Deep.CutRange
import Derived.Deep.DeepCutAuto
import Derived.Deep.Cut
namespace Go.Proofs.YtfoglciiefoodaaGreatDoor
open Go.RowKit

def CWf (l : List PCell) : Prop := ∀ c ∈ l, (Lit.int .i64 c.site).wf = true ∧ (Lit.int .i64 c.seq).wf = true ∧ (Lit.int .i64 c.off).wf = true ∧ (Lit.int .i32 c.r).wf = true
def DKept (D : World → Value → List PCell → (Nat → Prop) → Prop) (p : Value) (l : List PCell) (S : Nat → Prop) (w w' : World) (S' : Nat → Prop) : Prop :=
  D w' p l S' ∧ (∀ b, S' b → S b ∨ w.heap.size ≤ b) ∧ Keep S w.heap.size w w'
def DVal (D : World → Value → List PCell → (Nat → Prop) → Prop) (p : Value) (l : List PCell) (S : Nat → Prop) (x : Value) (w : World) (e : Ending) (w' : World) : Prop := ∃ S', DKept D p l S w w' S' ∧ e = .returned x
structure CC where
  D : World → Value → List PCell → (Nat → Prop) → Prop
  keep : ∀ {w w' : World} {p : Value} {l : List PCell} {S : Nat → Prop}, D w p l S → (∀ b, S b → w'.heap[b]? = w.heap[b]?) → w.heap.size ≤ w'.heap.size → D w' p l S
  low : ∀ {w : World} {p : Value} {l : List PCell} {S : Nat → Prop}, D w p l S → ∀ b, S b → b < w.heap.size
  ptr : ∀ {w : World} {p : Value} {l : List PCell} {S : Nat → Prop}, D w p l S → ∃ B, p = .pointer (some ⟨B, 0, none⟩)
  may : ∀ {w : World} {p : Value} {l : List PCell} {S : Nat → Prop}, D w p l S → cMay l = 0
  new_yes : ∀ (v : Value) (l : List PCell) (w : World), TabW w → CAt w v l → CWf l → l.length ≤ 20000 → cMay l = 0 →
    Calls Tryz.prog 9 #[v] w fun e w' => ∃ p S, e = .returned (.tuple #[p, .int .i64 0]) ∧ D w' p l S ∧ (∀ b, S b → w.heap.size ≤ b) ∧ Below w.heap.size w w'
  new_no : ∀ (v : Value) (l : List PCell) (w : World), TabW w → CAt w v l → CWf l → l.length ≤ 20000 → cMay l ≠ 0 →
    Calls Tryz.prog 9 #[v] w fun e w' => e = .returned (.tuple #[.pointer none, .int .i64 (cMay l)]) ∧ Below w.heap.size w w'
  doOp : ∀ (s q n k a : Int) (t : ByteArray) (sp : Value) (xs : List Sp) (p : Value) (l : List PCell) (S : Nat → Prop) (w : World), D w p l S → TabW w → SpAt w sp xs → NWf s q n k a → t.size ≤ 1000 → xs.length ≤ 20000 → sWf xs →
    Calls Tryz.prog 32 #[p, opV s q n k a t sp] w (DVal D p (cDo l ⟨s, q, n, k, a, t.data.toList, xs⟩).1 S (.int .i64 (cDo l ⟨s, q, n, k, a, t.data.toList, xs⟩).2) w)
  drop : ∀ (sp : Value) (xs : List Sp) (p : Value) (l : List PCell) (S : Nat → Prop) (w : World), D w p l S → SpAt w sp xs → sWf xs → xs.length ≤ 20000 →
    Calls Tryz.prog 34 #[p, sp] w (DVal D p (cDrop l xs).1 S (.int .i64 (cDrop l xs).2) w)
  size : ∀ (p : Value) (l : List PCell) (S : Nat → Prop) (w : World), D w p l S → Calls Tryz.prog 15 #[p] w (DVal D p l S (.int .i64 l.length) w)
  live : ∀ (p : Value) (l : List PCell) (S : Nat → Prop) (w : World), D w p l S → Calls Tryz.prog 16 #[p] w (DVal D p l S (.int .i64 (cLive l)) w)
  text : ∀ (p : Value) (l : List PCell) (S : Nat → Prop) (w : World), D w p l S → Calls Tryz.prog 18 #[p] w (DVal D p l S (.string (cText l)) w)
  cells : ∀ (p : Value) (l : List PCell) (S : Nat → Prop) (w : World), D w p l S → Calls Tryz.prog 21 #[p] w fun e w' => ∃ v S', e = .returned v ∧ DKept D p l S w w' S' ∧ CAt w' v l ∧ ∀ g, v.ownBlock = some g → w.heap.size ≤ g ∧ ¬ S' g
  gone : ∀ (p : Value) (l : List PCell) (S : Nat → Prop) (w : World), D w p l S → Calls Tryz.prog 23 #[p] w fun e w' => ∃ v S', e = .returned v ∧ DKept D p l S w w' S' ∧ SpAt w' v (cGone l)
  gap : ∀ (i : Int) (p : Value) (l : List PCell) (S : Nat → Prop) (w : World), D w p l S → (Lit.int .i64 i).wf = true →
    Calls Tryz.prog 24 #[p, .int .i64 i] w (DVal D p l S (if cGap l i < 0 then .tuple #[.int .i64 0, .int .i64 3] else .tuple #[.int .i64 (cGap l i), .int .i64 0]) w)
end Go.Proofs.YtfoglciiefoodaaGreatDoor

namespace Go.Proofs.YtfoglciiefoodaaGreatDoor
open Go.RowKit

structure PAct where
  kd : Int
  site : Int
  seq : Int
  num : Int
  kind : Int
  pl : Int
  text : ByteArray
  sp : Value
  xs : List Sp
def PAct.op (x : PAct) : POp := ⟨x.site, x.seq, x.num, x.kind, x.pl, x.text.data.toList, x.xs⟩
def PAct.vals (x : PAct) : List Value := [.int .u8 x.kd, .int .i64 x.site, .int .i64 x.seq, .int .i64 x.num, .int .i64 x.kind, .int .i64 x.pl, .string x.text, x.sp]
def PAct.val (x : PAct) : Value := .agg #[.int .u8 x.kd, .int .i64 x.site, .int .i64 x.seq, .int .i64 x.num, .int .i64 x.kind, .int .i64 x.pl, .string x.text, x.sp]
def aCells : List PAct → List Value
  | [] => []
  | c :: r => c.vals ++ aCells r
theorem aCells_length : ∀ l, (aCells l).length = l.length * 8
  | [] => rfl
  | c :: r => by
    show (c.vals ++ aCells r).length = (r.length + 1) * 8
    rw [List.length_append, aCells_length r, show c.vals.length = 8 from rfl]
    omega
theorem aCells_at : ∀ (l : List PAct) (i j : Nat) (c : PAct), l[i]? = some c → j < 8 → (aCells l)[i * 8 + j]? = c.vals[j]?
  | [], i, _, _, h, _ => by simp at h
  | d :: r, 0, j, c, h, hj => by
    obtain rfl : d = c := by simpa using h
    show (d.vals ++ aCells r)[0 * 8 + j]? = _
    rw [List.getElem?_append_left (by show 0 * 8 + j < 8; omega), show 0 * 8 + j = j by omega]
  | d :: r, i + 1, j, c, h, hj => by
    show (d.vals ++ aCells r)[(i + 1) * 8 + j]? = _
    rw [List.getElem?_append_right (by show 8 ≤ (i + 1) * 8 + j; omega), show (i + 1) * 8 + j - d.vals.length = i * 8 + j by show (i + 1) * 8 + j - 8 = _; omega]
    exact aCells_at r i j c (by simpa using h) hj
structure PAct.Wf (x : PAct) : Prop where
  kd : (Lit.int .u8 x.kd).wf = true
  s : (Lit.int .i64 x.site).wf = true
  q : (Lit.int .i64 x.seq).wf = true
  n : (Lit.int .i64 x.num).wf = true
  k : (Lit.int .i64 x.kind).wf = true
  a : (Lit.int .i64 x.pl).wf = true
  w : sWf x.xs
def ActsAt (W : World) (v : Value) (l : List PAct) : Prop := RowR 8 W v l.length (aCells l) ∧ ∀ x ∈ l, SpAt W x.sp x.xs ∧ x.Wf
theorem ActsAt.below {W W' : World} {v : Value} {l : List PAct} (h : ActsAt W v l) (hb : Below W.heap.size W W') : ActsAt W' v l := ⟨h.1.below hb, fun x hx => ⟨(h.2 x hx).1.below hb, (h.2 x hx).2⟩⟩
theorem ActsAt.shape {W : World} {v : Value} {l : List PAct} (h : ActsAt W v l) : ∃ ao cap, v = .slice ao l.length cap := by
  obtain ⟨⟨_, ao, cap, e, _⟩, _⟩ := h
  exact ⟨ao, cap, e⟩
theorem ActsAt.at {W : World} {v : Value} {l : List PAct} (h : ActsAt W v l) {i : Nat} {x : PAct} (hi : l[i]? = some x) : ∃ b off cap, v = .slice (some ⟨b, off, none⟩) l.length cap ∧
    W.cell? ⟨b, off + i * 8, none⟩ = some (.int .u8 x.kd) ∧ W.cell? ⟨b, off + i * 8 + 1, none⟩ = some (.int .i64 x.site) ∧ W.cell? ⟨b, off + i * 8 + 2, none⟩ = some (.int .i64 x.seq) ∧
    W.cell? ⟨b, off + i * 8 + 3, none⟩ = some (.int .i64 x.num) ∧ W.cell? ⟨b, off + i * 8 + 4, none⟩ = some (.int .i64 x.kind) ∧ W.cell? ⟨b, off + i * 8 + 5, none⟩ = some (.int .i64 x.pl) ∧
    W.cell? ⟨b, off + i * 8 + 6, none⟩ = some (.string x.text) ∧ W.cell? ⟨b, off + i * 8 + 7, none⟩ = some x.sp := by
  obtain ⟨⟨_, ao, cap, rfl, h2⟩, _⟩ := h
  have hl := (List.getElem?_eq_some_iff.1 hi).1
  obtain ⟨b, off, rfl, hc⟩ := h2 (by omega)
  have e : ∀ j, j < 8 → W.cell? ⟨b, off + i * 8 + j, none⟩ = x.vals[j]? := fun j hj => by
    have q := aCells_at l i j x hi hj
    have hlt : j < x.vals.length := hj
    rw [List.getElem?_eq_getElem hlt] at q ⊢
    rw [Nat.add_assoc]
    exact hc _ _ q
  exact ⟨b, off, cap, rfl, e 0 (by decide), e 1 (by decide), e 2 (by decide), e 3 (by decide), e 4 (by decide), e 5 (by decide), e 6 (by decide), e 7 (by decide)⟩
theorem ActsAt.mem {W : World} {v : Value} {l : List PAct} (h : ActsAt W v l) {i : Nat} {x : PAct} (hi : l[i]? = some x) : SpAt W x.sp x.xs ∧ x.Wf := h.2 x (List.mem_of_getElem? hi)
def aGreat (x : PAct) : Bool := decide ((40 : Int) < x.xs.length) || decide ((1000 : Int) < x.text.size)
def cGreat (l : List PCell) (xa : List PAct) : Bool := decide (250 < l.length) || (decide (25 < xa.length) || xa.any aGreat)
theorem aGreat_next {l : List PAct} {k : Nat} {x : PAct} (h : l[k]? = some x) : (l.take (k + 1)).any aGreat = ((l.take k).any aGreat || aGreat x) := by
  rw [List.take_add_one, h, List.any_append]
  simp
theorem getA_some {l : List PAct} {k : Nat} (h : k < l.length) : ∃ c, l[k]? = some c := ⟨l[k], List.getElem?_eq_getElem h⟩
set_option maxRecDepth 100000 in
set_option maxHeartbeats 2000000 in
theorem cgreat1_any (s q n k a : Int) (t : ByteArray) (x : Nat) (ao : Option Addr) (cap : Nat) (w : World) :
    Calls Tryz.prog 35 #[opV s q n k a t (.slice ao x cap)] w fun e w' => e = .returned (.bool (decide ((40 : Int) < x) || decide ((1000 : Int) < t.size))) ∧ Below w.heap.size w w' := by
  have hbx := OBox.new s q n k a t (.slice ao x cap) w 35
  have hB := hbx.2.2.2.2.2.2.2
  unfold opV
  go_enter Tryz.func35, Tryz.ntmps35
  go_wp2
  all_goals
    go_ret
    exact ⟨rfl, hB⟩
set_option maxRecDepth 100000 in
set_option maxHeartbeats 4000000 in
theorem cgreat_any (v : Value) (l : List PCell) (u : Value) (xa : List PAct) (w : World) (h : CAt w v l) (hA : ActsAt w u xa) :
    Calls Tryz.prog 8 #[v, u] w fun e w' => e = .returned (.bool (cGreat l xa)) ∧ Below w.heap.size w w' := by
  have HA := Lib.hid hA
  obtain ⟨bo, cap, rfl, h1, h2⟩ := h.shape
  obtain ⟨ao, ac, rfl⟩ := hA.shape
  unfold cGreat
  obtain ⟨L, hL⟩ : ∃ L, l.length = L := ⟨_, rfl⟩
  obtain ⟨M, hM⟩ : ∃ M, xa.length = M := ⟨_, rfl⟩
  have HM := Lib.hid hM
  rw [hL, hM]
  clear hL hM h h1 hA
  by_cases b0 : 250 < L
  · rw [decide_eq_true b0, Bool.true_or]
    have b1 : (250 : Int) < (L : Int) := by omega
    go_enter Tryz.func8, Tryz.ntmps8
    go_wp2
    go_ret
    exact ⟨rfl, Below.refl _ _⟩
  rw [decide_eq_false b0, Bool.false_or]
  have b1 : ¬ (250 : Int) < (L : Int) := by omega
  clear b0
  by_cases b2 : 25 < M
  · rw [decide_eq_true b2, Bool.true_or]
    have b3 : (25 : Int) < (M : Int) := by omega
    go_enter Tryz.func8, Tryz.ntmps8
    go_wp2
    go_ret
    exact ⟨rfl, Below.refl _ _⟩
  rw [decide_eq_false b2, Bool.false_or]
  have b3 : ¬ (25 : Int) < (M : Int) := by omega
  clear b2
  go_enter Tryz.func8, Tryz.ntmps8
  go_wp2
  go_loopw [5] (fun i wr => ∃ k : Nat, i = .int .i64 k ∧ k ≤ M ∧ RowKit.Hid ((xa.take k).any aGreat = false) ∧ RowKit.Hid (Below w.heap.size w wr)) (fun i _ => M - (intOf i).toNat)
  case atStart => exact ⟨0, rfl, Nat.zero_le _, Lib.hid rfl, Lib.hid (Below.refl _ _)⟩
  case round =>
    obtain ⟨k, rfl, hk, hg, hb⟩ := hrel
    rcases Nat.lt_or_ge k M with hlt | hge
    · obtain ⟨x, hx⟩ := getA_some (l := xa) (k := k) (by rw [HM.out]; omega)
      obtain ⟨b, off, cp, hv, c0, c1, c2, c3, c4, c5, c6, c7⟩ := (HA.out.below hb.out).at hx
      rw [HM.out] at hv
      cases hv
      have hi0 : (0 : Int) ≤ (k : Int) ∧ (k : Int) < (M : Int) := ⟨by omega, by omega⟩
      obtain ⟨sa, sc, hsp, _⟩ := (HA.out.mem hx).1
      rw [hsp] at c7
      have hG := fun W => cgreat1_any x.site x.seq x.num x.kind x.pl x.text x.xs.length sa sc W
      unfold opV at hG
      have hgr : (decide ((40 : Int) < x.xs.length) || decide ((1000 : Int) < x.text.size)) = aGreat x := rfl
      rw [hgr] at hG
      have Hx := Lib.hid hx
      clear hx hgr hsp c0
      cases hq : aGreat x with
      | true =>
        rw [hq] at hG
        have HV := Lib.hid (show xa.any aGreat = true from List.any_eq_true.2 ⟨x, List.mem_of_getElem? Hx.out, hq⟩)
        clear hq
        go_wp2_with fail
        refine (hG _).mono ?_
        clear hG
        rintro e w1 ⟨rfl, hb1⟩
        have hz := hb.out.trans (hb1.mono hb.out.size)
        go_wp2
        go_ret
        exact ⟨ret_bool HV.out.symm, hz⟩
      | false =>
        rw [hq] at hG
        have HN := Lib.hid (show (xa.take (k + 1)).any aGreat = false by rw [aGreat_next Hx.out, hg.out, hq]; rfl)
        clear hq
        go_wp2_with fail
        refine (hG _).mono ?_
        clear hG
        rintro e w1 ⟨rfl, hb1⟩
        have hz := Lib.hid (hb.out.trans (hb1.mono hb.out.size))
        go_wp2
        exact ⟨⟨k + 1, by go_num, by omega, HN, hz⟩, by simp [intOf]; omega⟩
    · have hk2 : k = M := by omega
      subst hk2
      have hV := hg.out
      rw [List.take_of_length_le (by rw [HM.out]; exact Nat.le_refl _)] at hV
      have HV := Lib.hid hV
      have hz := hb.out
      clear hV
      go_wp2
      go_ret
      exact ⟨ret_bool HV.out.symm, hz⟩
end Go.Proofs.YtfoglciiefoodaaGreatDoor

namespace Go.Proofs.YtfoglciiefoodaaGreatDoor
open Go.RowKit

def cFind (l : List PCell) (s q off : Int) : Int × Bool := match l.findIdx? fun c => decide (c.site = s ∧ c.seq = q ∧ c.off = off) with
  | some i => (i, true)
  | none => (0, false)
structure CC2 extends CC where
  seen : ∀ (i : Int) (p : Value) (l : List PCell) (S : Nat → Prop) (w : World), D w p l S → (Lit.int .i64 i).wf = true →
    Calls Tryz.prog 26 #[p, .int .i64 i] w (DVal D p l S (if 0 ≤ i ∧ i ≤ l.length then .tuple #[.int .i64 (cSeen l i.toNat), .int .i64 0] else .tuple #[.int .i64 0, .int .i64 3]) w)
  run : ∀ (i n : Int) (p : Value) (l : List PCell) (S : Nat → Prop) (w : World), D w p l S → (Lit.int .i64 i).wf = true → (Lit.int .i64 n).wf = true →
    Calls Tryz.prog 28 #[p, .int .i64 i, .int .i64 n] w fun e w' => ∃ v S', e = .returned (.tuple #[v, .int .i64 (if cRunOk l i n then 0 else 3)]) ∧ DKept D p l S w w' S' ∧ SpAt w' v (if cRunOk l i n then cRun l i n else []) ∧ ∀ g, v.ownBlock = some g → ¬ S' g
  find : ∀ (s q off : Int) (p : Value) (l : List PCell) (S : Nat → Prop) (w : World), D w p l S → (Lit.int .i64 s).wf = true → (Lit.int .i64 q).wf = true → (Lit.int .i64 off).wf = true →
    Calls Tryz.prog 30 #[p, nmV s q, .int .i64 off] w (DVal D p l S (.tuple #[.int .i64 (cFind l s q off).1, .bool (cFind l s q off).2]) w)
  copy : ∀ (p : Value) (l : List PCell) (S : Nat → Prop) (w : World), D w p l S →
    Calls Tryz.prog 31 #[p] w fun e w' => ∃ p' S1 S', e = .returned p' ∧ D w' p' l S1 ∧ (∀ b, S1 b → w.heap.size ≤ b ∧ ¬ S' b) ∧ DKept D p l S w w' S'
end Go.Proofs.YtfoglciiefoodaaGreatDoor

namespace Go.Proofs.YtfoglciiefoodaaGreatDoor

theorem cMay_ok {l : List PCell} (h : cMay l = 0) : l.all cellOk = true ∧ dupC l l.length = false ∧ l.length ≤ 20000 := by
  unfold cMay at h
  by_cases h1 : l.all cellOk = true
  · rw [if_pos h1] at h
    by_cases h2 : dupC l l.length = true
    · rw [if_pos h2] at h; omega
    · rw [if_neg h2] at h
      refine ⟨h1, by simpa using h2, ?_⟩
      split at h <;> omega
  · rw [if_neg h1] at h; omega
theorem dup_no {l : List PCell} (h : dupC l l.length = false) {i k : Nat} {c d : PCell} (hik : k < i) (hc : l[k]? = some c) (hd : l[i]? = some d) : sameId c d = false := by
  unfold dupC at h
  rw [List.any_eq_false] at h
  have hi := (List.getElem?_eq_some_iff.1 hd).1
  have h1 := h i (List.mem_range.2 hi)
  rw [hd] at h1
  simp only at h1
  cases hs : sameId c d with
  | false => rfl
  | true =>
    exfalso
    apply h1
    unfold dupTo
    rw [List.any_eq_true]
    refine ⟨c, ?_, hs⟩
    exact List.mem_of_getElem? (by rw [List.getElem?_take, if_pos hik]; exact hc)
theorem find_at {l : List PCell} (h : cMay l = 0) {k : Nat} {c : PCell} (hc : l[k]? = some c) : cFind l c.site c.seq c.off = ((k : Int), true) := by
  obtain ⟨_, h2, _⟩ := cMay_ok h
  have hk := (List.getElem?_eq_some_iff.1 hc).1
  have : (l.findIdx? fun d => decide (d.site = c.site ∧ d.seq = c.seq ∧ d.off = c.off)) = some k := by
    rw [List.findIdx?_eq_some_iff_getElem]
    have e : l[k] = c := by
      have := (List.getElem?_eq_some_iff.1 hc).2
      exact this
    refine ⟨hk, by rw [e]; simp, fun j hj => ?_⟩
    have hjl : j < l.length := by omega
    have hs := dup_no h2 hj (List.getElem?_eq_getElem hjl) hc
    unfold sameId at hs
    rw [hs]
    simp
  unfold cFind
  rw [this]
theorem find_out {l : List PCell} (h : cMay l = 0) (s q off : Int) (ho : 199 < off) : cFind l s q off = (0, false) := by
  obtain ⟨h1, _, _⟩ := cMay_ok h
  have : (l.findIdx? fun d => decide (d.site = s ∧ d.seq = q ∧ d.off = off)) = none := by
    rw [List.findIdx?_eq_none_iff]
    intro d hd
    have := (List.all_eq_true.1 h1) d hd
    unfold cellOk at this
    simp only [Bool.and_eq_true, decide_eq_true_eq] at this
    exact decide_eq_false (by omega)
  unfold cFind
  rw [this]
end Go.Proofs.YtfoglciiefoodaaGreatDoor

namespace Go.Proofs.YtfoglciiefoodaaGreatDoor
open Go.RowKit

theorem CC.below (C : CC) {w w' : World} {p : Value} {l : List PCell} {S : Nat → Prop} (h : C.D w p l S) (hb : Below w.heap.size w w') : C.D w' p l S := C.keep h (fun b hS => hb.block b (C.low h b hS)) hb.size
theorem DKept.up {D : World → Value → List PCell → (Nat → Prop) → Prop} {p : Value} {l : List PCell} {S S' : Nat → Prop} {w w' : World} {N : Nat} (h : DKept D p l S w w' S') (hS : ∀ b, S b → N ≤ b) (hN : N ≤ w.heap.size) : (∀ b, S' b → N ≤ b) ∧ Below N w w' :=
  ⟨fun b hb => (h.2.1 b hb).elim (hS b) (fun q => Nat.le_trans hN q), h.2.2.below hN hS⟩
theorem CAt.keep {S : Nat → Prop} {W W' : World} {v : Value} {l : List PCell} (h : CAt W v l) (hk : Keep S W.heap.size W W') (hg : ∀ g, v.ownBlock = some g → ¬ S g) : CAt W' v l := by
  obtain ⟨hl, ao, cap, rfl, h1, h2, h3, h4⟩ := h
  refine ⟨hl, ao, cap, rfl, h1, h2, h3, fun ad ha => ?_⟩
  subst ha
  obtain ⟨b, off, rfl, hlt, hc⟩ := h4 _ rfl
  refine ⟨b, off, rfl, Nat.lt_of_lt_of_le hlt hk.size, fun j u hj => ?_⟩
  rw [hk.cell (p := ⟨b, off + j, none⟩) hlt (hg b rfl)]
  exact hc j u hj
theorem CAt.lt {W : World} {v : Value} {l : List PCell} (h : CAt W v l) : ∀ g, v.ownBlock = some g → g < W.heap.size := by
  obtain ⟨_, ao, cap, rfl, _, _, _, h4⟩ := h
  intro g hg
  cases ao with
  | none => cases hg
  | some ad =>
    obtain ⟨b, off, rfl, hlt, _⟩ := h4 _ rfl
    cases hg
    exact hlt
def DOwn (C : CC) (N : Nat) (w : World) (p : Value) (l : List PCell) (W : World) : Prop := ∃ S, C.D W p l S ∧ (∀ b, S b → N ≤ b) ∧ Below N w W ∧ N ≤ W.heap.size
theorem DOwn.below {C : CC} {N : Nat} {w : World} {p : Value} {l : List PCell} {W W' : World} (h : DOwn C N w p l W) (hb : Below W.heap.size W W') : DOwn C N w p l W' := by
  obtain ⟨S, h1, h2, h3, h4⟩ := h
  exact ⟨S, C.below h1 hb, h2, h3.trans (hb.mono h4), Nat.le_trans h4 hb.size⟩
theorem DOwn.kept {C : CC} {N : Nat} {w : World} {p : Value} {m : List PCell} {W W' : World} {S S' : Nat → Prop} (h2 : ∀ b, S b → N ≤ b) (h3 : Below N w W) (h4 : N ≤ W.heap.size) (hk : DKept C.D p m S W W' S') : DOwn C N w p m W' := by
  obtain ⟨q1, q2⟩ := hk.up h2 h4
  exact ⟨S', hk.1, q1, h3.trans q2, Nat.le_trans h4 q2.size⟩
theorem DOwn.call {C : CC} {N f : Nat} {args : Array Value} {w : World} {p x : Value} {l m : List PCell} {W : World} (h : DOwn C N w p l W) (hc : ∀ S, C.D W p l S → Calls Tryz.prog f args W (DVal C.D p m S x W)) : Calls Tryz.prog f args W fun e W' => e = .returned x ∧ DOwn C N w p m W' := by
  obtain ⟨S, h1, h2, h3, h4⟩ := h
  refine (hc S h1).mono ?_
  rintro e W' ⟨S', hk, he⟩
  exact ⟨he, DOwn.kept h2 h3 h4 hk⟩
def exCA : POp := ⟨1, 1, 0, 1, 0, [97, 98, 99], []⟩
def exCB : POp := ⟨1, 2, 0, 2, 0, [], [(1, 1)]⟩
theorem exC_a : cDo [] exCA = ([⟨1, 1, 0, 97, false⟩, ⟨1, 1, 1, 98, false⟩, ⟨1, 1, 2, 99, false⟩], 0) := by decide
theorem exC_b : cDo [⟨1, 1, 0, 97, false⟩, ⟨1, 1, 1, 98, false⟩, ⟨1, 1, 2, 99, false⟩] exCB = ([⟨1, 1, 0, 97, false⟩, ⟨1, 1, 1, 98, true⟩, ⟨1, 1, 2, 99, false⟩], 0) := by decide
theorem exC_g : cGap [⟨1, 1, 0, 97, false⟩, ⟨1, 1, 1, 98, true⟩, ⟨1, 1, 2, 99, false⟩] 1 = 2 := by decide
theorem exC_l : cLive [⟨1, 1, 0, 97, false⟩, ⟨1, 1, 1, 98, true⟩, ⟨1, 1, 2, 99, false⟩] = 2 := by decide
theorem exC_t : cText [⟨1, 1, 0, 97, false⟩, ⟨1, 1, 1, 98, true⟩, ⟨1, 1, 2, 99, false⟩] = ⟨#[97, 99]⟩ := by decide
theorem exC_wfA : NWf 1 1 0 1 0 := ⟨by decide, by decide, by decide, by decide, by decide⟩
theorem exC_wfB : NWf 1 2 0 2 0 := ⟨by decide, by decide, by decide, by decide, by decide⟩
theorem DOwn.ptr {C : CC} {N : Nat} {w : World} {p : Value} {l : List PCell} {W : World} (h : DOwn C N w p l W) : ∃ B, p = .pointer (some ⟨B, 0, none⟩) := by
  obtain ⟨S, h1, _⟩ := h
  exact C.ptr h1
theorem DOwn.up {C : CC} {N : Nat} {w : World} {p : Value} {l : List PCell} {W : World} (h : DOwn C N w p l W) : Below N w W := by
  obtain ⟨S, _, _, h3, _⟩ := h
  exact h3
set_option maxRecDepth 100000 in
set_option maxHeartbeats 4000000 in
theorem calive_any (C : CC) (w : World) (hT : TabW w) : Calls Tryz.prog 7 #[] w fun e w' => e = .returned (.bool true) ∧ Below w.heap.size w w' := by
  have hN := C.new_yes (.slice none 0 0) [] w hT (CAt.nil w) (fun _ h => by cases h) (Nat.zero_le _) (by decide)
  go_enter Tryz.func7, Tryz.ntmps7
  go_wp2_with fail
  refine hN.mono ?_
  clear hN
  rintro e w1 ⟨p, S, rfl, hD, hS, hb⟩
  have h0 : DOwn C w.heap.size w p [] w1 := ⟨S, hD, hS, hb, hb.size⟩
  obtain ⟨B, rfl⟩ := C.ptr hD
  have hT1 := hT.below hb
  have c1 := h0.call fun S h => C.doOp 1 1 0 1 0 ⟨#[97, 98, 99]⟩ (.slice none 0 0) [] _ [] S w1 h hT1 (SpAt.nil _) exC_wfA (by decide) (by decide) (sWf_may (by decide))
  rw [show (⟨1, 1, 0, 1, 0, (⟨#[97, 98, 99]⟩ : ByteArray).data.toList, []⟩ : POp) = exCA from rfl, exC_a] at c1
  unfold opV at c1
  have HT := Lib.hid hT
  clear hD hS hb h0 hT1 hT
  go_wp2_with fail
  refine c1.mono ?_
  clear c1
  rintro e w2 ⟨rfl, h2⟩
  have hb2 : Below w2.heap.size w2 (w2.alloc (.cells #[.int .i64 1, .int .i64 1] 73)) := (Below.refl _ w2).alloc (Nat.le_refl _) _
  have c2 := (h2.below hb2).call fun S h => C.doOp 1 2 0 2 0 ⟨#[]⟩ (.slice (some ⟨w2.heap.size, 0, none⟩) 1 1) [(1, 1)] _ _ S _ h (HT.out.below (h2.below hb2).up) (SpAt.of_own (base := w2.heap.size) (World.ownsRow_lit w2 #[.int .i64 1, .int .i64 1] 1 (Nat.le_refl _) (by decide) rfl)) exC_wfB (by decide) (by decide) (sWf_may (by decide))
  rw [show (⟨1, 2, 0, 2, 0, (⟨#[]⟩ : ByteArray).data.toList, [(1, 1)]⟩ : POp) = exCB from rfl, exC_b] at c2
  unfold opV at c2
  clear h2 hb2
  go_wp2_with fail
  refine c2.mono ?_
  clear c2
  rintro e w3 ⟨rfl, h3⟩
  have c3 := h3.call fun S h => C.gap 1 _ _ S w3 h (by decide)
  rw [exC_g] at c3
  clear h3
  go_wp2_with fail
  refine c3.mono ?_
  clear c3
  rintro e w4 ⟨rfl, h4⟩
  have c4 := h4.call fun S h => C.text _ _ S w4 h
  rw [exC_t] at c4
  clear h4
  simp only [show ¬ ((2 : Int) < 0) by decide, if_false]
  go_wp2_with fail
  refine c4.mono ?_
  clear c4
  rintro e w5 ⟨rfl, h5⟩
  have c5 := h5.call fun S h => C.size _ _ S w5 h
  clear h5
  go_wp2_with fail
  refine c5.mono ?_
  clear c5
  rintro e w6 ⟨rfl, h6⟩
  have c6 := h6.call fun S h => C.live _ _ S w6 h
  rw [exC_l] at c6
  clear h6
  go_wp2_with fail
  refine c6.mono ?_
  clear c6
  rintro e w7 ⟨rfl, h7⟩
  have hz := h7.up
  clear h7
  go_wp2
  go_ret
  exact ⟨rfl, hz⟩
end Go.Proofs.YtfoglciiefoodaaGreatDoor

namespace Go.Proofs.YtfoglciiefoodaaGreatDoor
open Go.RowKit

theorem DKept.after {D : World → Value → List PCell → (Nat → Prop) → Prop} {p : Value} {m : List PCell} {S S' : Nat → Prop} {W W1 W' : World} (hb : Below W.heap.size W W1) (h : DKept D p m S W1 W' S') : DKept D p m S W W' S' :=
  ⟨h.1, fun b hb' => (h.2.1 b hb').imp id (fun q => Nat.le_trans hb.size q), (Keep.of_below hb (Nat.le_refl _)).trans (h.2.2.weak hb.size fun _ _ q => q)⟩
theorem DKept.trans {D : World → Value → List PCell → (Nat → Prop) → Prop} {p : Value} {l m : List PCell} {S S1 S2 : Nat → Prop} {W W1 W2 : World} (h : DKept D p l S W W1 S1) (k : DKept D p m S1 W1 W2 S2) : DKept D p m S W W2 S2 :=
  ⟨k.1, fun b hb => (k.2.1 b hb).elim (h.2.1 b) (fun q => .inr (Nat.le_trans h.2.2.size q)), h.2.2.trans (k.2.2.weak h.2.2.size fun b hb q => (h.2.1 b q).elim id (fun z => absurd hb (Nat.not_lt.2 z)))⟩
def cAct (l : List PCell) (x : PAct) : List PCell × Int := if x.kd % 5 = 3 then cDrop l x.xs else if x.kd % 5 = 4 then cDrop l (cGone l) else cDo l x.op
theorem cGone_wf (l : List PCell) : sWf (cGone l) := sWf_may ((sMay_good _).2 (sMade_good _ _ (Nat.le_refl _)))
theorem cGone_length (l : List PCell) : (cGone l).length ≤ 20000 := sMade_length _ _
theorem aGreat_no {x : PAct} (h : aGreat x = false) : x.xs.length ≤ 40 ∧ x.text.size ≤ 1000 := by
  unfold aGreat at h
  rw [Bool.or_eq_false_iff, decide_eq_false_iff_not, decide_eq_false_iff_not] at h
  omega
set_option maxRecDepth 100000 in
set_option maxHeartbeats 4000000 in
theorem cdo_any (C : CC) (x : PAct) (hx : x.Wf) (hg : aGreat x = false) (p : Value) (l : List PCell) (S : Nat → Prop) (W : World) (h : C.D W p l S) (hT : TabW W) (hs : SpAt W x.sp x.xs) :
    Calls Tryz.prog 14 #[p, x.val] W (DVal C.D p (cAct l x).1 S (.int .i64 (cAct l x).2) W) := by
  obtain ⟨hx1, hx2⟩ := aGreat_no hg
  have hw : NWf x.site x.seq x.num x.kind x.pl := ⟨hx.s, hx.q, hx.n, hx.k, hx.a⟩
  have hxw := hx.w
  have hkd := hx.kd
  obtain ⟨B, rfl⟩ := C.ptr h
  obtain ⟨sa, sc, hsp, _⟩ := id hs
  obtain ⟨kd, s, q, n, k, a, t, sp, xs⟩ := x
  simp only at hsp hs hw hxw hkd hx1 hx2
  subst hsp
  unfold PAct.val cAct PAct.op
  simp only
  simp only [Lit.wf, Bool.and_eq_true, decide_eq_true_eq] at hkd
  have u1 : IntKind.u8.min = 0 := rfl
  have u2 : IntKind.u8.max = 255 := rfl
  rw [u1, u2] at hkd
  obtain ⟨kk, rfl⟩ : ∃ kk : Nat, kd = kk := ⟨kd.toNat, by omega⟩
  have hb : Below W.heap.size W (W.alloc (.cells #[.int .u8 kk, .int .i64 s, .int .i64 q, .int .i64 n, .int .i64 k, .int .i64 a, .string t, .slice sa xs.length sc] 37)) := (Below.refl _ W).alloc (Nat.le_refl _) _
  have Hb := Lib.hid hb
  have h' := C.below h hb
  have hs' := hs.below hb
  have hT' := hT.below hb
  clear u1 u2 hkd hg hx
  by_cases h3 : (kk : Int) % 5 = 3
  · simp only [h3, if_true]
    have c1 := C.drop _ xs _ l S _ h' hs' hxw (by omega)
    have C1 := Lib.hid c1
    clear c1 hb hs hs' hT hT' h h' hw hxw
    go_enter Tryz.func14, Tryz.ntmps14
    go_wp2_with fail
    refine C1.out.mono ?_
    rintro e W' ⟨S', hk, rfl⟩
    go_wp2
    go_ret
    exact ⟨S', hk.after Hb.out, rfl⟩
  · simp only [h3, if_false]
    by_cases h4 : (kk : Int) % 5 = 4
    · simp only [h4, if_true]
      have c1 := C.gone _ l S _ h'
      have C1 := Lib.hid c1
      clear c1 hb hs hs' hT hT' h h' hw hxw
      go_enter Tryz.func14, Tryz.ntmps14
      go_wp2_with fail
      refine C1.out.mono ?_
      rintro e W1 ⟨v, S1, rfl, hk, hv⟩
      have c2 := C.drop v (cGone l) _ l S1 W1 hk.1 hv (cGone_wf l) (cGone_length l)
      have HK := Lib.hid hk
      obtain ⟨va, vc, rfl, _⟩ := hv
      go_wp2_with fail
      refine c2.mono ?_
      rintro e W2 ⟨S2, hk2, rfl⟩
      have HZ := Lib.hid ((HK.out.trans hk2).after Hb.out)
      clear hk hk2 c2 HK
      go_wp2
      go_ret
      exact ⟨S2, HZ.out, rfl⟩
    · simp only [h4, if_false]
      have c1 := C.doOp s q n k a t _ xs _ l S _ h' hT' hs' hw hx2 (by omega) hxw
      unfold opV at c1
      have C1 := Lib.hid c1
      clear c1 hb hs hs' hT hT' h h' hw hxw
      go_enter Tryz.func14, Tryz.ntmps14
      go_wp2_with fail
      refine C1.out.mono ?_
      rintro e W' ⟨S', hk, rfl⟩
      go_wp2
      go_ret
      exact ⟨S', hk.after Hb.out, rfl⟩
end Go.Proofs.YtfoglciiefoodaaGreatDoor

namespace Go.Proofs.YtfoglciiefoodaaGreatDoor

end Go.Proofs.YtfoglciiefoodaaGreatDoor

namespace Go.Proofs.YtfoglciiefoodaaGreatDoor

theorem cSeen_step (l : List PCell) (k : Nat) : cSeen l k ≤ cSeen l (k + 1) ∧ cSeen l (k + 1) ≤ cSeen l k + 1 := by
  cases hc : l[k]? with
  | none =>
    have : cSeen l (k + 1) = cSeen l k := by
      unfold cSeen
      rw [List.take_add_one, hc]
      simp
    omega
  | some c =>
    cases hg : c.gone with
    | true => rw [cSeen_gone hc hg]; omega
    | false => rw [cSeen_live hc hg]; omega
theorem cSeen_mono (l : List PCell) {a b : Nat} (h : a ≤ b) : cSeen l a ≤ cSeen l b := by
  obtain ⟨d, rfl⟩ := Nat.exists_eq_add_of_le h
  clear h
  induction d with
  | zero => exact Nat.le_refl _
  | succ d ih => exact Nat.le_trans ih (cSeen_step l (a + d)).1
theorem gapOk_seen {l : List PCell} {i : Int} {p : Nat} (h : gapOk l i p = true) : p < l.length ∧ (cSeen l p : Int) = i ∧ (cSeen l (p + 1) : Int) = i + 1 := by
  unfold gapOk at h
  cases hc : l[p]? with
  | none => rw [hc] at h; cases h
  | some c =>
    rw [hc] at h
    simp only [Bool.and_eq_true, Bool.not_eq_true', decide_eq_true_eq] at h
    refine ⟨(List.getElem?_eq_some_iff.1 hc).1, h.2, ?_⟩
    rw [cSeen_live hc h.1]
    omega
theorem gap_some (l : List PCell) (i : Nat) : ∀ k, k ≤ l.length → i < cSeen l k → ∃ p, p < k ∧ gapOk l i p = true
  | 0, _, h => by rw [cSeen_zero] at h; omega
  | k + 1, hk, h => by
    by_cases h1 : i < cSeen l k
    · obtain ⟨p, hp, hq⟩ := gap_some l i k (by omega) h1
      exact ⟨p, by omega, hq⟩
    · obtain ⟨c, hc⟩ := getC_some (l := l) (k := k) (by omega)
      have hs := cSeen_step l k
      cases hg : c.gone with
      | true => rw [cSeen_gone hc hg] at h; omega
      | false =>
        refine ⟨k, by omega, ?_⟩
        unfold gapOk
        rw [hc]
        simp only [hg, Bool.not_false, Bool.true_and, decide_eq_true_eq]
        omega
theorem gap_cases (l : List PCell) (i : Int) : (∃ p : Nat, (0 ≤ i ∧ i ≤ cLive l) ∧ p ≤ l.length ∧ cGap l i = p ∧ cSeen l p = i.toNat) ∨ (¬ (0 ≤ i ∧ i ≤ cLive l) ∧ cGap l i = -1) := by
  cases hg : gapTo l i l.length with
  | some p =>
    have h1 : gapOk l i p = true := List.find?_some hg
    obtain ⟨q1, q2, q3⟩ := gapOk_seen h1
    have hm := cSeen_mono l (show p + 1 ≤ l.length by omega)
    refine .inl ⟨p, ⟨by omega, ?_⟩, by omega, ?_, by omega⟩
    · unfold cLive; omega
    · unfold cGap; rw [hg]
  | none =>
    have hn : ∀ p, p < l.length → gapOk l i p = false := fun p hp => by
      have := List.find?_eq_none.1 hg p (List.mem_range.2 hp)
      simpa using this
    by_cases he : (cLive l : Int) = i
    · refine .inl ⟨l.length, ⟨by omega, by omega⟩, Nat.le_refl _, ?_, ?_⟩
      · unfold cGap; rw [hg]; exact if_pos he
      · have : cSeen l l.length = cLive l := rfl
        omega
    · refine .inr ⟨fun hz => ?_, ?_⟩
      · obtain ⟨p, hp, hq⟩ := gap_some l i.toNat l.length (Nat.le_refl _) (by have : cSeen l l.length = cLive l := rfl; omega)
        rw [show ((i.toNat : Nat) : Int) = i by omega, hn p hp] at hq
        cases hq
      · unfold cGap; rw [hg]; exact if_neg he
end Go.Proofs.YtfoglciiefoodaaGreatDoor

namespace Go.Proofs.YtfoglciiefoodaaGreatDoor
open Go.RowKit

theorem cMay_le {l : List PCell} (h : cMay l = 0) : l.length ≤ 20000 := by
  unfold cMay at h
  repeat' split at h
  all_goals omega
structure Pair (C : CC) (N : Nat) (w : World) (p : Value) (l : List PCell) (v : Value) (m : List PCell) (S : Nat → Prop) (W : World) : Prop where
  doc : C.D W p l S
  own : ∀ b, S b → N ≤ b
  up : Below N w W
  size : N ≤ W.heap.size
  list : CAt W v m
  apart : ∀ g, v.ownBlock = some g → ¬ S g
theorem Pair.le {C : CC} {N : Nat} {w : World} {p : Value} {l : List PCell} {v : Value} {m : List PCell} {S : Nat → Prop} {W : World} (h : Pair C N w p l v m S W) : l.length ≤ 20000 := cMay_le (C.may h.doc)
theorem Pair.below {C : CC} {N : Nat} {w : World} {p : Value} {l : List PCell} {v : Value} {m : List PCell} {S : Nat → Prop} {W W' : World} (h : Pair C N w p l v m S W) (hb : Below W.heap.size W W') : Pair C N w p l v m S W' :=
  ⟨C.below h.doc hb, h.own, h.up.trans (hb.mono h.size), Nat.le_trans h.size hb.size, h.list.below hb, h.apart⟩
theorem Pair.next {C : CC} {N : Nat} {w : World} {p : Value} {l l' : List PCell} {v : Value} {m : List PCell} {S S' : Nat → Prop} {W W' : World} (h : Pair C N w p l v m S W) (hk : DKept C.D p l' S W W' S') : Pair C N w p l' v m S' W' := by
  obtain ⟨q1, q2⟩ := hk.up h.own h.size
  exact ⟨hk.1, q1, h.up.trans q2, Nat.le_trans h.size q2.size, h.list.keep hk.2.2 h.apart, fun g hg hS => (hk.2.1 g hS).elim (h.apart g hg) fun q => Nat.lt_irrefl _ (Nat.lt_of_lt_of_le (h.list.lt g hg) q)⟩
theorem Pair.turn {C : CC} {N : Nat} {w : World} {p : Value} {l : List PCell} {v v' : Value} {m m' : List PCell} {S : Nat → Prop} {W W' : World} (h : Pair C N w p l v m S W) (hc : CAt W' v' m') (hf : v' = v ∨ ∀ g, v'.ownBlock = some g → W.heap.size ≤ g) (hb : Below W.heap.size W W') : Pair C N w p l v' m' S W' :=
  ⟨C.below h.doc hb, h.own, h.up.trans (hb.mono h.size), Nat.le_trans h.size hb.size, hc, fun g hg hS => hf.elim (fun e => h.apart g (by rw [← e]; exact hg) hS) fun q => Nat.lt_irrefl _ (Nat.lt_of_lt_of_le (C.low h.doc g hS) (q g hg))⟩
theorem Pair.call {C : CC} {N f : Nat} {args : Array Value} {w : World} {p x : Value} {l l' : List PCell} {v : Value} {m : List PCell} {S : Nat → Prop} {W : World} (h : Pair C N w p l v m S W) (hc : Calls Tryz.prog f args W (DVal C.D p l' S x W)) :
    Calls Tryz.prog f args W fun e W' => e = .returned x ∧ ∃ S', Pair C N w p l' v m S' W' := by
  refine hc.mono ?_
  rintro e W' ⟨S', hk, he⟩
  exact ⟨he, S', h.next hk⟩
theorem Pair.pure {C : CC} {N f : Nat} {args : Array Value} {w : World} {p x : Value} {l : List PCell} {v : Value} {m : List PCell} {S : Nat → Prop} {W : World} (h : Pair C N w p l v m S W) (hc : Calls Tryz.prog f args W fun e W' => e = .returned x ∧ Below W.heap.size W W') :
    Calls Tryz.prog f args W fun e W' => e = .returned x ∧ Pair C N w p l v m S W' := by
  refine hc.mono ?_
  rintro e W' ⟨he, hb⟩
  exact ⟨he, h.below hb⟩
end Go.Proofs.YtfoglciiefoodaaGreatDoor

namespace Go.Proofs.YtfoglciiefoodaaGreatDoor
open Go.RowKit

def ABox (B : Nat) (xs : List Int) (W : World) : Prop := ∀ i x, xs[i]? = some x → W.cell? ⟨B, i, none⟩ = some (.int .i64 x)
theorem ABox.new (xs : List Int) (w : World) (t : TypeId) : ABox w.heap.size xs (w.alloc (.cells (xs.map (Value.int .i64)).toArray t)) := fun i x hx => by
  rw [cell_of_row _ _ i _ _ _ (heap_alloc_new w _)]
  simp [hx]
theorem cell_wf {l : List PCell} (h : cMay l = 0) {k : Nat} {c : PCell} (hc : l[k]? = some c) : (Lit.int .i64 c.site).wf = true ∧ (Lit.int .i64 c.seq).wf = true ∧ (Lit.int .i64 c.off).wf = true := by
  have := (List.all_eq_true.1 (cMay_ok h).1) c (List.mem_of_getElem? hc)
  unfold cellOk nMay at this
  simp only [Bool.and_eq_true, decide_eq_true_eq] at this
  simp only [Lit.wf, Bool.and_eq_true, decide_eq_true_eq, show IntKind.i64.min = -9223372036854775808 from rfl, show IntKind.i64.max = 9223372036854775807 from rfl]
  omega
theorem pair_find (C : CC2) {N : Nat} {w : World} {p : Value} {m : List PCell} {v : Value} {W : World} (h : ∃ S', Pair C.toCC N w p m v m S' W) (s q o : Int) (h1 : (Lit.int .i64 s).wf = true) (h2 : (Lit.int .i64 q).wf = true) (h3 : (Lit.int .i64 o).wf = true) :
    Calls Tryz.prog 30 #[p, nmV s q, .int .i64 o] W fun e W' => e = .returned (.tuple #[.int .i64 (cFind m s q o).1, .bool (cFind m s q o).2]) ∧ ∃ S', Pair C.toCC N w p m v m S' W' := by
  obtain ⟨S, h⟩ := h
  exact h.call (C.find s q o p m S W h.doc h1 h2 h3)
theorem pair_held {C : CC2} {N : Nat} {w : World} {p : Value} {m : List PCell} {W : World} {b off ml cp k : Nat} {c : PCell} (h : ∃ S', Pair C.toCC N w p m (.slice (some ⟨b, off, none⟩) ml cp) m S' W) (hm : m.length = ml) (hc : m[k]? = some c) :
    W.cell? ⟨b, off + k * 5, none⟩ = some (.int .i64 c.site) ∧ W.cell? ⟨b, off + k * 5 + 1, none⟩ = some (.int .i64 c.seq) ∧ W.cell? ⟨b, off + k * 5 + 2, none⟩ = some (.int .i64 c.off) ∧ ∃ S', Pair C.toCC N w p m (.slice (some ⟨b, off, none⟩) ml cp) m S' W := by
  obtain ⟨S, h⟩ := h
  obtain ⟨b', off', cp', hv, d0, d1, d2, _, _⟩ := h.list.at hc
  cases hv
  exact ⟨d0, d1, d2, S, h⟩
theorem ABox.below {B : Nat} {xs : List Int} {W W' : World} (h : ABox B xs W) (hb : Below W.heap.size W W') : ABox B xs W' := fun i x hx => cell_stays hb (h i x hx)
end Go.Proofs.YtfoglciiefoodaaGreatDoor

namespace Go.Proofs.YtfoglciiefoodaaGreatDoor
open Go.RowKit

set_option maxRecDepth 100000 in
set_option maxHeartbeats 8000000 in
theorem lawCellsPlaces_any (C : CC2) (v : Value) (l : List PCell) (u : Value) (xa : List PAct) (h0 h1 h2 h3 : Int) (w : World) (hT : TabW w) (h : CAt w v l) (hl : CWf l) (hA : ActsAt w u xa) (wf0 : (Lit.int .i64 h0).wf = true) (wf1 : (Lit.int .i64 h1).wf = true) (wf2 : (Lit.int .i64 h2).wf = true) :
    Calls Tryz.prog 4 #[v, u, .agg #[.int .i64 h0, .int .i64 h1, .int .i64 h2, .int .i64 h3]] w fun e w' => e = .returned (.bool true) ∧ Below w.heap.size w w' := by
  have hAl := fun W (hb : Below w.heap.size w W) => calive_any C.toCC W (hT.below hb)
  have hG := fun W (hb : Below w.heap.size w W) => cgreat_any v l u xa W (h.below hb) (hA.below hb)
  have hNy := fun W (hb : Below w.heap.size w W) q1 q2 => C.new_yes v l W (hT.below hb) (h.below hb) hl q1 q2
  have hNn := fun W (hb : Below w.heap.size w W) q1 q2 => C.new_no v l W (hT.below hb) (h.below hb) hl q1 q2
  have H := Lib.hid h
  have HA := Lib.hid hA
  have HT := Lib.hid hT
  obtain ⟨bo, cap, rfl, _, _⟩ := h.shape
  obtain ⟨ao, ac, rfl⟩ := hA.shape
  obtain ⟨L, hL⟩ : ∃ L, l.length = L := ⟨_, rfl⟩
  have HL := Lib.hid hL
  obtain ⟨M, hM'⟩ : ∃ M, xa.length = M := ⟨_, rfl⟩
  have HM := Lib.hid hM'
  rw [hL] at hG hNy hNn ⊢
  rw [hM'] at hG ⊢
  have HAl := Lib.hid hAl
  have HG := Lib.hid hG
  have HNy := Lib.hid hNy
  have HNn := Lib.hid hNn
  have Hb0 : RowKit.Hid (Below w.heap.size w (w.alloc (.cells #[.int .i64 h0, .int .i64 h1, .int .i64 h2, .int .i64 h3] 51))) := Lib.hid ((Below.refl _ w).alloc (Nat.le_refl _) _)
  clear hL hM' hAl hG hNy hNn h hA hT hl
  go_enter Tryz.func4, Tryz.ntmps4
  go_wp2_with fail
  refine (HAl.out _ Hb0.out).mono ?_
  clear HAl
  rintro e w1 ⟨rfl, hb1⟩
  have hbx1 := (ABox.new [h0, h1, h2, h3] w 51).below hb1
  have Hb1 := Lib.hid (Hb0.out.trans (hb1.mono Hb0.out.size))
  have hG := HG.out w1 Hb1.out
  clear HG hb1 Hb0
  go_wp2_with fail
  refine hG.mono ?_
  clear hG
  rintro e w2 ⟨rfl, hb2⟩
  have hbx2 := hbx1.below hb2
  have HBX := Lib.hid hbx2
  clear hbx1 hbx2
  have hb2 := Hb1.out.trans (hb2.mono Hb1.out.size)
  have Hb2 := Lib.hid hb2
  cases hgr : cGreat l xa with
  | true =>
    clear hgr
    go_wp2
    go_ret
    exact ⟨rfl, hb2⟩
  | false =>
    unfold cGreat at hgr
    rw [Bool.or_eq_false_iff, Bool.or_eq_false_iff, decide_eq_false_iff_not, decide_eq_false_iff_not, HL.out, HM.out] at hgr
    obtain ⟨g1, g2, g3⟩ := hgr
    have HG3 := Lib.hid g3
    by_cases hm0 : cMay l = 0
    case neg =>
      have hN := HNn.out w2 hb2 (by omega) hm0
      clear HNy HNn g3 hb2
      obtain ⟨E, hE⟩ : ∃ E, cMay l = E := ⟨_, rfl⟩
      rw [hE] at hN hm0
      have hnb : (E != 0) = true := by simpa using hm0
      clear hE
      go_wp2_with fail
      refine hN.mono ?_
      clear hN
      rintro e w3 ⟨rfl, hb3⟩
      have hb3 := Hb2.out.trans (hb3.mono Hb2.out.size)
      go_wp2
      go_ret
      exact ⟨rfl, hb3⟩
    case pos =>
      have hN := HNy.out w2 hb2 (by omega) hm0
      clear HNy HNn g3 hb2
      go_wp2_with fail
      refine hN.mono ?_
      clear hN
      rintro e w3 ⟨p, S, rfl, hD, hS, hb3⟩
      obtain ⟨B, rfl⟩ := C.ptr hD
      have hP : DOwn C.toCC w2.heap.size w2 (.pointer (some ⟨B, 0, none⟩)) l w3 := ⟨S, hD, hS, hb3, hb3.size⟩
      have HP := Lib.hid hP
      clear hb3 hP hD hS hm0
      go_wp2_with fail
      go_loopw [9] (fun i wr => ∃ (k : Nat) (m : List PCell), i = .int .i64 k ∧ k ≤ M ∧ RowKit.Hid (DOwn C.toCC w2.heap.size w2 (.pointer (some ⟨B, 0, none⟩)) m wr)) (fun i _ => M - (intOf i).toNat)
      case atStart => exact ⟨0, l, rfl, Nat.zero_le _, HP⟩
      case round =>
        obtain ⟨k, m, rfl, hk, hp⟩ := hrel
        clear HP
        rcases Nat.lt_or_ge k M with hlt | hge
        · obtain ⟨x, hx⟩ := getA_some (l := xa) (k := k) (by rw [HM.out]; omega)
          have hgx : aGreat x = false := by
            cases hq : aGreat x with
            | false => rfl
            | true => have := HG3.out; rw [List.any_eq_true.2 ⟨x, List.mem_of_getElem? hx, hq⟩] at this; cases this
          have hw := (HA.out.mem hx).2
          have hsp := (HA.out.mem hx).1
          have hup := Hb2.out.trans (hp.out.up.mono Hb2.out.size)
          obtain ⟨b, off, cp, hv, c0, c1, c2, c3, c4, c5, c6, c7⟩ := (HA.out.below hup).at hx
          rw [HM.out] at hv
          cases hv
          have hi0 : (0 : Int) ≤ (k : Int) ∧ (k : Int) < (M : Int) := ⟨by omega, by omega⟩
          have hdo := hp.out.call fun S h => cdo_any C.toCC x hw hgx _ m S _ h (HT.out.below hup) (hsp.below hup)
          obtain ⟨sa, sc, hsv, _⟩ := id hsp
          unfold PAct.val at hdo
          rw [hsv] at hdo c7
          have HDO := Lib.hid hdo
          clear hdo hsv hx hgx hw hsp hup hp
          go_wp2_with fail
          refine HDO.out.mono ?_
          rintro e w5 ⟨rfl, h5⟩
          have HN := Lib.hid h5
          clear h5 HDO c0 c1 c2 c3 c4 c5 c6 c7
          go_wp2
          exact ⟨⟨k + 1, _, by go_num, by omega, HN⟩, by simp [intOf]; omega⟩
        · have hk2 : k = M := by omega
          obtain ⟨S, hD, hS, hup, hsz⟩ := hp.out
          have c1 := C.cells _ m S _ hD
          have HS := Lib.hid hS
          have HU := Lib.hid hup
          clear hS hup hD hp
          go_wp2_with fail
          refine c1.mono ?_
          clear c1
          rintro e w4 ⟨v4, S4, rfl, hk4, hc4, hf4⟩
          obtain ⟨q1, q2⟩ := hk4.up HS.out hsz
          have hP : Pair C.toCC w2.heap.size w2 (.pointer (some ⟨B, 0, none⟩)) m v4 m S4 w4 := ⟨hk4.1, q1, HU.out.trans q2, Nat.le_trans hsz q2.size, hc4, fun g hg => (hf4 g hg).2⟩
          have bx := HBX.out.below hP.up
          have b0 := bx 0 h0 rfl
          have b1 := bx 1 h1 rfl
          have b2 := bx 2 h2 rfl
          have b3 := bx 3 h3 rfl
          have HBx := Lib.hid bx
          obtain ⟨va, vc, rfl, _, _⟩ := hc4.shape
          obtain ⟨ml, hml⟩ : ∃ ml, m.length = ml := ⟨_, rfl⟩
          have Hml := Lib.hid hml
          have hle := hP.le
          have hmay := C.may hP.doc
          have Hmay := Lib.hid hmay
          have HP := Lib.hid hP
          rw [hml] at HP hle ⊢
          clear hk2 hk hge hk4 q1 q2 hc4 hf4 hP bx hml HS HU hmay
          go_wp2_with fail
          go_quiet (fail)
          clear b0 b1 b2 b3
          have hPq := HP.out.below (below_draws (Below.refl _ _) nq)
          have hBq := HBx.out.below (below_draws (Below.refl _ w4) nq)
          generalize w4.drewN nq = wq at *
          have HBq := Lib.hid hBq
          obtain ⟨G, hG⟩ : ∃ G, cGap m h0 = G := ⟨_, rfl⟩
          have HGG := Lib.hid hG
          have k4 := hPq.call (C.gap h0 _ m S4 wq hPq.doc wf0)
          have Hk4 := Lib.hid k4
          rw [hG] at Hk4
          clear hPq hBq k4 HP HBx hG
          obtain ⟨g, f, hgf, hg0, hg1⟩ : ∃ g f : Int, (if G < 0 then Value.tuple #[.int .i64 0, .int .i64 3] else Value.tuple #[.int .i64 G, .int .i64 0]) = .tuple #[.int .i64 g, .int .i64 f] ∧ (G < 0 → g = 0 ∧ f = 3) ∧ (¬ G < 0 → g = G ∧ f = 0) := by
            by_cases hn : G < 0
            · exact ⟨0, 3, if_pos hn, fun _ => ⟨rfl, rfl⟩, fun h => absurd hn h⟩
            · exact ⟨G, 0, if_neg hn, fun h => absurd h hn, fun _ => ⟨rfl, rfl⟩⟩
          have k4 := Hk4.out
          rw [hgf] at k4
          have HG0 := Lib.hid hg0
          have HG1 := Lib.hid hg1
          clear hgf hg0 hg1 Hk4
          go_wp2_with fail
          refine k4.mono ?_
          clear k4
          rintro e w5 ⟨rfl, S5, hP5⟩
          have k5 := rGap_any _ m h0 w5 hP5.list (by rw [Hml.out]; omega)
          rw [HGG.out] at k5
          have HP5 := Lib.hid hP5
          clear hP5
          have h5 : ∃ S, Pair C.toCC w2.heap.size w2 (.pointer (some ⟨B, 0, none⟩)) m (.slice va ml vc) m S w5 := ⟨_, HP5.out⟩
          have H5 := Lib.hid h5
          clear h5
          go_upto_region 16 with (go_at_call 25; refine k5.mono ?_; clear k5; rintro e w6 ⟨rfl, hw6⟩; subst w6)
          go_cut [97] (fun b W => b = .bool false ∧ W = w5)
          case first => as_aux_lemma =>
            by_cases hn : G < 0
            · obtain ⟨rfl, rfl⟩ := HG0.out hn
              go_wp2_with fail
              go_meet
              exact ⟨rfl, rfl⟩
            · obtain ⟨rfl, rfl⟩ := HG1.out (by omega)
              go_wp2_with fail
              go_meet
              exact ⟨rfl, rfl⟩
          case rest =>
            obtain ⟨rfl, rfl⟩ := hcut
            clear HG0 HG1 HP5 HGG
            obtain ⟨S5, hP5⟩ := H5.out
            have k6 := hP5.call (C.seen h2 _ m S5 _ hP5.doc wf2)
            rw [Hml.out] at k6
            obtain ⟨sv, sf, hgf, hg0, hg1⟩ : ∃ g f : Int, (if 0 ≤ h2 ∧ h2 ≤ (ml : Int) then Value.tuple #[.int .i64 (cSeen m h2.toNat), .int .i64 0] else Value.tuple #[.int .i64 0, .int .i64 3]) = .tuple #[.int .i64 g, .int .i64 f] ∧ (0 ≤ h2 ∧ h2 ≤ (ml : Int) → g = cSeen m h2.toNat ∧ f = 0) ∧ (¬ (0 ≤ h2 ∧ h2 ≤ (ml : Int)) → g = 0 ∧ f = 3) := by
              by_cases hn : 0 ≤ h2 ∧ h2 ≤ (ml : Int)
              · exact ⟨_, 0, if_pos hn, fun _ => ⟨rfl, rfl⟩, fun h => absurd hn h⟩
              · exact ⟨0, 3, if_neg hn, fun h => absurd h hn, fun _ => ⟨rfl, rfl⟩⟩
            rw [hgf] at k6
            have HG0 := Lib.hid hg0
            have HG1 := Lib.hid hg1
            clear hgf hg0 hg1 hP5
            go_wp2_with fail
            refine k6.mono ?_
            clear k6
            rintro e w7 ⟨rfl, S7, hP7⟩
            have HP7 := Lib.hid hP7
            clear hP7
            obtain ⟨inb, hinb⟩ : ∃ b, decide (0 ≤ h2 ∧ h2 ≤ (ml : Int)) = b := ⟨_, rfl⟩
            have Hinb := Lib.hid hinb
            clear hinb
            go_upto_region 19 with fail
            go_cut [111] (fun b W => b = .bool (!inb) ∧ W = w7)
            case first => as_aux_lemma =>
              by_cases hp0 : h2 < 0
              · have hi : inb = false := by rw [← Hinb.out]; exact decide_eq_false (by omega)
                subst hi
                go_wp2_with fail
                go_meet
                exact ⟨rfl, rfl⟩
              · by_cases hp1 : (ml : Int) < h2
                · have hi : inb = false := by rw [← Hinb.out]; exact decide_eq_false (by omega)
                  subst hi
                  go_wp2_with fail
                  go_meet
                  exact ⟨rfl, rfl⟩
                · have hi : inb = true := by rw [← Hinb.out]; exact decide_eq_true (by omega)
                  subst hi
                  go_wp2_with fail
                  go_meet
                  exact ⟨rfl, rfl⟩
            case rest =>
              obtain ⟨rfl, rfl⟩ := hcut
              rename_i hKK
              refine hKK _ _ ?_
              clear hKK
              have H7 := Lib.hid (show ∃ S, Pair C.toCC w2.heap.size w2 (.pointer (some ⟨B, 0, none⟩)) m (.slice va ml vc) m S wc from ⟨_, HP7.out⟩)
              go_cut [] (fun W => W = wc)
              case first => as_aux_lemma =>
                cases inb
                · have hq := of_decide_eq_false Hinb.out
                  obtain ⟨rfl, rfl⟩ := HG1.out (by omega)
                  clear hq
                  go_wp2_with fail
                  go_meet
                  rfl
                · have hq := of_decide_eq_true Hinb.out
                  obtain ⟨hsv, rfl⟩ := HG0.out (by omega)
                  have k7 := rSeen_any _ m h2.toNat wc HP7.out.list (by rw [Hml.out]; omega) (by rw [Hml.out]; omega)
                  rw [show ((h2.toNat : Nat) : Int) = h2 by omega, ← hsv] at k7
                  clear hq hsv
                  go_wp2_with fail
                  refine k7.mono ?_
                  clear k7
                  rintro e w8 ⟨rfl, hw8⟩
                  subst w8
                  go_wp2_with fail
                  go_meet
                  rfl
              case rest => as_aux_lemma =>
                clear HG0 HG1 HP7 Hinb
                obtain rfl := hcut
                obtain ⟨S7, hP7⟩ := H7.out
                have k8 := C.run h0 h1 _ m S7 _ hP7.doc wf0 wf1
                obtain ⟨X, hX⟩ : ∃ X, (if cRunOk m h0 h1 then cRun m h0 h1 else []) = X := ⟨_, rfl⟩
                have hXl : X.length ≤ 20000 := by
                  rw [← hX]
                  split
                  · exact sMade_length _ _
                  · exact Nat.zero_le _
                have HXX := Lib.hid hX
                rw [hX] at k8
                obtain ⟨rb, hrb⟩ : ∃ rb, cRunOk m h0 h1 = rb := ⟨_, rfl⟩
                have Hrb := Lib.hid hrb
                rw [hrb] at k8
                obtain ⟨rf, hrf⟩ : ∃ rf : Int, (if rb = true then 0 else 3) = rf := ⟨_, rfl⟩
                rw [hrf] at k8
                have Hrf := Lib.hid hrf
                have HP7 := Lib.hid hP7
                clear hX hrb hrf hP7 H7
                go_wp2_with fail
                refine k8.mono ?_
                clear k8
                rintro e w8 ⟨v8, S8, rfl, hk8, hs8, _⟩
                have hP8 := HP7.out.next hk8
                have k9 := rRunS_any _ m h0 h1 w8 hP8.list hP8.le
                obtain ⟨ya8, yc8, rfl, _⟩ := id hs8
                obtain ⟨xl, hxl⟩ : ∃ xl, X.length = xl := ⟨_, rfl⟩
                have Hxl := Lib.hid hxl
                rw [hxl] at hXl ⊢
                have HP8 := Lib.hid hP8
                have Hs8 := Lib.hid hs8
                clear HP7 hk8 hP8 hs8 hxl
                go_wp2_with fail
                refine k9.mono ?_
                clear k9
                rintro e w9 ⟨v9, rfl, hs9, hb9⟩
                rw [HXX.out] at hs9
                rw [Hrb.out]
                have hP9 := HP8.out.below hb9
                have k10 := hP9.pure (rSpSame_any _ _ X X w9 (Hs8.out.below hb9) hs9 (by rw [Hxl.out]; omega))
                rw [decide_eq_true rfl] at k10
                obtain ⟨ya9, yc9, rfl, _⟩ := id hs9
                rw [Hxl.out] at k10 ⊢
                clear HP8 Hs8 hs9 hb9 hP9 HXX Hrb
                go_upto_region 26 with fail
                go_cut [158] (fun b W => b = .bool false ∧ ∃ S, Pair C.toCC w2.heap.size w2 (.pointer (some ⟨B, 0, none⟩)) m (.slice va ml vc) m S W)
                case first => as_aux_lemma =>
                  cases rb
                  all_goals
                    have hrf := Hrf.out
                    first | (rw [if_pos rfl] at hrf) | (rw [if_neg (by decide)] at hrf)
                    subst hrf
                    go_wp2_with fail
                    refine k10.mono ?_
                    rintro e w10 ⟨rfl, hP10⟩
                    have HP10 := Lib.hid (show ∃ S, Pair C.toCC w2.heap.size w2 (.pointer (some ⟨B, 0, none⟩)) m (.slice va ml vc) m S w10 from ⟨_, hP10⟩)
                    clear hP10
                    go_wp2_with fail
                    go_meet
                    exact ⟨rfl, HP10.out⟩
                case rest => as_aux_lemma =>
                  obtain ⟨rfl, hcut2⟩ := hcut
                  have HP10 := Lib.hid hcut2
                  clear hcut2 k10 Hrf
                  by_cases hz : ml = 0
                  · have hm : cFind m 1 1 0 = (0, false) := by rw [List.eq_nil_of_length_eq_zero (Hml.out.trans hz)]; rfl
                    obtain ⟨S10, hP10⟩ := HP10.out
                    have k11 := hP10.call (C.find 1 1 0 _ m S10 wc hP10.doc (by decide) (by decide) (by decide))
                    rw [hm] at k11
                    unfold nmV at k11
                    subst hz
                    clear hm HP10 hP10
                    go_wp2_with fail
                    refine k11.mono ?_
                    clear k11
                    rintro e w11 ⟨rfl, S11, hP11⟩
                    have hz1 := Hb2.out.trans (hP11.up.mono Hb2.out.size)
                    clear hP11
                    go_wp2
                    go_ret
                    exact ⟨rfl, hz1⟩
                  · as_aux_lemma =>
                      obtain ⟨S10, hP10⟩ := HP10.out
                      have b3 := (HBX.out.below hP10.up) 3 h3 rfl
                      obtain ⟨t, ht⟩ : ∃ t, h3.tmod (ml : Int) = t := ⟨_, rfl⟩
                      have htb : -(ml : Int) < t ∧ t < ml := by rw [← ht]; exact ⟨Int.lt_tmod_of_pos _ (by omega), Int.tmod_lt_of_pos _ (by omega)⟩
                      obtain ⟨kk, hkl, hkc⟩ : ∃ kk : Nat, kk < ml ∧ ((t = kk ∧ ¬ t < 0) ∨ (t = -(kk : Int) ∧ t < 0)) := ⟨t.natAbs, by omega, by omega⟩
                      obtain ⟨c, hc⟩ := getC_some (l := m) (k := kk) (by rw [Hml.out]; exact hkl)
                      have hf1 := find_at Hmay.out hc
                      have hf2 := find_out Hmay.out c.site c.seq 200 (by decide)
                      obtain ⟨w1', w2', w3'⟩ := cell_wf Hmay.out hc
                      obtain ⟨b, off, cp, hv, d0, d1, d2, d3, d4⟩ := hP10.list.at hc
                      rw [Hml.out] at hv
                      cases hv
                      have hi0 : (0 : Int) ≤ (kk : Int) ∧ (kk : Int) < (ml : Int) := ⟨by omega, by omega⟩
                      have kF := fun W (h : ∃ S', Pair C.toCC w2.heap.size w2 (.pointer (some ⟨B, 0, none⟩)) m (.slice (some ⟨b, off, none⟩) ml vc) m S' W) => pair_find C h c.site c.seq c.off w1' w2' w3'
                      have kG := fun W (h : ∃ S', Pair C.toCC w2.heap.size w2 (.pointer (some ⟨B, 0, none⟩)) m (.slice (some ⟨b, off, none⟩) ml vc) m S' W) => pair_find C h c.site c.seq 200 w1' w2' (by decide)
                      rw [hf1] at kF
                      rw [hf2] at kG
                      unfold nmV at kF kG
                      have hS0 : wc.drew.cell? ⟨b, off + kk * 5, none⟩ = some (.int .i64 c.site) ∧ wc.drew.cell? ⟨b, off + kk * 5 + 1, none⟩ = some (.int .i64 c.seq) ∧ wc.drew.cell? ⟨b, off + kk * 5 + 2, none⟩ = some (.int .i64 c.off) ∧ ∃ S', Pair C.toCC w2.heap.size w2 (.pointer (some ⟨B, 0, none⟩)) m (.slice (some ⟨b, off, none⟩) ml vc) m S' wc.drew := ⟨d0, d1, d2, _, hP10.below (Below.refl _ _).drew⟩
                      have Hc := Lib.hid hc
                      clear hf1 hf2 hc w1' w2' w3' htb hP10 HP10 d3 d4
                      rcases hkc with ⟨rfl, hneg⟩ | ⟨rfl, hneg⟩
                      all_goals
                        go_wp2_with fail
                        go_region_held (fun W => W.cell? ⟨b, off + kk * 5, none⟩ = some (.int .i64 c.site) ∧ W.cell? ⟨b, off + kk * 5 + 1, none⟩ = some (.int .i64 c.seq) ∧ W.cell? ⟨b, off + kk * 5 + 2, none⟩ = some (.int .i64 c.off) ∧ ∃ S', Pair C.toCC w2.heap.size w2 (.pointer (some ⟨B, 0, none⟩)) m (.slice (some ⟨b, off, none⟩) ml vc) m S' W)
                          (first | exact hS0 | assumption | exact pair_held hq Hml.out Hc.out)
                          (first | (go_at_call 30; (first | (with_reducible refine (kF _ ?hB).mono ?_) | (with_reducible refine (kG _ ?hB).mono ?_)); (case hB => first | exact hS0.2.2.2 | exact And.right (And.right (And.right (by assumption)))); rintro e wq ⟨rfl, hq⟩))
                        rename_i hHeld
                        have hS1 := hHeld
                        clear hHeld hS0
                        obtain ⟨d0, d1, d2, hP11⟩ := id hS1
                        have HP11 := Lib.hid hP11
                        clear hP11 hS1
                        go_wp2_with fail
                        obtain ⟨S11, hP11⟩ := HP11.out
                        have k12 := kG _ ⟨S11, hP11⟩
                        clear hP11 HP11 kF kG
                        go_wp2_with fail
                        refine k12.mono ?_
                        clear k12
                        rintro e w12 ⟨rfl, S12, hP12⟩
                        have hz1 := Hb2.out.trans (hP12.up.mono Hb2.out.size)
                        clear hP12
                        go_wp2
                        go_ret
                        exact ⟨rfl, hz1⟩
end Go.Proofs.YtfoglciiefoodaaGreatDoor
