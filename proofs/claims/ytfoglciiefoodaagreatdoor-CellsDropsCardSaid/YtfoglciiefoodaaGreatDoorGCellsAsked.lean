/- Texts of this proof, joined. -/
import Derived.Test.YtfoglciiefoodaaGreatDoorGReads64
import Derived.Test.YtfoglciiefoodaaGreatDoorGTabW
import Derived.Test.YtfoglciiefoodaaGreatDoorGNameEq
import Derived.Test.YtfoglciiefoodaaGreatDoorGRefSplit
import Derived.Test.YtfoglciiefoodaaGreatDoorGRefOps
namespace Go.Proofs.YtfoglciiefoodaaGreatDoor
open Go.RowKit

def CWf (l : List PCell) : Prop := ∀ c ∈ l, (Lit.int .i64 c.site).wf = true ∧ (Lit.int .i64 c.seq).wf = true ∧ (Lit.int .i64 c.off).wf = true ∧ (Lit.int .i32 c.r).wf = true
def DKept (D : World → Value → List PCell → (Nat → Prop) → Prop) (p : Value) (l : List PCell) (S : Nat → Prop) (w w' : World) (S' : Nat → Prop) : Prop :=
  D w' p l S' ∧ (∀ b, S' b → S b ∨ w.heap.size ≤ b) ∧ Keep S w.heap.size w w'
def DVal (D : World → Value → List PCell → (Nat → Prop) → Prop) (p : Value) (l : List PCell) (S : Nat → Prop) (x : Value) (w : World) (e : Ending) (w' : World) : Prop := ∃ S', DKept D p l S w w' S' ∧ e = .returned x
structure CC where
  D : World → Value → List PCell → (Nat → Prop) → Prop
  keep : ∀ {w w' : World} {p : Value} {l : List PCell} {S : Nat → Prop}, D w p l S → (∀ b, S b → w'.heap[b]? = w.heap[b]?) → w.heap.size ≤ w'.heap.size → D w' p l S
  low : ∀ {w : World} {p : Value} {l : List PCell} {S : Nat → Prop}, D w p l S → ∀ b, S b → b < w.heap.size
  ptr : ∀ {w : World} {p : Value} {l : List PCell} {S : Nat → Prop}, D w p l S → ∃ B, p = .pointer (some ⟨B, 0, none⟩)
  may : ∀ {w : World} {p : Value} {l : List PCell} {S : Nat → Prop}, D w p l S → cMay l = 0
  new_yes : ∀ (v : Value) (l : List PCell) (w : World), TabW w → CAt w v l → CWf l → l.length ≤ 20000 → cMay l = 0 →
    Calls Tryz.prog 9 #[v] w fun e w' => ∃ p S, e = .returned (.tuple #[p, .int .i64 0]) ∧ D w' p l S ∧ (∀ b, S b → w.heap.size ≤ b) ∧ Below w.heap.size w w'
  new_no : ∀ (v : Value) (l : List PCell) (w : World), TabW w → CAt w v l → CWf l → l.length ≤ 20000 → cMay l ≠ 0 →
    Calls Tryz.prog 9 #[v] w fun e w' => e = .returned (.tuple #[.pointer none, .int .i64 (cMay l)]) ∧ Below w.heap.size w w'
  doOp : ∀ (s q n k a : Int) (t : ByteArray) (sp : Value) (xs : List Sp) (p : Value) (l : List PCell) (S : Nat → Prop) (w : World), D w p l S → TabW w → SpAt w sp xs → NWf s q n k a → t.size ≤ 1000 → xs.length ≤ 20000 → sWf xs →
    Calls Tryz.prog 32 #[p, opV s q n k a t sp] w (DVal D p (cDo l ⟨s, q, n, k, a, t.data.toList, xs⟩).1 S (.int .i64 (cDo l ⟨s, q, n, k, a, t.data.toList, xs⟩).2) w)
  drop : ∀ (sp : Value) (xs : List Sp) (p : Value) (l : List PCell) (S : Nat → Prop) (w : World), D w p l S → SpAt w sp xs → sWf xs → xs.length ≤ 20000 →
    Calls Tryz.prog 34 #[p, sp] w (DVal D p (cDrop l xs).1 S (.int .i64 (cDrop l xs).2) w)
  size : ∀ (p : Value) (l : List PCell) (S : Nat → Prop) (w : World), D w p l S → Calls Tryz.prog 15 #[p] w (DVal D p l S (.int .i64 l.length) w)
  live : ∀ (p : Value) (l : List PCell) (S : Nat → Prop) (w : World), D w p l S → Calls Tryz.prog 16 #[p] w (DVal D p l S (.int .i64 (cLive l)) w)
  text : ∀ (p : Value) (l : List PCell) (S : Nat → Prop) (w : World), D w p l S → Calls Tryz.prog 18 #[p] w (DVal D p l S (.string (cText l)) w)
  cells : ∀ (p : Value) (l : List PCell) (S : Nat → Prop) (w : World), D w p l S → Calls Tryz.prog 21 #[p] w fun e w' => ∃ v S', e = .returned v ∧ DKept D p l S w w' S' ∧ CAt w' v l ∧ ∀ g, v.ownBlock = some g → w.heap.size ≤ g ∧ ¬ S' g
  gone : ∀ (p : Value) (l : List PCell) (S : Nat → Prop) (w : World), D w p l S → Calls Tryz.prog 23 #[p] w fun e w' => ∃ v S', e = .returned v ∧ DKept D p l S w w' S' ∧ SpAt w' v (cGone l)
  gap : ∀ (i : Int) (p : Value) (l : List PCell) (S : Nat → Prop) (w : World), D w p l S → (Lit.int .i64 i).wf = true →
    Calls Tryz.prog 24 #[p, .int .i64 i] w (DVal D p l S (if cGap l i < 0 then .tuple #[.int .i64 0, .int .i64 3] else .tuple #[.int .i64 (cGap l i), .int .i64 0]) w)
end Go.Proofs.YtfoglciiefoodaaGreatDoor

namespace Go.Proofs.YtfoglciiefoodaaGreatDoor
open Go.RowKit

structure PAct where
  kd : Int
  site : Int
  seq : Int
  num : Int
  kind : Int
  pl : Int
  text : ByteArray
  sp : Value
  xs : List Sp
def PAct.op (x : PAct) : POp := ⟨x.site, x.seq, x.num, x.kind, x.pl, x.text.data.toList, x.xs⟩
def PAct.vals (x : PAct) : List Value := [.int .u8 x.kd, .int .i64 x.site, .int .i64 x.seq, .int .i64 x.num, .int .i64 x.kind, .int .i64 x.pl, .string x.text, x.sp]
def PAct.val (x : PAct) : Value := .agg #[.int .u8 x.kd, .int .i64 x.site, .int .i64 x.seq, .int .i64 x.num, .int .i64 x.kind, .int .i64 x.pl, .string x.text, x.sp]
def aCells : List PAct → List Value
  | [] => []
  | c :: r => c.vals ++ aCells r
theorem aCells_length : ∀ l, (aCells l).length = l.length * 8
  | [] => rfl
  | c :: r => by
    show (c.vals ++ aCells r).length = (r.length + 1) * 8
    rw [List.length_append, aCells_length r, show c.vals.length = 8 from rfl]
    omega
theorem aCells_at : ∀ (l : List PAct) (i j : Nat) (c : PAct), l[i]? = some c → j < 8 → (aCells l)[i * 8 + j]? = c.vals[j]?
  | [], i, _, _, h, _ => by simp at h
  | d :: r, 0, j, c, h, hj => by
    obtain rfl : d = c := by simpa using h
    show (d.vals ++ aCells r)[0 * 8 + j]? = _
    rw [List.getElem?_append_left (by show 0 * 8 + j < 8; omega), show 0 * 8 + j = j by omega]
  | d :: r, i + 1, j, c, h, hj => by
    show (d.vals ++ aCells r)[(i + 1) * 8 + j]? = _
    rw [List.getElem?_append_right (by show 8 ≤ (i + 1) * 8 + j; omega), show (i + 1) * 8 + j - d.vals.length = i * 8 + j by show (i + 1) * 8 + j - 8 = _; omega]
    exact aCells_at r i j c (by simpa using h) hj
structure PAct.Wf (x : PAct) : Prop where
  kd : (Lit.int .u8 x.kd).wf = true
  s : (Lit.int .i64 x.site).wf = true
  q : (Lit.int .i64 x.seq).wf = true
  n : (Lit.int .i64 x.num).wf = true
  k : (Lit.int .i64 x.kind).wf = true
  a : (Lit.int .i64 x.pl).wf = true
  w : sWf x.xs
def ActsAt (W : World) (v : Value) (l : List PAct) : Prop := RowR 8 W v l.length (aCells l) ∧ ∀ x ∈ l, SpAt W x.sp x.xs ∧ x.Wf
theorem ActsAt.below {W W' : World} {v : Value} {l : List PAct} (h : ActsAt W v l) (hb : Below W.heap.size W W') : ActsAt W' v l := ⟨h.1.below hb, fun x hx => ⟨(h.2 x hx).1.below hb, (h.2 x hx).2⟩⟩
theorem ActsAt.shape {W : World} {v : Value} {l : List PAct} (h : ActsAt W v l) : ∃ ao cap, v = .slice ao l.length cap := by
  obtain ⟨⟨_, ao, cap, e, _⟩, _⟩ := h
  exact ⟨ao, cap, e⟩
theorem ActsAt.at {W : World} {v : Value} {l : List PAct} (h : ActsAt W v l) {i : Nat} {x : PAct} (hi : l[i]? = some x) : ∃ b off cap, v = .slice (some ⟨b, off, none⟩) l.length cap ∧
    W.cell? ⟨b, off + i * 8, none⟩ = some (.int .u8 x.kd) ∧ W.cell? ⟨b, off + i * 8 + 1, none⟩ = some (.int .i64 x.site) ∧ W.cell? ⟨b, off + i * 8 + 2, none⟩ = some (.int .i64 x.seq) ∧
    W.cell? ⟨b, off + i * 8 + 3, none⟩ = some (.int .i64 x.num) ∧ W.cell? ⟨b, off + i * 8 + 4, none⟩ = some (.int .i64 x.kind) ∧ W.cell? ⟨b, off + i * 8 + 5, none⟩ = some (.int .i64 x.pl) ∧
    W.cell? ⟨b, off + i * 8 + 6, none⟩ = some (.string x.text) ∧ W.cell? ⟨b, off + i * 8 + 7, none⟩ = some x.sp := by
  obtain ⟨⟨_, ao, cap, rfl, h2⟩, _⟩ := h
  have hl := (List.getElem?_eq_some_iff.1 hi).1
  obtain ⟨b, off, rfl, hc⟩ := h2 (by omega)
  have e : ∀ j, j < 8 → W.cell? ⟨b, off + i * 8 + j, none⟩ = x.vals[j]? := fun j hj => by
    have q := aCells_at l i j x hi hj
    have hlt : j < x.vals.length := hj
    rw [List.getElem?_eq_getElem hlt] at q ⊢
    rw [Nat.add_assoc]
    exact hc _ _ q
  exact ⟨b, off, cap, rfl, e 0 (by decide), e 1 (by decide), e 2 (by decide), e 3 (by decide), e 4 (by decide), e 5 (by decide), e 6 (by decide), e 7 (by decide)⟩
theorem ActsAt.mem {W : World} {v : Value} {l : List PAct} (h : ActsAt W v l) {i : Nat} {x : PAct} (hi : l[i]? = some x) : SpAt W x.sp x.xs ∧ x.Wf := h.2 x (List.mem_of_getElem? hi)
def aGreat (x : PAct) : Bool := decide ((40 : Int) < x.xs.length) || decide ((1000 : Int) < x.text.size)
def cGreat (l : List PCell) (xa : List PAct) : Bool := decide (250 < l.length) || (decide (25 < xa.length) || xa.any aGreat)
theorem aGreat_next {l : List PAct} {k : Nat} {x : PAct} (h : l[k]? = some x) : (l.take (k + 1)).any aGreat = ((l.take k).any aGreat || aGreat x) := by
  rw [List.take_add_one, h, List.any_append]
  simp
theorem getA_some {l : List PAct} {k : Nat} (h : k < l.length) : ∃ c, l[k]? = some c := ⟨l[k], List.getElem?_eq_getElem h⟩
set_option maxRecDepth 100000 in
set_option maxHeartbeats 2000000 in
theorem cgreat1_any (s q n k a : Int) (t : ByteArray) (x : Nat) (ao : Option Addr) (cap : Nat) (w : World) :
    Calls Tryz.prog 35 #[opV s q n k a t (.slice ao x cap)] w fun e w' => e = .returned (.bool (decide ((40 : Int) < x) || decide ((1000 : Int) < t.size))) ∧ Below w.heap.size w w' := by
  have hbx := OBox.new s q n k a t (.slice ao x cap) w 35
  have hB := hbx.2.2.2.2.2.2.2
  unfold opV
  go_enter Tryz.func35, Tryz.ntmps35
  go_wp2
  all_goals
    go_ret
    exact ⟨rfl, hB⟩
set_option maxRecDepth 100000 in
set_option maxHeartbeats 4000000 in
theorem cgreat_any (v : Value) (l : List PCell) (u : Value) (xa : List PAct) (w : World) (h : CAt w v l) (hA : ActsAt w u xa) :
    Calls Tryz.prog 8 #[v, u] w fun e w' => e = .returned (.bool (cGreat l xa)) ∧ Below w.heap.size w w' := by
  have HA := Lib.hid hA
  obtain ⟨bo, cap, rfl, h1, h2⟩ := h.shape
  obtain ⟨ao, ac, rfl⟩ := hA.shape
  unfold cGreat
  obtain ⟨L, hL⟩ : ∃ L, l.length = L := ⟨_, rfl⟩
  obtain ⟨M, hM⟩ : ∃ M, xa.length = M := ⟨_, rfl⟩
  have HM := Lib.hid hM
  rw [hL, hM]
  clear hL hM h h1 hA
  by_cases b0 : 250 < L
  · rw [decide_eq_true b0, Bool.true_or]
    have b1 : (250 : Int) < (L : Int) := by omega
    go_enter Tryz.func8, Tryz.ntmps8
    go_wp2
    go_ret
    exact ⟨rfl, Below.refl _ _⟩
  rw [decide_eq_false b0, Bool.false_or]
  have b1 : ¬ (250 : Int) < (L : Int) := by omega
  clear b0
  by_cases b2 : 25 < M
  · rw [decide_eq_true b2, Bool.true_or]
    have b3 : (25 : Int) < (M : Int) := by omega
    go_enter Tryz.func8, Tryz.ntmps8
    go_wp2
    go_ret
    exact ⟨rfl, Below.refl _ _⟩
  rw [decide_eq_false b2, Bool.false_or]
  have b3 : ¬ (25 : Int) < (M : Int) := by omega
  clear b2
  go_enter Tryz.func8, Tryz.ntmps8
  go_wp2
  go_loopw [5] (fun i wr => ∃ k : Nat, i = .int .i64 k ∧ k ≤ M ∧ RowKit.Hid ((xa.take k).any aGreat = false) ∧ RowKit.Hid (Below w.heap.size w wr)) (fun i _ => M - (intOf i).toNat)
  case atStart => exact ⟨0, rfl, Nat.zero_le _, Lib.hid rfl, Lib.hid (Below.refl _ _)⟩
  case round =>
    obtain ⟨k, rfl, hk, hg, hb⟩ := hrel
    rcases Nat.lt_or_ge k M with hlt | hge
    · obtain ⟨x, hx⟩ := getA_some (l := xa) (k := k) (by rw [HM.out]; omega)
      obtain ⟨b, off, cp, hv, c0, c1, c2, c3, c4, c5, c6, c7⟩ := (HA.out.below hb.out).at hx
      rw [HM.out] at hv
      cases hv
      have hi0 : (0 : Int) ≤ (k : Int) ∧ (k : Int) < (M : Int) := ⟨by omega, by omega⟩
      obtain ⟨sa, sc, hsp, _⟩ := (HA.out.mem hx).1
      rw [hsp] at c7
      have hG := fun W => cgreat1_any x.site x.seq x.num x.kind x.pl x.text x.xs.length sa sc W
      unfold opV at hG
      have hgr : (decide ((40 : Int) < x.xs.length) || decide ((1000 : Int) < x.text.size)) = aGreat x := rfl
      rw [hgr] at hG
      have Hx := Lib.hid hx
      clear hx hgr hsp c0
      cases hq : aGreat x with
      | true =>
        rw [hq] at hG
        have HV := Lib.hid (show xa.any aGreat = true from List.any_eq_true.2 ⟨x, List.mem_of_getElem? Hx.out, hq⟩)
        clear hq
        go_wp2_with fail
        refine (hG _).mono ?_
        clear hG
        rintro e w1 ⟨rfl, hb1⟩
        have hz := hb.out.trans (hb1.mono hb.out.size)
        go_wp2
        go_ret
        exact ⟨ret_bool HV.out.symm, hz⟩
      | false =>
        rw [hq] at hG
        have HN := Lib.hid (show (xa.take (k + 1)).any aGreat = false by rw [aGreat_next Hx.out, hg.out, hq]; rfl)
        clear hq
        go_wp2_with fail
        refine (hG _).mono ?_
        clear hG
        rintro e w1 ⟨rfl, hb1⟩
        have hz := Lib.hid (hb.out.trans (hb1.mono hb.out.size))
        go_wp2
        exact ⟨⟨k + 1, by go_num, by omega, HN, hz⟩, by simp [intOf]; omega⟩
    · have hk2 : k = M := by omega
      subst hk2
      have hV := hg.out
      rw [List.take_of_length_le (by rw [HM.out]; exact Nat.le_refl _)] at hV
      have HV := Lib.hid hV
      have hz := hb.out
      clear hV
      go_wp2
      go_ret
      exact ⟨ret_bool HV.out.symm, hz⟩
end Go.Proofs.YtfoglciiefoodaaGreatDoor

namespace Go.Proofs.YtfoglciiefoodaaGreatDoor
open Go.RowKit

def cFind (l : List PCell) (s q off : Int) : Int × Bool := match l.findIdx? fun c => decide (c.site = s ∧ c.seq = q ∧ c.off = off) with
  | some i => (i, true)
  | none => (0, false)
def Nothing (x : Value) (w : World) (e : Ending) (w' : World) : Prop := e = .returned x ∧ Below w.heap.size w w'
structure CC2 extends CC where
  seen : ∀ (i : Int) (p : Value) (l : List PCell) (S : Nat → Prop) (w : World), D w p l S → (Lit.int .i64 i).wf = true →
    Calls Tryz.prog 26 #[p, .int .i64 i] w (DVal D p l S (if 0 ≤ i ∧ i ≤ l.length then .tuple #[.int .i64 (cSeen l i.toNat), .int .i64 0] else .tuple #[.int .i64 0, .int .i64 3]) w)
  run : ∀ (i n : Int) (p : Value) (l : List PCell) (S : Nat → Prop) (w : World), D w p l S → (Lit.int .i64 i).wf = true → (Lit.int .i64 n).wf = true →
    Calls Tryz.prog 28 #[p, .int .i64 i, .int .i64 n] w fun e w' => ∃ v S', e = .returned (.tuple #[v, .int .i64 (if cRunOk l i n then 0 else 3)]) ∧ DKept D p l S w w' S' ∧ SpAt w' v (if cRunOk l i n then cRun l i n else []) ∧ ∀ g, v.ownBlock = some g → ¬ S' g
  find : ∀ (s q off : Int) (p : Value) (l : List PCell) (S : Nat → Prop) (w : World), D w p l S → (Lit.int .i64 s).wf = true → (Lit.int .i64 q).wf = true → (Lit.int .i64 off).wf = true →
    Calls Tryz.prog 30 #[p, nmV s q, .int .i64 off] w (DVal D p l S (.tuple #[.int .i64 (cFind l s q off).1, .bool (cFind l s q off).2]) w)
  copy : ∀ (p : Value) (l : List PCell) (S : Nat → Prop) (w : World), D w p l S →
    Calls Tryz.prog 31 #[p] w fun e w' => ∃ p' S1 S', e = .returned p' ∧ D w' p' l S1 ∧ (∀ b, S1 b → w.heap.size ≤ b ∧ ¬ S' b) ∧ DKept D p l S w w' S'
structure CC3 extends CC2 where
  do0 : ∀ w, Calls Tryz.prog 32 #[.pointer none, opV 0 0 0 0 0 ⟨#[]⟩ (.slice none 0 0)] w (Nothing (.int .i64 1) w)
  drop0 : ∀ w, Calls Tryz.prog 34 #[.pointer none, .slice none 0 0] w (Nothing (.int .i64 1) w)
  size0 : ∀ w, Calls Tryz.prog 15 #[.pointer none] w (Nothing (.int .i64 0) w)
  live0 : ∀ w, Calls Tryz.prog 16 #[.pointer none] w (Nothing (.int .i64 0) w)
  text0 : ∀ w, Calls Tryz.prog 18 #[.pointer none] w (Nothing (.string ⟨#[]⟩) w)
  cells0 : ∀ w, Calls Tryz.prog 21 #[.pointer none] w fun e w' => ∃ v, e = .returned v ∧ CAt w' v [] ∧ Below w.heap.size w w'
  gone0 : ∀ w, Calls Tryz.prog 23 #[.pointer none] w fun e w' => ∃ v, e = .returned v ∧ SpAt w' v [] ∧ Below w.heap.size w w'
  copy0 : ∀ w, Calls Tryz.prog 31 #[.pointer none] w (Nothing (.pointer none) w)
  gap0 : ∀ w, Calls Tryz.prog 24 #[.pointer none, .int .i64 0] w (Nothing (.tuple #[.int .i64 0, .int .i64 1]) w)
  seen0 : ∀ w, Calls Tryz.prog 26 #[.pointer none, .int .i64 0] w (Nothing (.tuple #[.int .i64 0, .int .i64 1]) w)
  run0 : ∀ w, Calls Tryz.prog 28 #[.pointer none, .int .i64 0, .int .i64 0] w fun e w' => ∃ v, e = .returned (.tuple #[v, .int .i64 1]) ∧ SpAt w' v [] ∧ Below w.heap.size w w'
end Go.Proofs.YtfoglciiefoodaaGreatDoor

namespace Go.Proofs.YtfoglciiefoodaaGreatDoor

theorem cMay_ok {l : List PCell} (h : cMay l = 0) : l.all cellOk = true ∧ dupC l l.length = false ∧ l.length ≤ 20000 := by
  unfold cMay at h
  by_cases h1 : l.all cellOk = true
  · rw [if_pos h1] at h
    by_cases h2 : dupC l l.length = true
    · rw [if_pos h2] at h; omega
    · rw [if_neg h2] at h
      refine ⟨h1, by simpa using h2, ?_⟩
      split at h <;> omega
  · rw [if_neg h1] at h; omega
end Go.Proofs.YtfoglciiefoodaaGreatDoor

namespace Go.Proofs.YtfoglciiefoodaaGreatDoor
open Go.RowKit

theorem CC.below (C : CC) {w w' : World} {p : Value} {l : List PCell} {S : Nat → Prop} (h : C.D w p l S) (hb : Below w.heap.size w w') : C.D w' p l S := C.keep h (fun b hS => hb.block b (C.low h b hS)) hb.size
theorem DKept.up {D : World → Value → List PCell → (Nat → Prop) → Prop} {p : Value} {l : List PCell} {S S' : Nat → Prop} {w w' : World} {N : Nat} (h : DKept D p l S w w' S') (hS : ∀ b, S b → N ≤ b) (hN : N ≤ w.heap.size) : (∀ b, S' b → N ≤ b) ∧ Below N w w' :=
  ⟨fun b hb => (h.2.1 b hb).elim (hS b) (fun q => Nat.le_trans hN q), h.2.2.below hN hS⟩
theorem CAt.keep {S : Nat → Prop} {W W' : World} {v : Value} {l : List PCell} (h : CAt W v l) (hk : Keep S W.heap.size W W') (hg : ∀ g, v.ownBlock = some g → ¬ S g) : CAt W' v l := by
  obtain ⟨hl, ao, cap, rfl, h1, h2, h3, h4⟩ := h
  refine ⟨hl, ao, cap, rfl, h1, h2, h3, fun ad ha => ?_⟩
  subst ha
  obtain ⟨b, off, rfl, hlt, hc⟩ := h4 _ rfl
  refine ⟨b, off, rfl, Nat.lt_of_lt_of_le hlt hk.size, fun j u hj => ?_⟩
  rw [hk.cell (p := ⟨b, off + j, none⟩) hlt (hg b rfl)]
  exact hc j u hj
theorem CAt.lt {W : World} {v : Value} {l : List PCell} (h : CAt W v l) : ∀ g, v.ownBlock = some g → g < W.heap.size := by
  obtain ⟨_, ao, cap, rfl, _, _, _, h4⟩ := h
  intro g hg
  cases ao with
  | none => cases hg
  | some ad =>
    obtain ⟨b, off, rfl, hlt, _⟩ := h4 _ rfl
    cases hg
    exact hlt
def DOwn (C : CC) (N : Nat) (w : World) (p : Value) (l : List PCell) (W : World) : Prop := ∃ S, C.D W p l S ∧ (∀ b, S b → N ≤ b) ∧ Below N w W ∧ N ≤ W.heap.size
theorem DOwn.below {C : CC} {N : Nat} {w : World} {p : Value} {l : List PCell} {W W' : World} (h : DOwn C N w p l W) (hb : Below W.heap.size W W') : DOwn C N w p l W' := by
  obtain ⟨S, h1, h2, h3, h4⟩ := h
  exact ⟨S, C.below h1 hb, h2, h3.trans (hb.mono h4), Nat.le_trans h4 hb.size⟩
theorem DOwn.kept {C : CC} {N : Nat} {w : World} {p : Value} {m : List PCell} {W W' : World} {S S' : Nat → Prop} (h2 : ∀ b, S b → N ≤ b) (h3 : Below N w W) (h4 : N ≤ W.heap.size) (hk : DKept C.D p m S W W' S') : DOwn C N w p m W' := by
  obtain ⟨q1, q2⟩ := hk.up h2 h4
  exact ⟨S', hk.1, q1, h3.trans q2, Nat.le_trans h4 q2.size⟩
theorem DOwn.call {C : CC} {N f : Nat} {args : Array Value} {w : World} {p x : Value} {l m : List PCell} {W : World} (h : DOwn C N w p l W) (hc : ∀ S, C.D W p l S → Calls Tryz.prog f args W (DVal C.D p m S x W)) : Calls Tryz.prog f args W fun e W' => e = .returned x ∧ DOwn C N w p m W' := by
  obtain ⟨S, h1, h2, h3, h4⟩ := h
  refine (hc S h1).mono ?_
  rintro e W' ⟨S', hk, he⟩
  exact ⟨he, DOwn.kept h2 h3 h4 hk⟩
def exCA : POp := ⟨1, 1, 0, 1, 0, [97, 98, 99], []⟩
def exCB : POp := ⟨1, 2, 0, 2, 0, [], [(1, 1)]⟩
theorem exC_a : cDo [] exCA = ([⟨1, 1, 0, 97, false⟩, ⟨1, 1, 1, 98, false⟩, ⟨1, 1, 2, 99, false⟩], 0) := by decide
theorem exC_b : cDo [⟨1, 1, 0, 97, false⟩, ⟨1, 1, 1, 98, false⟩, ⟨1, 1, 2, 99, false⟩] exCB = ([⟨1, 1, 0, 97, false⟩, ⟨1, 1, 1, 98, true⟩, ⟨1, 1, 2, 99, false⟩], 0) := by decide
theorem exC_g : cGap [⟨1, 1, 0, 97, false⟩, ⟨1, 1, 1, 98, true⟩, ⟨1, 1, 2, 99, false⟩] 1 = 2 := by decide
theorem exC_l : cLive [⟨1, 1, 0, 97, false⟩, ⟨1, 1, 1, 98, true⟩, ⟨1, 1, 2, 99, false⟩] = 2 := by decide
theorem exC_t : cText [⟨1, 1, 0, 97, false⟩, ⟨1, 1, 1, 98, true⟩, ⟨1, 1, 2, 99, false⟩] = ⟨#[97, 99]⟩ := by decide
theorem exC_wfA : NWf 1 1 0 1 0 := ⟨by decide, by decide, by decide, by decide, by decide⟩
theorem exC_wfB : NWf 1 2 0 2 0 := ⟨by decide, by decide, by decide, by decide, by decide⟩
theorem DOwn.ptr {C : CC} {N : Nat} {w : World} {p : Value} {l : List PCell} {W : World} (h : DOwn C N w p l W) : ∃ B, p = .pointer (some ⟨B, 0, none⟩) := by
  obtain ⟨S, h1, _⟩ := h
  exact C.ptr h1
theorem DOwn.up {C : CC} {N : Nat} {w : World} {p : Value} {l : List PCell} {W : World} (h : DOwn C N w p l W) : Below N w W := by
  obtain ⟨S, _, _, h3, _⟩ := h
  exact h3
set_option maxRecDepth 100000 in
set_option maxHeartbeats 4000000 in
theorem calive_any (C : CC) (w : World) (hT : TabW w) : Calls Tryz.prog 7 #[] w fun e w' => e = .returned (.bool true) ∧ Below w.heap.size w w' := by
  have hN := C.new_yes (.slice none 0 0) [] w hT (CAt.nil w) (fun _ h => by cases h) (Nat.zero_le _) (by decide)
  go_enter Tryz.func7, Tryz.ntmps7
  go_wp2_with fail
  refine hN.mono ?_
  clear hN
  rintro e w1 ⟨p, S, rfl, hD, hS, hb⟩
  have h0 : DOwn C w.heap.size w p [] w1 := ⟨S, hD, hS, hb, hb.size⟩
  obtain ⟨B, rfl⟩ := C.ptr hD
  have hT1 := hT.below hb
  have c1 := h0.call fun S h => C.doOp 1 1 0 1 0 ⟨#[97, 98, 99]⟩ (.slice none 0 0) [] _ [] S w1 h hT1 (SpAt.nil _) exC_wfA (by decide) (by decide) (sWf_may (by decide))
  rw [show (⟨1, 1, 0, 1, 0, (⟨#[97, 98, 99]⟩ : ByteArray).data.toList, []⟩ : POp) = exCA from rfl, exC_a] at c1
  unfold opV at c1
  have HT := Lib.hid hT
  clear hD hS hb h0 hT1 hT
  go_wp2_with fail
  refine c1.mono ?_
  clear c1
  rintro e w2 ⟨rfl, h2⟩
  have hb2 : Below w2.heap.size w2 (w2.alloc (.cells #[.int .i64 1, .int .i64 1] 73)) := (Below.refl _ w2).alloc (Nat.le_refl _) _
  have c2 := (h2.below hb2).call fun S h => C.doOp 1 2 0 2 0 ⟨#[]⟩ (.slice (some ⟨w2.heap.size, 0, none⟩) 1 1) [(1, 1)] _ _ S _ h (HT.out.below (h2.below hb2).up) (SpAt.of_own (base := w2.heap.size) (World.ownsRow_lit w2 #[.int .i64 1, .int .i64 1] 1 (Nat.le_refl _) (by decide) rfl)) exC_wfB (by decide) (by decide) (sWf_may (by decide))
  rw [show (⟨1, 2, 0, 2, 0, (⟨#[]⟩ : ByteArray).data.toList, [(1, 1)]⟩ : POp) = exCB from rfl, exC_b] at c2
  unfold opV at c2
  clear h2 hb2
  go_wp2_with fail
  refine c2.mono ?_
  clear c2
  rintro e w3 ⟨rfl, h3⟩
  have c3 := h3.call fun S h => C.gap 1 _ _ S w3 h (by decide)
  rw [exC_g] at c3
  clear h3
  go_wp2_with fail
  refine c3.mono ?_
  clear c3
  rintro e w4 ⟨rfl, h4⟩
  have c4 := h4.call fun S h => C.text _ _ S w4 h
  rw [exC_t] at c4
  clear h4
  simp only [show ¬ ((2 : Int) < 0) by decide, if_false]
  go_wp2_with fail
  refine c4.mono ?_
  clear c4
  rintro e w5 ⟨rfl, h5⟩
  have c5 := h5.call fun S h => C.size _ _ S w5 h
  clear h5
  go_wp2_with fail
  refine c5.mono ?_
  clear c5
  rintro e w6 ⟨rfl, h6⟩
  have c6 := h6.call fun S h => C.live _ _ S w6 h
  rw [exC_l] at c6
  clear h6
  go_wp2_with fail
  refine c6.mono ?_
  clear c6
  rintro e w7 ⟨rfl, h7⟩
  have hz := h7.up
  clear h7
  go_wp2
  go_ret
  exact ⟨rfl, hz⟩
end Go.Proofs.YtfoglciiefoodaaGreatDoor

namespace Go.Proofs.YtfoglciiefoodaaGreatDoor
open Go.RowKit

theorem DKept.after {D : World → Value → List PCell → (Nat → Prop) → Prop} {p : Value} {m : List PCell} {S S' : Nat → Prop} {W W1 W' : World} (hb : Below W.heap.size W W1) (h : DKept D p m S W1 W' S') : DKept D p m S W W' S' :=
  ⟨h.1, fun b hb' => (h.2.1 b hb').imp id (fun q => Nat.le_trans hb.size q), (Keep.of_below hb (Nat.le_refl _)).trans (h.2.2.weak hb.size fun _ _ q => q)⟩
theorem DKept.trans {D : World → Value → List PCell → (Nat → Prop) → Prop} {p : Value} {l m : List PCell} {S S1 S2 : Nat → Prop} {W W1 W2 : World} (h : DKept D p l S W W1 S1) (k : DKept D p m S1 W1 W2 S2) : DKept D p m S W W2 S2 :=
  ⟨k.1, fun b hb => (k.2.1 b hb).elim (h.2.1 b) (fun q => .inr (Nat.le_trans h.2.2.size q)), h.2.2.trans (k.2.2.weak h.2.2.size fun b hb q => (h.2.1 b q).elim id (fun z => absurd hb (Nat.not_lt.2 z)))⟩
def cAct (l : List PCell) (x : PAct) : List PCell × Int := if x.kd % 5 = 3 then cDrop l x.xs else if x.kd % 5 = 4 then cDrop l (cGone l) else cDo l x.op
theorem cGone_wf (l : List PCell) : sWf (cGone l) := sWf_may ((sMay_good _).2 (sMade_good _ _ (Nat.le_refl _)))
theorem cGone_length (l : List PCell) : (cGone l).length ≤ 20000 := sMade_length _ _
theorem aGreat_no {x : PAct} (h : aGreat x = false) : x.xs.length ≤ 40 ∧ x.text.size ≤ 1000 := by
  unfold aGreat at h
  rw [Bool.or_eq_false_iff, decide_eq_false_iff_not, decide_eq_false_iff_not] at h
  omega
set_option maxRecDepth 100000 in
set_option maxHeartbeats 4000000 in
theorem cdo_any (C : CC) (x : PAct) (hx : x.Wf) (hg : aGreat x = false) (p : Value) (l : List PCell) (S : Nat → Prop) (W : World) (h : C.D W p l S) (hT : TabW W) (hs : SpAt W x.sp x.xs) :
    Calls Tryz.prog 14 #[p, x.val] W (DVal C.D p (cAct l x).1 S (.int .i64 (cAct l x).2) W) := by
  obtain ⟨hx1, hx2⟩ := aGreat_no hg
  have hw : NWf x.site x.seq x.num x.kind x.pl := ⟨hx.s, hx.q, hx.n, hx.k, hx.a⟩
  have hxw := hx.w
  have hkd := hx.kd
  obtain ⟨B, rfl⟩ := C.ptr h
  obtain ⟨sa, sc, hsp, _⟩ := id hs
  obtain ⟨kd, s, q, n, k, a, t, sp, xs⟩ := x
  simp only at hsp hs hw hxw hkd hx1 hx2
  subst hsp
  unfold PAct.val cAct PAct.op
  simp only
  simp only [Lit.wf, Bool.and_eq_true, decide_eq_true_eq] at hkd
  have u1 : IntKind.u8.min = 0 := rfl
  have u2 : IntKind.u8.max = 255 := rfl
  rw [u1, u2] at hkd
  obtain ⟨kk, rfl⟩ : ∃ kk : Nat, kd = kk := ⟨kd.toNat, by omega⟩
  have hb : Below W.heap.size W (W.alloc (.cells #[.int .u8 kk, .int .i64 s, .int .i64 q, .int .i64 n, .int .i64 k, .int .i64 a, .string t, .slice sa xs.length sc] 37)) := (Below.refl _ W).alloc (Nat.le_refl _) _
  have Hb := Lib.hid hb
  have h' := C.below h hb
  have hs' := hs.below hb
  have hT' := hT.below hb
  clear u1 u2 hkd hg hx
  by_cases h3 : (kk : Int) % 5 = 3
  · simp only [h3, if_true]
    have c1 := C.drop _ xs _ l S _ h' hs' hxw (by omega)
    have C1 := Lib.hid c1
    clear c1 hb hs hs' hT hT' h h' hw hxw
    go_enter Tryz.func14, Tryz.ntmps14
    go_wp2_with fail
    refine C1.out.mono ?_
    rintro e W' ⟨S', hk, rfl⟩
    go_wp2
    go_ret
    exact ⟨S', hk.after Hb.out, rfl⟩
  · simp only [h3, if_false]
    by_cases h4 : (kk : Int) % 5 = 4
    · simp only [h4, if_true]
      have c1 := C.gone _ l S _ h'
      have C1 := Lib.hid c1
      clear c1 hb hs hs' hT hT' h h' hw hxw
      go_enter Tryz.func14, Tryz.ntmps14
      go_wp2_with fail
      refine C1.out.mono ?_
      rintro e W1 ⟨v, S1, rfl, hk, hv⟩
      have c2 := C.drop v (cGone l) _ l S1 W1 hk.1 hv (cGone_wf l) (cGone_length l)
      have HK := Lib.hid hk
      obtain ⟨va, vc, rfl, _⟩ := hv
      go_wp2_with fail
      refine c2.mono ?_
      rintro e W2 ⟨S2, hk2, rfl⟩
      have HZ := Lib.hid ((HK.out.trans hk2).after Hb.out)
      clear hk hk2 c2 HK
      go_wp2
      go_ret
      exact ⟨S2, HZ.out, rfl⟩
    · simp only [h4, if_false]
      have c1 := C.doOp s q n k a t _ xs _ l S _ h' hT' hs' hw hx2 (by omega) hxw
      unfold opV at c1
      have C1 := Lib.hid c1
      clear c1 hb hs hs' hT hT' h h' hw hxw
      go_enter Tryz.func14, Tryz.ntmps14
      go_wp2_with fail
      refine C1.out.mono ?_
      rintro e W' ⟨S', hk, rfl⟩
      go_wp2
      go_ret
      exact ⟨S', hk.after Hb.out, rfl⟩
end Go.Proofs.YtfoglciiefoodaaGreatDoor

namespace Go.Proofs.YtfoglciiefoodaaGreatDoor

theorem kept_text (l : List PCell) (f : Nat → Bool) : ∀ k, k ≤ l.length → liveB l f k = false → textR (keptC l f k) = textR (l.take k)
  | 0, _, _ => rfl
  | k + 1, hk, h => by
    obtain ⟨c, hc⟩ := getC_some (l := l) (k := k) (by omega)
    rw [liveB_next, Bool.or_eq_false_iff] at h
    have ih := kept_text l f k (by omega) h.1
    cases hf : f k with
    | true =>
      have hg : c.gone = true := by
        have h2 := h.2
        rw [hf, goneB_at hc] at h2
        simpa using h2
      rw [keptC_no hf, ih, textR_gone hc hg]
    | false =>
      have e : textR (keptC l f k ++ [c]) = textR (keptC l f k) ++ textR [c] := by unfold textR; rw [List.filter_append, List.map_append]
      rw [keptC_yes hf hc, e, ih]
      cases hg : c.gone with
      | true =>
        rw [textR_gone hc hg]
        simp [textR, hg]
      | false =>
        rw [textR_live hc hg]
        simp [textR, hg]
theorem drop_text (l : List PCell) (xs : List Sp) : cText (cDrop l xs).1 = cText l := by
  unfold cDrop
  by_cases h1 : sMay xs = true
  · rw [if_pos h1]
    by_cases h2 : outB (sMark xs) l.length 20000 = true
    · rw [if_pos h2]
    · rw [if_neg h2]
      by_cases h3 : liveB l (sMark xs) l.length = true
      · rw [if_pos h3]
      · rw [if_neg h3]
        have := kept_text l (sMark xs) l.length (Nat.le_refl _) (by simpa using h3)
        rw [List.take_of_length_le (Nat.le_refl _)] at this
        unfold cText
        rw [this]
  · rw [if_neg h1]
theorem drop_same {l : List PCell} {xs : List Sp} (h : (cDrop l xs).2 ≠ 0) : (cDrop l xs).1 = l := by
  unfold cDrop at *
  by_cases h1 : sMay xs = true
  · rw [if_pos h1] at h ⊢
    by_cases h2 : outB (sMark xs) l.length 20000 = true
    · rw [if_pos h2]
    · rw [if_neg h2] at h ⊢
      by_cases h3 : liveB l (sMark xs) l.length = true
      · rw [if_pos h3]
      · rw [if_neg h3] at h
        exact absurd rfl h
  · rw [if_neg h1]
theorem gone_mark (l : List PCell) (hl : l.length ≤ 20000) : sMark (cGone l) = goneB l := by
  funext i
  unfold cGone
  rw [sMade_mark]
  by_cases g : i < 20000
  · rw [decide_eq_true g, Bool.true_and]
  · rw [decide_eq_false g, Bool.false_and, goneB_out (by omega)]
theorem drop_gone {l : List PCell} (hl : l.length ≤ 20000) : cDrop l (cGone l) = (keptC l (goneB l) l.length, 0) := by
  have h1 : sMay (cGone l) = true := (sMay_good _).2 (sMade_good _ _ (Nat.le_refl _))
  have h2 : outB (sMark (cGone l)) l.length 20000 = false := by
    unfold outB
    rw [List.any_eq_false]
    intro i _
    rw [gone_mark l hl]
    by_cases g : l.length ≤ i
    · rw [goneB_out g]; simp
    · simp [g]
  have h3 : liveB l (sMark (cGone l)) l.length = false := by
    unfold liveB
    rw [List.any_eq_false]
    intro i _
    rw [gone_mark l hl]
    cases goneB l i <;> simp
  unfold cDrop
  rw [if_pos h1, if_neg (by rw [h2]; decide), if_neg (by rw [h3]; decide), gone_mark l hl]
theorem kept_live (l : List PCell) : ∀ k, k ≤ l.length → ∀ c ∈ keptC l (goneB l) k, c.gone = false
  | 0, _, c, h => by cases h
  | k + 1, hk, c, h => by
    obtain ⟨d, hd⟩ := getC_some (l := l) (k := k) (by omega)
    cases hg : d.gone with
    | true =>
      rw [keptC_no (by rw [goneB_at hd]; exact hg)] at h
      exact kept_live l k (by omega) c h
    | false =>
      rw [keptC_yes (by rw [goneB_at hd]; exact hg) hd] at h
      rcases List.mem_append.1 h with h | h
      · exact kept_live l k (by omega) c h
      · simp at h; rw [h]; exact hg
theorem all_live {l : List PCell} (h : ∀ c ∈ l, c.gone = false) : cLive l = l.length ∧ cGone l = [] := by
  constructor
  · unfold cLive cSeen
    rw [List.take_of_length_le (Nat.le_refl _)]
    exact List.countP_eq_length.2 fun c hc => by rw [h c hc]; rfl
  · unfold cGone
    refine sGood_unique _ _ (sMade_good _ _ (Nat.le_refl _)) ⟨fun s hs => (by cases hs), List.Pairwise.nil⟩ fun i => ?_
    rw [sMade_mark]
    have : goneB l i = false := by
      unfold goneB
      cases hz : l[i]? with
      | none => rfl
      | some c => exact h c (List.mem_of_getElem? hz)
    rw [this, Bool.and_false]
    rfl
end Go.Proofs.YtfoglciiefoodaaGreatDoor

namespace Go.Proofs.YtfoglciiefoodaaGreatDoor

theorem cSeen_step (l : List PCell) (k : Nat) : cSeen l k ≤ cSeen l (k + 1) ∧ cSeen l (k + 1) ≤ cSeen l k + 1 := by
  cases hc : l[k]? with
  | none =>
    have : cSeen l (k + 1) = cSeen l k := by
      unfold cSeen
      rw [List.take_add_one, hc]
      simp
    omega
  | some c =>
    cases hg : c.gone with
    | true => rw [cSeen_gone hc hg]; omega
    | false => rw [cSeen_live hc hg]; omega
theorem cSeen_mono (l : List PCell) {a b : Nat} (h : a ≤ b) : cSeen l a ≤ cSeen l b := by
  obtain ⟨d, rfl⟩ := Nat.exists_eq_add_of_le h
  clear h
  induction d with
  | zero => exact Nat.le_refl _
  | succ d ih => exact Nat.le_trans ih (cSeen_step l (a + d)).1
theorem textR_length (l : List PCell) (k : Nat) : (textR (l.take k)).length = cSeen l k := by
  unfold textR cSeen
  rw [List.length_map, List.countP_eq_length_filter]
theorem textR_append (a b : List PCell) : textR (a ++ b) = textR a ++ textR b := by
  unfold textR
  rw [List.filter_append, List.map_append]
theorem textR_parts (l : List PCell) (p : Nat) : textR (l.take p) = (textR l).take (cSeen l p) ∧ textR (l.drop p) = (textR l).drop (cSeen l p) := by
  have e : textR l = textR (l.take p) ++ textR (l.drop p) := by rw [← textR_append, List.take_append_drop]
  have hl := textR_length l p
  rw [e, ← hl]
  exact ⟨(List.take_left' rfl).symm, (List.drop_left' rfl).symm⟩
theorem gapOk_seen {l : List PCell} {i : Int} {p : Nat} (h : gapOk l i p = true) : p < l.length ∧ (cSeen l p : Int) = i ∧ (cSeen l (p + 1) : Int) = i + 1 := by
  unfold gapOk at h
  cases hc : l[p]? with
  | none => rw [hc] at h; cases h
  | some c =>
    rw [hc] at h
    simp only [Bool.and_eq_true, Bool.not_eq_true', decide_eq_true_eq] at h
    refine ⟨(List.getElem?_eq_some_iff.1 hc).1, h.2, ?_⟩
    rw [cSeen_live hc h.1]
    omega
theorem gap_some (l : List PCell) (i : Nat) : ∀ k, k ≤ l.length → i < cSeen l k → ∃ p, p < k ∧ gapOk l i p = true
  | 0, _, h => by rw [cSeen_zero] at h; omega
  | k + 1, hk, h => by
    by_cases h1 : i < cSeen l k
    · obtain ⟨p, hp, hq⟩ := gap_some l i k (by omega) h1
      exact ⟨p, by omega, hq⟩
    · obtain ⟨c, hc⟩ := getC_some (l := l) (k := k) (by omega)
      have hs := cSeen_step l k
      cases hg : c.gone with
      | true => rw [cSeen_gone hc hg] at h; omega
      | false =>
        refine ⟨k, by omega, ?_⟩
        unfold gapOk
        rw [hc]
        simp only [hg, Bool.not_false, Bool.true_and, decide_eq_true_eq]
        omega
theorem gap_cases (l : List PCell) (i : Int) : (∃ p : Nat, (0 ≤ i ∧ i ≤ cLive l) ∧ p ≤ l.length ∧ cGap l i = p ∧ cSeen l p = i.toNat) ∨ (¬ (0 ≤ i ∧ i ≤ cLive l) ∧ cGap l i = -1) := by
  cases hg : gapTo l i l.length with
  | some p =>
    have h1 : gapOk l i p = true := List.find?_some hg
    obtain ⟨q1, q2, q3⟩ := gapOk_seen h1
    have hm := cSeen_mono l (show p + 1 ≤ l.length by omega)
    refine .inl ⟨p, ⟨by omega, ?_⟩, by omega, ?_, by omega⟩
    · unfold cLive; omega
    · unfold cGap; rw [hg]
  | none =>
    have hn : ∀ p, p < l.length → gapOk l i p = false := fun p hp => by
      have := List.find?_eq_none.1 hg p (List.mem_range.2 hp)
      simpa using this
    by_cases he : (cLive l : Int) = i
    · refine .inl ⟨l.length, ⟨by omega, by omega⟩, Nat.le_refl _, ?_, ?_⟩
      · unfold cGap; rw [hg]; exact if_pos he
      · have : cSeen l l.length = cLive l := rfl
        omega
    · refine .inr ⟨fun hz => ?_, ?_⟩
      · obtain ⟨p, hp, hq⟩ := gap_some l i.toNat l.length (Nat.le_refl _) (by have : cSeen l l.length = cLive l := rfl; omega)
        rw [show ((i.toNat : Nat) : Int) = i by omega, hn p hp] at hq
        cases hq
      · unfold cGap; rw [hg]; exact if_neg he
theorem run_mark (l : List PCell) (i n : Int) (hl : l.length ≤ 20000) : sMark (cRun l i n) = runB l i n := by
  funext k
  unfold cRun
  rw [sMade_mark]
  by_cases g : k < 20000
  · rw [decide_eq_true g, Bool.true_and]
  · rw [decide_eq_false g, Bool.false_and]
    unfold runB
    rw [List.getElem?_eq_none (by omega)]
theorem take_gone (l : List PCell) (f : Nat → Bool) (k : Nat) (c : PCell) (hc : l[k]? = some c) : (goneC l f).take (k + 1) = (goneC l f).take k ++ [{ c with gone := c.gone || f k }] := by
  rw [List.take_add_one, goneC_at, hc]
  rfl
theorem run_text_to (l : List PCell) (i n : Nat) : ∀ k, k ≤ l.length → textR ((goneC l (runB l i n)).take k) = (textR (l.take k)).take i ++ (textR (l.take k)).drop (i + n)
  | 0, _ => by simp [textR]
  | k + 1, hk => by
    obtain ⟨c, hc⟩ := getC_some (l := l) (k := k) (by omega)
    have ih := run_text_to l i n k (by omega)
    have hlen := textR_length l k
    rw [take_gone l _ k c hc, textR_append, ih]
    have hf : runB l i n k = (!c.gone && (decide ((i : Int) ≤ (cSeen l k : Int)) && decide ((cSeen l k : Int) - i < n))) := by unfold runB; rw [hc]
    cases hg : c.gone with
    | true =>
      rw [textR_gone hc hg]
      simp [textR]
    | false =>
      rw [hg] at hf
      rw [textR_live hc hg, hf]
      obtain ⟨R, hR⟩ : ∃ R, textR (l.take k) = R := ⟨_, rfl⟩
      rw [hR] at hlen ⊢
      rw [← hlen]
      by_cases h1 : i ≤ R.length
      · rw [List.take_append_of_le_length h1]
        by_cases h2 : R.length < i + n
        · have e : (!false && (decide ((i : Int) ≤ (R.length : Int)) && decide ((R.length : Int) - i < n))) = true := by
            rw [decide_eq_true (by omega), decide_eq_true (by omega)]; rfl
          rw [e, List.drop_of_length_le (l := R ++ [c.r]) (by rw [List.length_append, List.length_singleton]; omega), List.drop_of_length_le (l := R) (by omega)]
          simp [textR]
        · have e : (!false && (decide ((i : Int) ≤ (R.length : Int)) && decide ((R.length : Int) - i < n))) = false := by
            rw [decide_eq_true (by omega), decide_eq_false (by omega)]; rfl
          rw [e, List.drop_append_of_le_length (by omega), List.append_assoc]
          simp [textR]
      · have e : (!false && (decide ((i : Int) ≤ (R.length : Int)) && decide ((R.length : Int) - i < n))) = false := by
          rw [decide_eq_false (by omega)]; rfl
        rw [e, List.take_of_length_le (l := R) (by omega), List.take_of_length_le (l := R ++ [c.r]) (by rw [List.length_append, List.length_singleton]; omega), List.drop_of_length_le (l := R) (by omega), List.drop_of_length_le (l := R ++ [c.r]) (by rw [List.length_append, List.length_singleton]; omega)]
        simp [textR]
theorem run_text (l : List PCell) (i n : Nat) (hl : l.length ≤ 20000) : textR (goneC l (sMark (cRun l i n))) = (textR l).take i ++ (textR l).drop (i + n) := by
  have h := run_text_to l i n l.length (Nat.le_refl _)
  rwa [List.take_of_length_le (by rw [goneC_length]; exact Nat.le_refl _), List.take_of_length_le (Nat.le_refl _), ← run_mark l i n hl] at h
theorem run_end (l : List PCell) (i n : Int) (hl : l.length ≤ 20000) : ∀ s ∈ cRun l i n, s.1 + s.2 ≤ l.length := by
  intro s hs
  have hg : sGood (cRun l i n) := sMade_good _ _ (Nat.le_refl _)
  have h1 := hg.1 s hs
  have hm : sMark (cRun l i n) (s.1 + s.2 - 1).toNat = true := (sMark_iff _ _).2 ⟨s, hs, by omega, by omega⟩
  rw [run_mark l i n hl] at hm
  unfold runB at hm
  cases hc : l[(s.1 + s.2 - 1).toNat]? with
  | none => rw [hc] at hm; cases hm
  | some c =>
    have := (List.getElem?_eq_some_iff.1 hc).1
    omega
def edDel (l : List PCell) (i n : Int) : POp := ⟨16, 549755813888, 0, 2, 0, [], cRun l i n⟩
theorem del_run {l : List PCell} {i n : Nat} (hl : l.length ≤ 20000) : (cDo l (edDel l i n)).2 = 0 ∧ textR (cDo l (edDel l i n)).1 = (textR l).take i ++ (textR l).drop (i + n) := by
  have hm : oMay (edDel l i n) l.length = true := (oMay_iff _ _).2 ⟨⟨by omega, by omega⟩, (show nMay 16 549755813888 = true by decide), (show (0 : Int) ≤ 0 ∧ (0 : Int) ≤ 1099511627776 by decide), .inr ⟨rfl, rfl, rfl, sMade_good _ _ (Nat.le_refl _), run_end l i n hl⟩⟩
  have he : cDo l (edDel l i n) = (runC l (edDel l i n), 0) := by
    unfold cDo
    rw [hm, if_pos rfl, if_neg (fun h => absurd h.1 (show ¬ (2 : Int) = 1 by decide))]
  rw [he]
  refine ⟨rfl, ?_⟩
  rw [show runC l (edDel l i n) = goneC l (sMark (cRun l i n)) from if_neg (show ¬ (2 : Int) = 1 by decide)]
  exact run_text l i n hl
def edIns (p : Nat) : POp := ⟨16, 549755813888, 0, 1, p, [120, 121], []⟩
theorem ins_gap {l : List PCell} {p : Nat} (hp : p ≤ l.length) (hl : l.length ≤ 20000) :
    ((cDo l (edIns p)).2 = 0 ∧ textR (cDo l (edIns p)).1 = (textR l).take (cSeen l p) ++ ([120, 121] ++ (textR l).drop (cSeen l p))) ∨ (((cDo l (edIns p)).2 = 15 ∨ ((cDo l (edIns p)).2 = 1 ∧ 19998 < l.length)) ∧ (cDo l (edIns p)).1 = l) := by
  by_cases hb : l.length + 2 ≤ 20000
  · have hm : oMay (edIns p) l.length = true := (oMay_iff _ _).2 ⟨⟨by omega, by omega⟩, (show nMay 16 549755813888 = true by decide), (show (0 : Int) ≤ 0 ∧ (0 : Int) ≤ 1099511627776 by decide), .inl ⟨rfl, (show (0 : Int) ≤ (p : Int) by omega), (show (p : Int) ≤ l.length by omega), (show mayT [120, 121] = true by decide), rfl, by
      have : lenT (edIns p).text = 2 := (show lenT [120, 121] = 2 by decide)
      omega⟩⟩
    by_cases hn : hasN l 16 549755813888 = true
    · have he : cDo l (edIns p) = (l, 15) := by unfold cDo; rw [hm, if_pos rfl, if_pos ⟨rfl, hn⟩]
      rw [he]
      exact .inr ⟨.inl rfl, rfl⟩
    · have he : cDo l (edIns p) = (runC l (edIns p), 0) := by unfold cDo; rw [hm, if_pos rfl, if_neg (fun h => hn h.2)]
      rw [he]
      refine .inl ⟨rfl, ?_⟩
      have hr : runC l (edIns p) = l.take p ++ newC (edIns p) ++ l.drop p := if_pos rfl
      have hnc : textR (newC (edIns p)) = [120, 121] := by
        have : newC (edIns p) = [⟨16, 549755813888, 0, 120, false⟩, ⟨16, 549755813888, 1, 121, false⟩] := (show (((runesL [120, 121]).getD []).mapIdx fun i r => (⟨16, 549755813888, i, r, false⟩ : PCell)) = _ by decide)
        rw [this]
        decide
      rw [hr, textR_append, textR_append, hnc, (textR_parts l p).1, (textR_parts l p).2, List.append_assoc]
  · have hm : oMay (edIns p) l.length = false := by
      cases hz : oMay (edIns p) l.length with
      | false => rfl
      | true =>
        have := ((oMay_iff _ _).1 hz).room
        have h2 : oAdds (edIns p) = 2 := (show (if (1 : Int) = 1 then (if lenT [120, 121] < 0 then 0 else lenT [120, 121]) else 0) = 2 by decide)
        omega
    have he : cDo l (edIns p) = (l, 1) := by unfold cDo; rw [hm]; rfl
    rw [he]
    exact .inr ⟨.inr ⟨rfl, by omega⟩, rfl⟩
end Go.Proofs.YtfoglciiefoodaaGreatDoor

namespace Go.Proofs.YtfoglciiefoodaaGreatDoor
open Go.RowKit

theorem cMay_le {l : List PCell} (h : cMay l = 0) : l.length ≤ 20000 := by
  unfold cMay at h
  repeat' split at h
  all_goals omega
structure Pair (C : CC) (N : Nat) (w : World) (p : Value) (l : List PCell) (v : Value) (m : List PCell) (S : Nat → Prop) (W : World) : Prop where
  doc : C.D W p l S
  own : ∀ b, S b → N ≤ b
  up : Below N w W
  size : N ≤ W.heap.size
  list : CAt W v m
  apart : ∀ g, v.ownBlock = some g → ¬ S g
theorem Pair.le {C : CC} {N : Nat} {w : World} {p : Value} {l : List PCell} {v : Value} {m : List PCell} {S : Nat → Prop} {W : World} (h : Pair C N w p l v m S W) : l.length ≤ 20000 := cMay_le (C.may h.doc)
theorem Pair.below {C : CC} {N : Nat} {w : World} {p : Value} {l : List PCell} {v : Value} {m : List PCell} {S : Nat → Prop} {W W' : World} (h : Pair C N w p l v m S W) (hb : Below W.heap.size W W') : Pair C N w p l v m S W' :=
  ⟨C.below h.doc hb, h.own, h.up.trans (hb.mono h.size), Nat.le_trans h.size hb.size, h.list.below hb, h.apart⟩
theorem Pair.next {C : CC} {N : Nat} {w : World} {p : Value} {l l' : List PCell} {v : Value} {m : List PCell} {S S' : Nat → Prop} {W W' : World} (h : Pair C N w p l v m S W) (hk : DKept C.D p l' S W W' S') : Pair C N w p l' v m S' W' := by
  obtain ⟨q1, q2⟩ := hk.up h.own h.size
  exact ⟨hk.1, q1, h.up.trans q2, Nat.le_trans h.size q2.size, h.list.keep hk.2.2 h.apart, fun g hg hS => (hk.2.1 g hS).elim (h.apart g hg) fun q => Nat.lt_irrefl _ (Nat.lt_of_lt_of_le (h.list.lt g hg) q)⟩
theorem Pair.turn {C : CC} {N : Nat} {w : World} {p : Value} {l : List PCell} {v v' : Value} {m m' : List PCell} {S : Nat → Prop} {W W' : World} (h : Pair C N w p l v m S W) (hc : CAt W' v' m') (hf : v' = v ∨ ∀ g, v'.ownBlock = some g → W.heap.size ≤ g) (hb : Below W.heap.size W W') : Pair C N w p l v' m' S W' :=
  ⟨C.below h.doc hb, h.own, h.up.trans (hb.mono h.size), Nat.le_trans h.size hb.size, hc, fun g hg hS => hf.elim (fun e => h.apart g (by rw [← e]; exact hg) hS) fun q => Nat.lt_irrefl _ (Nat.lt_of_lt_of_le (C.low h.doc g hS) (q g hg))⟩
theorem Pair.call {C : CC} {N f : Nat} {args : Array Value} {w : World} {p x : Value} {l l' : List PCell} {v : Value} {m : List PCell} {S : Nat → Prop} {W : World} (h : Pair C N w p l v m S W) (hc : Calls Tryz.prog f args W (DVal C.D p l' S x W)) :
    Calls Tryz.prog f args W fun e W' => e = .returned x ∧ ∃ S', Pair C N w p l' v m S' W' := by
  refine hc.mono ?_
  rintro e W' ⟨S', hk, he⟩
  exact ⟨he, S', h.next hk⟩
end Go.Proofs.YtfoglciiefoodaaGreatDoor

namespace Go.Proofs.YtfoglciiefoodaaGreatDoor
open Go.RowKit

def ABox (B : Nat) (xs : List Int) (W : World) : Prop := ∀ i x, xs[i]? = some x → W.cell? ⟨B, i, none⟩ = some (.int .i64 x)
theorem ABox.new (xs : List Int) (w : World) (t : TypeId) : ABox w.heap.size xs (w.alloc (.cells (xs.map (Value.int .i64)).toArray t)) := fun i x hx => by
  rw [cell_of_row _ _ i _ _ _ (heap_alloc_new w _)]
  simp [hx]
theorem ABox.below {B : Nat} {xs : List Int} {W W' : World} (h : ABox B xs W) (hb : Below W.heap.size W W') : ABox B xs W' := fun i x hx => cell_stays hb (h i x hx)
end Go.Proofs.YtfoglciiefoodaaGreatDoor

namespace Go.Proofs.YtfoglciiefoodaaGreatDoor
open Go.RowKit

structure Trio (C : CC) (N : Nat) (w : World) (p : Value) (l : List PCell) (S : Nat → Prop) (p' : Value) (l' : List PCell) (S' : Nat → Prop) (v : Value) (m : List PCell) (W : World) : Prop where
  doc : C.D W p l S
  cop : C.D W p' l' S'
  two : ∀ b, S b → ¬ S' b
  own : ∀ b, S b → N ≤ b
  own' : ∀ b, S' b → N ≤ b
  up : Below N w W
  size : N ≤ W.heap.size
  list : CAt W v m
  apart : ∀ g, v.ownBlock = some g → ¬ S g ∧ ¬ S' g
theorem Trio.below {C : CC} {N : Nat} {w : World} {p p' v : Value} {l l' m : List PCell} {S S' : Nat → Prop} {W W' : World} (h : Trio C N w p l S p' l' S' v m W) (hb : Below W.heap.size W W') : Trio C N w p l S p' l' S' v m W' :=
  ⟨C.below h.doc hb, C.below h.cop hb, h.two, h.own, h.own', h.up.trans (hb.mono h.size), Nat.le_trans h.size hb.size, h.list.below hb, h.apart⟩
theorem Trio.swap {C : CC} {N : Nat} {w : World} {p p' v : Value} {l l' m : List PCell} {S S' : Nat → Prop} {W : World} (h : Trio C N w p l S p' l' S' v m W) : Trio C N w p' l' S' p l S v m W :=
  ⟨h.cop, h.doc, fun b h1 h2 => h.two b h2 h1, h.own', h.own, h.up, h.size, h.list, fun g hg => ⟨(h.apart g hg).2, (h.apart g hg).1⟩⟩
theorem Trio.fst {C : CC} {N : Nat} {w : World} {p p' v : Value} {l l2 l' m : List PCell} {S S2 S' : Nat → Prop} {W W' : World} (h : Trio C N w p l S p' l' S' v m W) (hk : DKept C.D p l2 S W W' S2) : Trio C N w p l2 S2 p' l' S' v m W' := by
  obtain ⟨q1, q2⟩ := hk.up h.own h.size
  refine ⟨hk.1, C.keep h.cop (fun b hb => hk.2.2.block b (C.low h.cop b hb) (fun hS => h.two b hS hb)) hk.2.2.size, fun b hb hb' => ?_, q1, h.own', h.up.trans q2, Nat.le_trans h.size q2.size, h.list.keep hk.2.2 fun g hg => (h.apart g hg).1, fun g hg => ⟨fun hS => ?_, (h.apart g hg).2⟩⟩
  · rcases hk.2.1 b hb with q | q
    · exact h.two b q hb'
    · exact Nat.lt_irrefl _ (Nat.lt_of_lt_of_le (C.low h.cop b hb') q)
  · rcases hk.2.1 g hS with q | q
    · exact (h.apart g hg).1 q
    · exact Nat.lt_irrefl _ (Nat.lt_of_lt_of_le (h.list.lt g hg) q)
theorem Trio.call {C : CC} {N f : Nat} {args : Array Value} {w : World} {p p' v x : Value} {l l2 l' m : List PCell} {S S' : Nat → Prop} {W : World} (h : Trio C N w p l S p' l' S' v m W) (hc : Calls Tryz.prog f args W (DVal C.D p l2 S x W)) :
    Calls Tryz.prog f args W fun e W' => e = .returned x ∧ ∃ S2, Trio C N w p l2 S2 p' l' S' v m W' := by
  refine hc.mono ?_
  rintro e W' ⟨S2, hk, he⟩
  exact ⟨he, S2, h.fst hk⟩
theorem Trio.call2 {C : CC} {N f : Nat} {args : Array Value} {w : World} {p p' v x : Value} {l l2 l' m : List PCell} {S S' : Nat → Prop} {W : World} (h : Trio C N w p l S p' l' S' v m W) (hc : Calls Tryz.prog f args W (DVal C.D p' l2 S' x W)) :
    Calls Tryz.prog f args W fun e W' => e = .returned x ∧ ∃ S2, Trio C N w p l S p' l2 S2 v m W' := by
  refine hc.mono ?_
  rintro e W' ⟨S2, hk, he⟩
  exact ⟨he, S2, (h.swap.fst hk).swap⟩
set_option maxRecDepth 100000 in
set_option maxHeartbeats 2000000 in
theorem cgreat7_any (n : Nat) (ao : Option Addr) (cap : Nat) (w : World) :
    Calls Tryz.prog 33 #[.slice ao n cap] w fun e w' => e = .returned (.bool (decide ((60 : Int) < n))) ∧ w = w' := by
  go_enter Tryz.func33, Tryz.ntmps33
  go_wp2
  go_ret
  exact ⟨rfl, rfl⟩
end Go.Proofs.YtfoglciiefoodaaGreatDoor

namespace Go.Proofs.YtfoglciiefoodaaGreatDoor
open Go.RowKit

theorem RowC.keep {sz : Nat} {S : Nat → Prop} {W W' : World} {v : Value} {n : Nat} {cs : List Value} (h : RowC sz W v n cs) (hk : Keep S W.heap.size W W') (hg : ∀ g, v.ownBlock = some g → ¬ S g) : RowC sz W' v n cs := by
  obtain ⟨hl, ao, cap, rfl, h1, h2, h3, h4⟩ := h
  refine ⟨hl, ao, cap, rfl, h1, h2, h3, fun ad ha => ?_⟩
  subst ha
  obtain ⟨b, off, rfl, hlt, hc⟩ := h4 _ rfl
  refine ⟨b, off, rfl, Nat.lt_of_lt_of_le hlt hk.size, fun j u hj => ?_⟩
  rw [hk.cell (p := ⟨b, off + j, none⟩) hlt (hg b rfl)]
  exact hc j u hj
theorem RowC.lt {sz : Nat} {W : World} {v : Value} {n : Nat} {cs : List Value} (h : RowC sz W v n cs) : ∀ g, v.ownBlock = some g → g < W.heap.size := by
  obtain ⟨_, ao, cap, rfl, _, _, _, h4⟩ := h
  intro g hg
  cases ao with
  | none => cases hg
  | some ad =>
    obtain ⟨b, off, rfl, hlt, _⟩ := h4 _ rfl
    cases hg
    exact hlt
structure Duo (C : CC) (N : Nat) (w : World) (p : Value) (l : List PCell) (S : Nat → Prop) (v : Value) (R : List Int) (W : World) : Prop where
  doc : C.D W p l S
  own : ∀ b, S b → N ≤ b
  up : Below N w W
  size : N ≤ W.heap.size
  row : RowC 1 W v R.length (R.map (Value.int .i32))
  apart : ∀ g, v.ownBlock = some g → ¬ S g
theorem Duo.below {C : CC} {N : Nat} {w : World} {p v : Value} {l : List PCell} {R : List Int} {S : Nat → Prop} {W W' : World} (h : Duo C N w p l S v R W) (hb : Below W.heap.size W W') : Duo C N w p l S v R W' :=
  ⟨C.below h.doc hb, h.own, h.up.trans (hb.mono h.size), Nat.le_trans h.size hb.size, h.row.below hb, h.apart⟩
theorem Duo.next {C : CC} {N : Nat} {w : World} {p v : Value} {l l2 : List PCell} {R : List Int} {S S2 : Nat → Prop} {W W' : World} (h : Duo C N w p l S v R W) (hk : DKept C.D p l2 S W W' S2) : Duo C N w p l2 S2 v R W' := by
  obtain ⟨q1, q2⟩ := hk.up h.own h.size
  exact ⟨hk.1, q1, h.up.trans q2, Nat.le_trans h.size q2.size, h.row.keep hk.2.2 h.apart, fun g hg hS => (hk.2.1 g hS).elim (h.apart g hg) fun q => Nat.lt_irrefl _ (Nat.lt_of_lt_of_le (h.row.lt g hg) q)⟩
theorem Duo.call {C : CC} {N f : Nat} {args : Array Value} {w : World} {p v x : Value} {l l2 : List PCell} {R : List Int} {S : Nat → Prop} {W : World} (h : Duo C N w p l S v R W) (hc : Calls Tryz.prog f args W (DVal C.D p l2 S x W)) :
    Calls Tryz.prog f args W fun e W' => e = .returned x ∧ ∃ S2, Duo C N w p l2 S2 v R W' := by
  refine hc.mono ?_
  rintro e W' ⟨S2, hk, he⟩
  exact ⟨he, S2, h.next hk⟩
structure Quad (C : CC) (N : Nat) (w : World) (p : Value) (l : List PCell) (S : Nat → Prop) (p' : Value) (l' : List PCell) (S' : Nat → Prop) (v : Value) (R : List Int) (W : World) : Prop where
  fst : Duo C N w p l S v R W
  snd : Duo C N w p' l' S' v R W
  two : ∀ b, S b → ¬ S' b
theorem Quad.below {C : CC} {N : Nat} {w : World} {p p' v : Value} {l l' : List PCell} {R : List Int} {S S' : Nat → Prop} {W W' : World} (h : Quad C N w p l S p' l' S' v R W) (hb : Below W.heap.size W W') : Quad C N w p l S p' l' S' v R W' := ⟨h.fst.below hb, h.snd.below hb, h.two⟩
theorem Quad.swap {C : CC} {N : Nat} {w : World} {p p' v : Value} {l l' : List PCell} {R : List Int} {S S' : Nat → Prop} {W : World} (h : Quad C N w p l S p' l' S' v R W) : Quad C N w p' l' S' p l S v R W := ⟨h.snd, h.fst, fun b h1 h2 => h.two b h2 h1⟩
theorem Quad.next {C : CC} {N : Nat} {w : World} {p p' v : Value} {l l2 l' : List PCell} {R : List Int} {S S2 S' : Nat → Prop} {W W' : World} (h : Quad C N w p l S p' l' S' v R W) (hk : DKept C.D p l2 S W W' S2) : Quad C N w p l2 S2 p' l' S' v R W' := by
  have h1 := h.fst.next hk
  refine ⟨h1, ⟨C.keep h.snd.doc (fun b hb => hk.2.2.block b (C.low h.snd.doc b hb) (fun hS => h.two b hS hb)) hk.2.2.size, h.snd.own, h1.up, h1.size, h1.row, h.snd.apart⟩, fun b hb hb' => ?_⟩
  rcases hk.2.1 b hb with q | q
  · exact h.two b q hb'
  · exact Nat.lt_irrefl _ (Nat.lt_of_lt_of_le (C.low h.snd.doc b hb') q)
theorem Quad.call {C : CC} {N f : Nat} {args : Array Value} {w : World} {p p' v x : Value} {l l2 l' : List PCell} {R : List Int} {S S' : Nat → Prop} {W : World} (h : Quad C N w p l S p' l' S' v R W) (hc : Calls Tryz.prog f args W (DVal C.D p l2 S x W)) :
    Calls Tryz.prog f args W fun e W' => e = .returned x ∧ ∃ S2, Quad C N w p l2 S2 p' l' S' v R W' := by
  refine hc.mono ?_
  rintro e W' ⟨S2, hk, he⟩
  exact ⟨he, S2, h.next hk⟩
theorem Quad.call2 {C : CC} {N f : Nat} {args : Array Value} {w : World} {p p' v x : Value} {l l2 l' : List PCell} {R : List Int} {S S' : Nat → Prop} {W : World} (h : Quad C N w p l S p' l' S' v R W) (hc : Calls Tryz.prog f args W (DVal C.D p' l2 S' x W)) :
    Calls Tryz.prog f args W fun e W' => e = .returned x ∧ ∃ S2, Quad C N w p l S p' l2 S2 v R W' := by
  refine hc.mono ?_
  rintro e W' ⟨S2, hk, he⟩
  exact ⟨he, S2, (h.swap.next hk).swap⟩
def SpK (S : Nat → Prop) (W : World) (v : Value) (xs : List Sp) : Prop := SpAt W v xs ∧ (xs ≠ [] → ∀ g, v.ownBlock = some g → g < W.heap.size ∧ ¬ S g)
theorem SpK.of {S : Nat → Prop} {W : World} {v : Value} {xs : List Sp} (h : SpAt W v xs) (hg : ∀ g, v.ownBlock = some g → ¬ S g) : SpK S W v xs := by
  refine ⟨h, fun hx g e => ⟨?_, hg g e⟩⟩
  obtain ⟨ao, cap, rfl, h2⟩ := h
  obtain ⟨b, off, rfl, hc⟩ := h2 hx
  have hb : b = g := by simpa [Value.ownBlock] using e
  subst hb
  exact World.block_lt_of_cell? _ _ (hc 0 (List.length_pos_iff.2 hx)).1
theorem SpK.keep {S S' : Nat → Prop} {W W' : World} {v : Value} {xs : List Sp} (h : SpK S W v xs) (hk : Keep S W.heap.size W W') (hS : ∀ b, S' b → S b ∨ W.heap.size ≤ b) : SpK S' W' v xs := by
  obtain ⟨⟨ao, cap, rfl, h2⟩, hg⟩ := h
  refine ⟨⟨ao, cap, rfl, fun hx => ?_⟩, fun hx g e => ⟨Nat.lt_of_lt_of_le (hg hx g e).1 hk.size, fun q => (hS g q).elim (hg hx g e).2 fun z => Nat.lt_irrefl _ (Nat.lt_of_lt_of_le (hg hx g e).1 z)⟩⟩
  obtain ⟨b, off, rfl, hc⟩ := h2 hx
  obtain ⟨g1, g2⟩ := hg hx b rfl
  exact ⟨b, off, rfl, fun i hi => ⟨by rw [hk.cell (p := ⟨b, off + i * 2, none⟩) g1 g2]; exact (hc i hi).1, by rw [hk.cell (p := ⟨b, off + i * 2 + 1, none⟩) g1 g2]; exact (hc i hi).2⟩⟩
theorem text_valid {l : List PCell} (h : cMay l = 0) : allValid (textR l) = true := by
  rw [allValid_iff]
  intro r hr
  unfold textR at hr
  obtain ⟨c, hc, rfl⟩ := List.mem_map.1 hr
  have := (List.all_eq_true.1 (cMay_ok h).1) c (List.mem_filter.1 hc).1
  unfold cellOk at this
  simp only [Bool.and_eq_true] at this
  exact this.2
theorem text_join {l : List PCell} (h : cMay l = 0) : cText l = ⟨(joinL (textR l)).toArray⟩ := by
  unfold cText
  rw [text_valid h]
  rfl
theorem conv_runes {R : List Int} (hv : allValid R = true) (hl : R.length ≤ 1000000) (w : World) : ∃ g cap W, (convert 9 65 (.string ⟨(joinL R).toArray⟩)).run Tryz.prog w = .ok (.slice (some ⟨g, 0, none⟩) R.length cap) W ∧
    RowC 1 W (.slice (some ⟨g, 0, none⟩) R.length cap) R.length (R.map (Value.int .i32)) ∧ g = w.heap.size ∧ Below w.heap.size w W := by
  have e := runesFrom_join hv
  have h := run_runes_of_string (P := Tryz.prog) w 9 65 21 ⟨(joinL R).toArray⟩ Tryz.underlying9 Tryz.underlying65 Tryz.underlying21 (by rw [e]; simp; omega)
  rw [e] at h
  rw [show (R.map (Value.int .i32)).toArray.size = R.length by simp] at h
  refine ⟨w.heap.size, _, _, h, ?_, rfl, (Below.refl _ w).drew.alloc (Nat.le_refl _) _⟩
  have hg := grownCap_ge w R.length 0 21
  refine ⟨by simp, _, _, rfl, ?_, ?_, (fun q => by cases q), fun ad had => ?_⟩
  · exact hg
  · exact grownCap_le_maxLen w R.length 0 21 (by unfold maxLen; omega)
  · cases had
    refine ⟨w.heap.size, 0, rfl, by simp, fun j u hj => ?_⟩
    have hb := heap_alloc_new w.drew (.cells ((R.map (Value.int .i32)).toArray ++ Array.replicate (grownCap w R.length 0 21 - R.length) (.int .i32 0)) 21)
    rw [Nat.zero_add]
    refine (cell_of_row _ _ j _ _ _ hb).trans ?_
    have hjl := (List.getElem?_eq_some_iff.1 hj).1
    rw [Array.getElem?_append_left (by simpa using hjl)]
    simpa using hj
theorem addr_add (b o j : Nat) : (⟨b, o, none⟩ : Addr).add j = ⟨b, o + j, none⟩ := by simp [Addr.add]
theorem size_joinR (xs : List Int) (h : xs.length ≤ 20000) : (⟨(joinL xs).toArray⟩ : ByteArray).size ≤ 1000000 := by
  have := joinL_length_le xs
  show (joinL xs).toArray.size ≤ 1000000
  rw [List.size_toArray]
  omega
theorem quad_text (C : CC2) {N : Nat} {w : World} {p p' v : Value} {l l' : List PCell} {R : List Int} {W : World} (h : ∃ S S', Quad C.toCC N w p l S p' l' S' v R W) :
    Calls Tryz.prog 18 #[p'] W fun e W' => e = .returned (.string (cText l')) ∧ ∃ S S', Quad C.toCC N w p l S p' l' S' v R W' := by
  obtain ⟨S, S', h⟩ := h
  refine (h.call2 (C.text p' l' S' W h.snd.doc)).mono ?_
  rintro e W' ⟨he, S2, hq⟩
  exact ⟨he, _, _, hq⟩
theorem quad_text2 (C : CC2) {N : Nat} {w : World} {p p' v : Value} {l l' : List PCell} {R : List Int} {W : World} (h : ∃ S S', Quad C.toCC N w p l S p' l' S' v R W) :
    Calls Tryz.prog 18 #[p] W fun e W' => e = .returned (.string (cText l)) ∧ ∃ S S', Quad C.toCC N w p l S p' l' S' v R W' := by
  obtain ⟨S, S', h⟩ := h
  refine (h.call (C.text p l S W h.fst.doc)).mono ?_
  rintro e W' ⟨he, S2, hq⟩
  exact ⟨he, _, _, hq⟩
theorem conv_cells {R : List Int} {W : World} {ad : Addr} {m c : Nat} (hm : R.length = m) (hc : ∀ j, j < R.length → W.cell? (ad.add j) = some (.int .i32 (R.getD j 0))) (hv : allValid R = true) :
    (convert 65 9 (.slice (some ad) m c)).run Tryz.prog W = .ok (.string ⟨(joinL R).toArray⟩) W := by
  rw [run_convert_runes (P := Tryz.prog) W 65 9 21 ad m c R (by omega) Tryz.underlying65 Tryz.underlying21 Tryz.underlying9 hc, List.take_of_length_le (by omega), runesBytes_join hv]
theorem valid_take {R : List Int} (h : allValid R = true) (k : Nat) : allValid (R.take k) = true := allValid_iff.2 fun r hr => allValid_iff.1 h r (List.mem_of_mem_take hr)
theorem valid_drop {R : List Int} (h : allValid R = true) (k : Nat) : allValid (R.drop k) = true := allValid_iff.2 fun r hr => allValid_iff.1 h r (List.mem_of_mem_drop hr)
theorem conv_pre {R : List Int} {W : World} {g ml gc k : Nat} (h : RowC 1 W (.slice (some ⟨g, 0, none⟩) ml gc) R.length (R.map (Value.int .i32))) (hm : R.length = ml) (hk : k ≤ ml) (hv : allValid R = true) :
    (convert 65 9 (.slice (some ⟨g, 0, none⟩) k gc)).run Tryz.prog W = .ok (.string ⟨(joinL (R.take k)).toArray⟩) W := by
  obtain ⟨_, ao, cap, e, h1, h2, h3, h4⟩ := h
  cases e
  obtain ⟨b, off, e, hlt, hc⟩ := h4 _ rfl
  cases e
  refine conv_cells (by rw [List.length_take]; omega) (fun j hj => ?_) (valid_take hv k)
  rw [List.length_take] at hj
  have q := hc j (.int .i32 (R.getD j 0)) (by rw [List.getElem?_map, List.getElem?_eq_getElem (by omega)]; simp [List.getD, show j < R.length by omega])
  rw [addr_add, q]
  simp [List.getD, show j < k by omega]
theorem conv_suf {R : List Int} {W : World} {g ml gc k c' : Nat} (h : RowC 1 W (.slice (some ⟨g, 0, none⟩) ml gc) R.length (R.map (Value.int .i32))) (hm : R.length = ml) (hk : k ≤ ml) (hv : allValid R = true) :
    (convert 65 9 (.slice (if gc = k then some ⟨g, 0, none⟩ else some ⟨g, k, none⟩) (ml - k) c')).run Tryz.prog W = .ok (.string ⟨(joinL (R.drop k)).toArray⟩) W := by
  obtain ⟨_, ao, cap, e, h1, h2, h3, h4⟩ := h
  cases e
  obtain ⟨b, off, e, hlt, hc⟩ := h4 _ rfl
  cases e
  by_cases hg : gc = k
  · rw [if_pos hg]
    refine conv_cells (by rw [List.length_drop, hm]) (fun j hj => ?_) (valid_drop hv k)
    rw [List.length_drop] at hj
    omega
  · rw [if_neg hg]
    refine conv_cells (by rw [List.length_drop, hm]) (fun j hj => ?_) (valid_drop hv k)
    rw [List.length_drop] at hj
    have q := hc (k + j) (.int .i32 (R.getD (k + j) 0)) (by rw [List.getElem?_map, List.getElem?_eq_getElem (by omega)]; simp [List.getD, show k + j < R.length by omega])
    rw [addr_add, show k + j = 0 + (k + j) by omega, q]
    simp [List.getD, List.getElem?_drop]
end Go.Proofs.YtfoglciiefoodaaGreatDoor
