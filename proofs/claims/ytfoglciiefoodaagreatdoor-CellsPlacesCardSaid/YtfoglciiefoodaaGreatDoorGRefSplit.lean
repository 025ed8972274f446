/- Texts of this proof, joined. -/
import Derived.Test.YtfoglciiefoodaaGreatDoorFirst
import Derived.Maps.AppendAt
import Derived.RangeFuncBox
import Derived.Test.YtfoglciiefoodaaGreatDoorRefBytes
import Derived.Test.YtfoglciiefoodaaGreatDoorGReads64
import Derived.Test.YtfoglciiefoodaaGreatDoorConvOwn
import Derived.Laws.BytesArg
import Derived.Test.YtfoglciiefoodaaGreatDoorGRefOps
import Derived.Deep.RegionHeldLaw
import Derived.Deep.AppendLies
import Derived.Test.YtfoglciiefoodaaGreatDoorGPlain
import Derived.Test.YtfoglciiefoodaaGreatDoorGNameEq
import Derived.Deep.QuietTactic
namespace Go.Proofs.YtfoglciiefoodaaGreatDoor
open Go.RowKit

theorem infoI32' : (Tryz.prog.info? 21).map (fun i => (i.zero, i.size, i.bytes)) = some (some (.int .i32 0), 1, 4) := by kernel_rfl
end Go.Proofs.YtfoglciiefoodaaGreatDoor

namespace Go.Proofs.YtfoglciiefoodaaGreatDoor
open Go.RowKit

def allValid (l : List Int) : Bool := l.all Lib.validRune
theorem allValid_iff {l : List Int} : allValid l = true ↔ ∀ r ∈ l, Lib.validRune r = true := by simp [allValid]

theorem joinL_length_le (l : List Int) : (joinL l).length ≤ 4 * l.length := by
  induction l with
  | nil => simp [joinL_nil]
  | cons r l ih =>
    rw [joinL_cons, List.length_append, List.length_cons]
    have := encode_le r
    omega
theorem joinL_take (l : List Int) (k : Nat) (h : k < l.length) : joinL (l.take (k + 1)) = joinL (l.take k) ++ Lib.encodeRune (l.getD k 0) := by
  rw [List.take_succ_eq_append_getElem h, joinL_append]
  simp [joinL, h]

def RJoinPost (w : World) (xs : List Int) (e : Ending) (w' : World) : Prop :=
  e = .returned (if allValid xs then .tuple #[.string ⟨(joinL xs).toArray⟩, .bool true] else .tuple #[.string ⟨#[]⟩, .bool false]) ∧ Below w.heap.size w w'
theorem RJoinPost.yes {w w' : World} {xs : List Int} (h : allValid xs = true) (hb : Below w.heap.size w w') : RJoinPost w xs (.returned (.tuple #[.string ⟨(joinL xs).toArray⟩, .bool true])) w' := ⟨by rw [if_pos h], hb⟩
theorem RJoinPost.no {w w' : World} {xs : List Int} (h : ¬ allValid xs = true) (hb : Below w.heap.size w w') : RJoinPost w xs (.returned (.tuple #[.string ⟨#[]⟩, .bool false])) w' := ⟨by rw [if_neg h], hb⟩

end Go.Proofs.YtfoglciiefoodaaGreatDoor

namespace Go.Proofs.YtfoglciiefoodaaGreatDoor
open Go.RowKit

end Go.Proofs.YtfoglciiefoodaaGreatDoor

namespace Go.Proofs.YtfoglciiefoodaaGreatDoor
open Go.RowKit

def EBox (N : Nat) (s q c k a l : Int) (t : ByteArray) (w W : World) : Prop :=
  W.cell? ⟨N, 0, none⟩ = some (.int .i64 s) ∧ W.cell? ⟨N, 1, none⟩ = some (.int .i64 q) ∧ W.cell? ⟨N, 2, none⟩ = some (.int .i64 c) ∧ W.cell? ⟨N, 3, none⟩ = some (.int .i64 k) ∧
    W.cell? ⟨N, 4, none⟩ = some (.int .i64 a) ∧ W.cell? ⟨N, 5, none⟩ = some (.int .i64 l) ∧ W.cell? ⟨N, 6, none⟩ = some (.string t) ∧ Below N w W
theorem EBox.keep {N : Nat} {s q c k a l : Int} {t : ByteArray} {w W W' : World} (h : EBox N s q c k a l t w W) (hb : Below W.heap.size W W') : EBox N s q c k a l t w W' := by
  obtain ⟨h0, h1, h2, h3, h4, h5, h6, h7⟩ := h
  have hl : N < W.heap.size := World.block_lt_of_cell? W _ h0
  exact ⟨cell_stays hb h0, cell_stays hb h1, cell_stays hb h2, cell_stays hb h3, cell_stays hb h4, cell_stays hb h5, cell_stays hb h6, h7.trans (hb.mono (Nat.le_of_lt hl))⟩
theorem EBox.new (s q c k a l : Int) (t : ByteArray) (w : World) (ty : TypeId) : EBox w.heap.size s q c k a l t w (w.alloc (.cells #[.int .i64 s, .int .i64 q, .int .i64 c, .int .i64 k, .int .i64 a, .int .i64 l, .string t] ty)) := by
  have h := heap_alloc_new w (.cells #[.int .i64 s, .int .i64 q, .int .i64 c, .int .i64 k, .int .i64 a, .int .i64 l, .string t] ty)
  exact ⟨cell_of_row _ _ 0 _ _ _ h, cell_of_row _ _ 1 _ _ _ h, cell_of_row _ _ 2 _ _ _ h, cell_of_row _ _ 3 _ _ _ h, cell_of_row _ _ 4 _ _ _ h, cell_of_row _ _ 5 _ _ _ h, cell_of_row _ _ 6 _ _ _ h, (Below.refl _ w).alloc (Nat.le_refl _) _⟩
end Go.Proofs.YtfoglciiefoodaaGreatDoor

namespace Go.Proofs.YtfoglciiefoodaaGreatDoor
open Go.RowKit

theorem OBox.up {N : Nat} {s q n k a : Int} {t : ByteArray} {sp : Value} {w W W' : World} (h : OBox N s q n k a t sp w W) (hb : Below (N + 1) W W') : OBox N s q n k a t sp w W' := by
  obtain ⟨c0, c1, c2, c3, c4, c5, c6, hB⟩ := h
  have e : ∀ o, W'.cell? ⟨N, o, none⟩ = W.cell? ⟨N, o, none⟩ := fun o => hb.cell (p := ⟨N, o, none⟩) (Nat.lt_succ_self N)
  exact ⟨(e 0).trans c0, (e 1).trans c1, (e 2).trans c2, (e 3).trans c3, (e 4).trans c4, (e 5).trans c5, (e 6).trans c6, hB.trans (hb.mono (Nat.le_succ N))⟩
end Go.Proofs.YtfoglciiefoodaaGreatDoor

namespace Go.Proofs.YtfoglciiefoodaaGreatDoor
open Go.RowKit

def cText (l : List PCell) : ByteArray := if allValid (textR l) then ⟨(joinL (textR l)).toArray⟩ else ⟨#[]⟩
theorem getC_some {l : List PCell} {k : Nat} (h : k < l.length) : ∃ c, l[k]? = some c := ⟨l[k], List.getElem?_eq_getElem h⟩
set_option maxRecDepth 100000 in
set_option maxHeartbeats 2000000 in
theorem rSeen_any (v : Value) (l : List PCell) (p : Nat) (w : World) (h : CAt w v l) (hp : p ≤ l.length) (hl : l.length ≤ 1000000) :
    Calls Tryz.prog 27 #[v, .int .i64 p] w fun e w' => e = .returned (.int .i64 (cSeen l p)) ∧ w' = w := by
  have H := Lib.hid h
  obtain ⟨bo, cap, rfl, h1, h2⟩ := h.shape
  obtain ⟨L, hL⟩ : ∃ L, l.length = L := ⟨_, rfl⟩
  have HL := Lib.hid hL
  rw [hL] at hp hl h1 ⊢
  have Z := Lib.hid (cSeen_zero l)
  clear hL h
  go_enter Tryz.func27, Tryz.ntmps27
  go_wp2
  go_loopw [5, 6] (fun n i wr => ∃ k : Nat, i = .int .i64 k ∧ n = .int .i64 (cSeen l k) ∧ k ≤ p ∧ wr = w) (fun _ i _ => p - (intOf i).toNat)
  case atStart => exact ⟨0, rfl, by rw [Z.out]; rfl, Nat.zero_le _, rfl⟩
  case round =>
    obtain ⟨k, rfl, rfl, hk, rfl⟩ := hrel
    rcases Nat.lt_or_ge k p with hlt | hge
    · obtain ⟨c, hc⟩ := getC_some (l := l) (k := k) (by rw [HL.out]; omega)
      obtain ⟨b, off, cp, hv, c0, c1, c2, c3, c4⟩ := H.out.at hc
      rw [HL.out] at hv
      cases hv
      have hi0 : (0 : Int) ≤ (k : Int) ∧ (k : Int) < (L : Int) := ⟨by omega, by omega⟩
      have hle := cSeen_le l k
      cases hg : c.gone with
      | true =>
        rw [hg] at c4
        have HN := Lib.hid (cSeen_gone hc hg)
        clear hc hg c0 c1 c2 c3
        go_wp2
        exact ⟨⟨k + 1, by go_num, by rw [HN.out], by omega, trivial⟩, by simp [intOf]; omega⟩
      | false =>
        rw [hg] at c4
        have HN := Lib.hid (cSeen_live hc hg)
        clear hc hg c0 c1 c2 c3
        generalize cSeen l k = S at *
        go_wp2
        exact ⟨⟨k + 1, by go_num, by rw [HN.out]; go_num, by omega, trivial⟩, by simp [intOf]; omega⟩
    · have hk' : k = p := by omega
      subst hk'
      go_wp2
      go_ret
      exact ⟨rfl, rfl⟩
set_option maxRecDepth 100000 in
set_option maxHeartbeats 2000000 in
theorem rLive_any (v : Value) (l : List PCell) (w : World) (h : CAt w v l) (hl : l.length ≤ 1000000) :
    Calls Tryz.prog 17 #[v] w fun e w' => e = .returned (.int .i64 (cLive l)) ∧ w' = w := by
  have hS := rSeen_any v l l.length w h (Nat.le_refl _) hl
  obtain ⟨bo, cap, rfl, h1, h2⟩ := h.shape
  unfold cLive
  generalize cSeen l l.length = S at *
  generalize l.length = L at *
  clear h
  go_enter Tryz.func17, Tryz.ntmps17
  go_wp2_with fail
  refine hS.mono ?_
  rintro e w1 ⟨rfl, rfl⟩
  go_wp2
  go_ret
  exact ⟨rfl, rfl⟩
end Go.Proofs.YtfoglciiefoodaaGreatDoor

namespace Go.Proofs.YtfoglciiefoodaaGreatDoor
open Go.RowKit

def gapOk (l : List PCell) (i : Int) (p : Nat) : Bool := match l[p]? with
  | some c => !c.gone && decide ((cSeen l p : Int) = i)
  | none => false
def gapTo (l : List PCell) (i : Int) (k : Nat) : Option Nat := (List.range k).find? (gapOk l i)
theorem gapTo_next (l : List PCell) (i : Int) (k : Nat) : gapTo l i (k + 1) = (gapTo l i k).or (if gapOk l i k then some k else none) := by
  unfold gapTo
  rw [List.range_succ, List.find?_append]
  cases h : gapOk l i k <;> simp [h]
theorem gapTo_more {l : List PCell} {i : Int} {k p : Nat} (h : gapTo l i k = some p) : ∀ m, gapTo l i (k + m) = some p
  | 0 => h
  | m + 1 => by rw [← Nat.add_assoc, gapTo_next, gapTo_more h m]; rfl
def cGap (l : List PCell) (i : Int) : Int := match gapTo l i l.length with
  | some p => p
  | none => if (cLive l : Int) = i then l.length else -1
set_option maxRecDepth 100000 in
set_option maxHeartbeats 4000000 in
theorem rGap_any (v : Value) (l : List PCell) (i : Int) (w : World) (h : CAt w v l) (hl : l.length ≤ 1000000) :
    Calls Tryz.prog 25 #[v, .int .i64 i] w fun e w' => e = .returned (.int .i64 (cGap l i)) ∧ w' = w := by
  have hS := fun p (hp : p ≤ l.length) => rSeen_any v l p w h hp hl
  have hV := rLive_any v l w h hl
  have H := Lib.hid h
  obtain ⟨bo, cap, rfl, h1, h2⟩ := h.shape
  obtain ⟨L, hL⟩ : ∃ L, l.length = L := ⟨_, rfl⟩
  have HL := Lib.hid hL
  rw [hL] at hl h1 hS hV ⊢
  have HS := Lib.hid hS
  have HV := Lib.hid hV
  clear hL h hS hV
  go_enter Tryz.func25, Tryz.ntmps25
  go_wp2
  go_loopw [5] (fun j wr => ∃ k : Nat, j = .int .i64 k ∧ k ≤ L ∧ RowKit.Hid (gapTo l i k = none) ∧ wr = w) (fun j _ => L - (intOf j).toNat)
  case atStart => exact ⟨0, rfl, Nat.zero_le _, Lib.hid rfl, rfl⟩
  case round =>
    obtain ⟨k, rfl, hk, hno, hwr⟩ := hrel
    subst wr
    rcases Nat.lt_or_ge k L with hlt | hge
    · obtain ⟨c, hc⟩ := getC_some (l := l) (k := k) (by rw [HL.out]; omega)
      obtain ⟨b, off, cp, hv, c0, c1, c2, c3, c4⟩ := H.out.at hc
      rw [HL.out] at hv
      cases hv
      have hi0 : (0 : Int) ≤ (k : Int) ∧ (k : Int) < (L : Int) := ⟨by omega, by omega⟩
      have hgo : gapOk l i k = (!c.gone && decide ((cSeen l k : Int) = i)) := by unfold gapOk; rw [hc]
      have hS := HS.out k (by omega)
      clear c0 c1 c2 c3 hc
      cases hg : c.gone with
      | true =>
        rw [hg] at c4 hgo
        have HN := Lib.hid (show gapTo l i (k + 1) = none by rw [gapTo_next, hno.out, hgo]; rfl)
        clear hg hgo hS
        go_wp2
        exact ⟨⟨k + 1, by go_num, by omega, HN, trivial⟩, by simp [intOf]; omega⟩
      | false =>
        rw [hg] at c4 hgo
        by_cases he : (cSeen l k : Int) = i
        · have hx1 : cGap l i = k := by
            have h1 : gapTo l i (k + 1) = some k := by rw [gapTo_next, hno.out, hgo, decide_eq_true he]; rfl
            have h2 := gapTo_more h1 (L - (k + 1))
            unfold cGap
            rw [HL.out, show L = k + 1 + (L - (k + 1)) by omega, h2]
          have HX1 := Lib.hid hx1
          clear hg hgo hx1
          obtain ⟨S, hSS⟩ : ∃ S, cSeen l k = S := ⟨_, rfl⟩
          rw [hSS] at hS he
          clear hSS
          go_wp2_with (go_at_call 27; refine hS.mono ?_; clear hS; rintro e _ ⟨rfl, rfl⟩)
          go_ret
          exact ⟨ret_i64 HX1.out.symm, rfl⟩
        · have HN := Lib.hid (show gapTo l i (k + 1) = none by rw [gapTo_next, hno.out, hgo, decide_eq_false he]; rfl)
          clear hg hgo
          generalize cSeen l k = S at *
          go_wp2_with (go_at_call 27; refine hS.mono ?_; clear hS; rintro e _ ⟨rfl, rfl⟩)
          exact ⟨⟨k + 1, by go_num, by omega, HN, trivial⟩, by simp [intOf]; omega⟩
    · have hk2 : k = L := by omega
      subst hk2
      have hV := HV.out
      have hno' := hno.out
      by_cases he : (cLive l : Int) = i
      · have HX1 := Lib.hid (show cGap l i = k by unfold cGap; rw [HL.out, hno', ← HL.out]; exact if_pos he)
        clear hno' hno
        obtain ⟨S, hSS⟩ : ∃ S, cLive l = S := ⟨_, rfl⟩
        rw [hSS] at hV he
        clear hSS
        go_wp2_with (go_at_call 17; refine hV.mono ?_; clear hV; rintro e _ ⟨rfl, rfl⟩)
        go_ret
        exact ⟨ret_i64 HX1.out.symm, rfl⟩
      · have HX1 := Lib.hid (show cGap l i = -1 by unfold cGap; rw [HL.out, hno', ← HL.out]; exact if_neg he)
        clear hno' hno
        generalize cLive l = S at *
        go_wp2_with (go_at_call 17; refine hV.mono ?_; clear hV; rintro e _ ⟨rfl, rfl⟩)
        go_ret
        exact ⟨ret_i64 HX1.out.symm, rfl⟩
def runB (l : List PCell) (i n : Int) (p : Nat) : Bool := match l[p]? with
  | some c => !c.gone && (decide (i ≤ (cSeen l p : Int)) && decide ((cSeen l p : Int) - i < n))
  | none => false
def cRunOk (l : List PCell) (i n : Int) : Bool := decide (0 ≤ i ∧ i ≤ cLive l ∧ 0 ≤ n ∧ n ≤ cLive l - i)
def cRun (l : List PCell) (i n : Int) : List Sp := sMade (runB l i n) 20000
def CRunPost (l : List PCell) (i n : Int) (w : World) (e : Ending) (w' : World) : Prop := ∃ v, e = .returned (.tuple #[v, .bool (cRunOk l i n)]) ∧ SpAt w' v (if cRunOk l i n then cRun l i n else []) ∧ Below w.heap.size w w'
theorem CRunPost.no {l : List PCell} {i n : Int} {w : World} (h : cRunOk l i n = false) : CRunPost l i n w (.returned (.tuple #[.slice none 0 0, .bool false])) w := ⟨_, by rw [h], by rw [h]; exact SpAt.nil _, Below.refl _ _⟩
theorem CRunPost.yes {l : List PCell} {i n : Int} {w w' : World} {v : Value} (h : cRunOk l i n = true) (hv : SpAt w' v (cRun l i n)) (hb : Below w.heap.size w w') : CRunPost l i n w (.returned (.tuple #[v, .bool true])) w' := ⟨_, by rw [h], by rw [h]; exact hv, hb⟩
set_option maxRecDepth 100000 in
set_option maxHeartbeats 4000000 in
theorem rRunS_any (v : Value) (l : List PCell) (i n : Int) (w : World) (h : CAt w v l) (hl : l.length ≤ 20000) :
    Calls Tryz.prog 29 #[v, .int .i64 i, .int .i64 n] w (CRunPost l i n w) := by
  have hV := (rLive_any v l w h (by omega)).mono fun e w' (q : e = _ ∧ w' = w) => (⟨q.1, q.2.symm⟩ : e = _ ∧ w = w')
  have H := Lib.hid h
  have hmk := run_makeB w
  have HB0 := Lib.hid (MB.new w)
  obtain ⟨bo, cap, rfl, h1, h2⟩ := h.shape
  obtain ⟨L, hL⟩ : ∃ L, l.length = L := ⟨_, rfl⟩
  have HL := Lib.hid hL
  rw [hL] at hl h1 hV ⊢
  obtain ⟨S, hS⟩ : ∃ S, cLive l = S := ⟨_, rfl⟩
  have HS := Lib.hid hS
  have hSL : S ≤ L := by rw [← hS, ← hL]; exact cSeen_le l _
  rw [hS] at hV
  clear hL h hS
  cases hok : cRunOk l i n with
  | false =>
    have HO := Lib.hid hok
    unfold cRunOk at hok
    rw [HS.out] at hok
    have hq := of_decide_eq_false hok
    clear hok hmk
    by_cases a0 : i < 0
    · clear hq
      go_enter Tryz.func29, Tryz.ntmps29
      go_wp2
      go_ret2
      exact CRunPost.no HO.out
    by_cases a1 : (S : Int) < i
    · clear hq
      go_enter Tryz.func29, Tryz.ntmps29
      go_wp2_with (go_at_call 17; refine hV.mono ?_; rintro e _ ⟨rfl, rfl⟩)
      go_ret2
      exact CRunPost.no HO.out
    by_cases a2 : n < 0
    · clear hq
      go_enter Tryz.func29, Tryz.ntmps29
      go_wp2_with (go_at_call 17; refine hV.mono ?_; rintro e _ ⟨rfl, rfl⟩)
      go_ret2
      exact CRunPost.no HO.out
    have a3 : (S : Int) - i < n := by omega
    have hw : IntKind.i64.wrap ((S : Int) - i) = (S : Int) - i := by simp only [IntKind.wrap_i64]; omega
    clear hq
    go_enter Tryz.func29, Tryz.ntmps29
    go_wp2_with (go_at_call 17; refine hV.mono ?_; rintro e _ ⟨rfl, rfl⟩)
    go_ret2
    exact CRunPost.no HO.out
  | true =>
    have HO := Lib.hid hok
    unfold cRunOk at hok
    rw [HS.out] at hok
    obtain ⟨a0, a1, a2, a3⟩ := of_decide_eq_true hok
    have b0 : ¬ i < 0 := by omega
    have b1 : ¬ (S : Int) < i := by omega
    have b2 : ¬ n < 0 := by omega
    have b3 : ¬ (S : Int) - i < n := by omega
    have hw : IntKind.i64.wrap ((S : Int) - i) = (S : Int) - i := by simp only [IntKind.wrap_i64]; omega
    clear hok
    go_enter Tryz.func29, Tryz.ntmps29
    go_wp2_with (go_at_call 17; refine hV.mono ?_; rintro e _ ⟨rfl, rfl⟩)
    have hmk' := hmk
    clear hmk hmk' hV a0 a1 a2 a3
    generalize w.alloc (.cells (bArr fun _ => false) 4) = w0 at *
    go_loopw [9, 10] (fun c j wr => ∃ k : Nat, j = .int .i64 k ∧ c = .int .i64 (cSeen l k) ∧ k ≤ L ∧ RowKit.Hid (MB w.heap.size (fun j => decide (j < k) && runB l i n j) w wr)) (fun _ j _ => L - (intOf j).toNat)
    case atStart => exact ⟨0, rfl, by rw [cSeen_zero]; rfl, Nat.zero_le _, by
      have e : (fun j => decide (j < 0) && runB l i n j) = fun _ => false := by funext j; simp
      rw [e]; exact HB0⟩
    case round =>
      obtain ⟨k, rfl, rfl, hk, hbx⟩ := hrel
      rcases Nat.lt_or_ge k L with hlt | hge
      · obtain ⟨c, hc⟩ := getC_some (l := l) (k := k) (by rw [HL.out]; omega)
        obtain ⟨b, off, cp, hv, c0, c1, c2, c3, c4⟩ := (H.out.below hbx.out.2).at hc
        rw [HL.out] at hv
        cases hv
        have hi0 : (0 : Int) ≤ (k : Int) ∧ (k : Int) < (L : Int) := ⟨by omega, by omega⟩
        have hi1 : (0 : Int) ≤ (k : Int) ∧ (k : Int) < (20000 : Int) := ⟨by omega, by omega⟩
        have hle := cSeen_le l k
        have hro : runB l i n k = (!c.gone && (decide (i ≤ (cSeen l k : Int)) && decide ((cSeen l k : Int) - i < n))) := by unfold runB; rw [hc]
        have d0 := hbx.out.cell k (by omega)
        have d1 := hbx.out.frozen k
        have e : ∀ x, runB l i n k = x → (fun j => if j = k then x else (decide (j < k) && runB l i n j)) = fun j => decide (j < k + 1) && runB l i n j := fun x hx => by
          funext j
          by_cases q : j = k
          · subst q
            rw [if_pos rfl, decide_eq_true (by omega), Bool.true_and, hx]
          · rw [if_neg q]
            congr 1
            exact decide_eq_decide.2 (by omega)
        clear c0 c1 c2 c3
        cases hg : c.gone with
        | true =>
          rw [hg] at c4 hro
          have hN := hbx.out
          have e2 : (fun j => decide (j < k) && runB l i n j) = fun j => decide (j < k + 1) && runB l i n j := by
            rw [← e false (by rw [hro]; rfl)]
            funext j
            by_cases q : j = k
            · subst q
              rw [if_pos rfl, decide_eq_false (by omega)]
              rfl
            · rw [if_neg q]
          rw [e2] at hN
          have HN := Lib.hid hN
          have HC := Lib.hid (cSeen_gone hc hg)
          clear hN e2 e hro hg hc d0 d1
          go_wp2
          exact ⟨⟨k + 1, by go_num, by rw [HC.out], by omega, HN⟩, by simp [intOf]; omega⟩
        | false =>
          rw [hg] at c4 hro
          have HC := Lib.hid (cSeen_live hc hg)
          obtain ⟨T, hT⟩ : ∃ T, cSeen l k = T := ⟨_, rfl⟩
          rw [hT] at hro HC hle ⊢
          have hw : IntKind.i64.wrap ((T : Int) - i) = (T : Int) - i ∨ (T : Int) < i := by
            by_cases q : (T : Int) < i
            · exact .inr q
            · left; simp only [IntKind.wrap_i64]; omega
          obtain ⟨x, hx⟩ : ∃ x, (decide (i ≤ (T : Int)) && decide ((T : Int) - i < n)) = x := ⟨_, rfl⟩
          have hr2 : runB l i n k = x := by rw [hro, ← hx]; rfl
          have hN := hbx.out.set k x
          rw [e x hr2] at hN
          have HN := Lib.hid hN
          clear hN e hro hg hc hr2 hT
          by_cases q : (T : Int) < i
          · rw [decide_eq_false (by omega), Bool.false_and] at hx
            subst hx
            clear hw
            go_wp2
            exact ⟨⟨k + 1, by go_num, by rw [HC.out]; go_num, by omega, HN⟩, by simp [intOf]; omega⟩
          · have hw := hw.resolve_right q
            by_cases q2 : (T : Int) - i < n
            · rw [decide_eq_true (by omega), decide_eq_true q2] at hx
              simp only [Bool.and_self] at hx
              subst hx
              go_wp2
              exact ⟨⟨k + 1, by go_num, by rw [HC.out]; go_num, by omega, HN⟩, by simp [intOf]; omega⟩
            · rw [decide_eq_false q2, Bool.and_false] at hx
              subst hx
              go_wp2
              exact ⟨⟨k + 1, by go_num, by rw [HC.out]; go_num, by omega, HN⟩, by simp [intOf]; omega⟩
      · have hk' : k = L := by omega
        subst hk'
        have hM := fun W => rSpMade_any (.slice (some ⟨w.heap.size, 0, none⟩) 20000 20000) 20000 (fun j => decide (j < k) && runB l i n j) W
        have e : (fun j => decide (j < k) && runB l i n j) = runB l i n := by
          funext j
          by_cases q : j < k
          · rw [decide_eq_true q, Bool.true_and]
          · have hz : runB l i n j = false := by unfold runB; rw [List.getElem?_eq_none (by rw [HL.out]; omega)]
            rw [decide_eq_false q, Bool.false_and, hz]
        have hA := hbx.out.reads 20000
        have hB := hbx.out.2
        rw [e] at hM hA
        have HA := Lib.hid hA
        have Hb := Lib.hid hB
        clear e hA hB b0 b1 b2 b3 hw
        go_wp2_with fail
        refine (hM _ HA.out (Nat.le_refl _)).mono ?_
        clear hM
        rintro e w2 ⟨v2, rfl, hs2, hb2⟩
        have HS2 := Lib.hid hs2
        have HZ := Lib.hid (Hb.out.trans (hb2.mono Hb.out.size))
        clear hs2 hb2
        go_wp2
        go_ret2
        exact CRunPost.yes HO.out HS2.out HZ.out
end Go.Proofs.YtfoglciiefoodaaGreatDoor

namespace Go.Proofs.YtfoglciiefoodaaGreatDoor
open Go.RowKit

end Go.Proofs.YtfoglciiefoodaaGreatDoor

namespace Go.Proofs.YtfoglciiefoodaaGreatDoor
open Go.RowKit

def hasN (l : List PCell) (s q : Int) : Bool := l.any fun c => decide (c.site = s ∧ c.seq = q)
def cDo (l : List PCell) (o : POp) : List PCell × Int := if oMay o l.length then (if o.kind = 1 ∧ hasN l o.site o.seq = true then (l, 15) else (runC l o, 0)) else (l, 1)
def CellsEPost (v : Value) (x : List PCell × Int) (w : World) (e : Ending) (w' : World) : Prop := ∃ v', e = .returned (.tuple #[v', .int .i64 x.2]) ∧ CAt w' v' x.1 ∧ (v' = v ∨ ∀ g, v'.ownBlock = some g → w.heap.size ≤ g) ∧ Below w.heap.size w w'
theorem CellsEPost.same {v : Value} {l : List PCell} {c : Int} {x : List PCell × Int} {w w' : World} (hx : x = (l, c)) (h : CAt w v l) (hb : Below w.heap.size w w') : CellsEPost v x w (.returned (.tuple #[v, .int .i64 c])) w' := by
  subst hx
  exact ⟨v, rfl, h.below hb, .inl rfl, hb⟩
theorem CellsEPost.new {v v' : Value} {m : List PCell} {c : Int} {x : List PCell × Int} {w w' : World} (hx : x = (m, c)) (h : CAt w' v' m) (hf : ∀ g, v'.ownBlock = some g → w.heap.size ≤ g) (hb : Below w.heap.size w w') : CellsEPost v x w (.returned (.tuple #[v', .int .i64 c])) w' := by
  subst hx
  exact ⟨v', rfl, h, .inr hf, hb⟩
end Go.Proofs.YtfoglciiefoodaaGreatDoor

namespace Go.Proofs.YtfoglciiefoodaaGreatDoor
open Go.RowKit

def keptC (l : List PCell) (f : Nat → Bool) (k : Nat) : List PCell := (List.range k).filterMap fun i => if f i then none else l[i]?
theorem keptC_no {l : List PCell} {f : Nat → Bool} {k : Nat} (hf : f k = true) : keptC l f (k + 1) = keptC l f k := by
  unfold keptC
  rw [List.range_succ, List.filterMap_append]
  simp [hf]
theorem keptC_yes {l : List PCell} {f : Nat → Bool} {k : Nat} {c : PCell} (hf : f k = false) (hc : l[k]? = some c) : keptC l f (k + 1) = keptC l f k ++ [c] := by
  unfold keptC
  rw [List.range_succ, List.filterMap_append]
  simp [hf, hc]
theorem keptC_le (l : List PCell) (f : Nat → Bool) (k : Nat) : (keptC l f k).length ≤ k := by
  unfold keptC
  refine Nat.le_trans (List.length_filterMap_le _ _) ?_
  rw [List.length_range]
  exact Nat.le_refl _
def outB (f : Nat → Bool) (n m : Nat) : Bool := (List.range m).any fun i => decide (n ≤ i) && f i
def liveB (l : List PCell) (f : Nat → Bool) (k : Nat) : Bool := (List.range k).any fun i => f i && !goneB l i
def cDrop (l : List PCell) (xs : List Sp) : List PCell × Int :=
  if sMay xs then (if outB (sMark xs) l.length 20000 then (l, 1) else if liveB l (sMark xs) l.length then (l, 13) else (keptC l (sMark xs) l.length, 0)) else (l, 1)
end Go.Proofs.YtfoglciiefoodaaGreatDoor

namespace Go.Proofs.YtfoglciiefoodaaGreatDoor
open Go.RowKit

def cellOk (c : PCell) : Bool := nMay c.site c.seq && decide (0 ≤ c.off ∧ c.off ≤ 199) && Lib.validRune c.r
def sameId (c d : PCell) : Bool := decide (c.site = d.site ∧ c.seq = d.seq ∧ c.off = d.off)
def dupTo (l : List PCell) (d : PCell) (k : Nat) : Bool := (l.take k).any fun c => sameId c d
def dupC (l : List PCell) (n : Nat) : Bool := (List.range n).any fun i => match l[i]? with
  | some d => dupTo l d i
  | none => false
def cMay (l : List PCell) : Int := if l.all cellOk then (if dupC l l.length then 15 else if 20000 < l.length then 4 else 0) else 1
end Go.Proofs.YtfoglciiefoodaaGreatDoor
