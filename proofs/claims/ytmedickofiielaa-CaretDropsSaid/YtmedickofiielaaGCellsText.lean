/- Texts of this proof, joined. -/
import Derived.Test.YtmedickofiielaaGCellsBlk
import Derived.Test.YtmedickofiielaaGRefSplit
import Derived.Test.YtmedickofiielaaJoin
import Derived.Test.YtmedickofiielaaGReads64
import Derived.Test.YtmedickofiielaaGNameEq
import Derived.Test.YtmedickofiielaaCellsChunk
import Derived.Test.YtmedickofiielaaShClone
import Derived.Test.YtmedickofiielaaGSpansPlain
import Derived.Test.YtmedickofiielaaCellsInsert
import Derived.Maps.AppendAt
import Derived.Test.YtmedickofiielaaGIter
import Derived.Test.YtmedickofiielaaGPlain
import Derived.Test.YtmedickofiielaaGRefOps
namespace Go.Proofs.Ytmedickofiielaa
open Go.RowKit Go.Shelf
attribute [local go_sem] Oper.semAt_some

theorem make_runes (n : Nat) (hn : n ≤ 1000000) : ∃ cur : Array Value, cur.size = n * 1 ∧ ∀ W : World, (Instr.makeSlice 80 (.int .i64 0) (.int .i64 (n : Int))).run Try.prog W = .ok (.slice (some ⟨W.heap.size, 0, none⟩) 0 n) (W.alloc (.cells cur 21)) := by
 obtain ⟨i0, hi, hz0, hz1, hz2⟩ := info_parts infoI32'
 refine ⟨madeCells (Value.int .i32 0).cells (n * 1), ?_, fun W => ?_⟩
 ·simp [madeCells]
 ·have h := run_make (P := Try.prog) (w := W) 80 21 i0 (.int .i32 0) Try.underlying80 hi hz0 .i64 .i64 0 n (Int.le_refl _) (by omega) (by rw [hz2]; omega) (by omega)
  rw [Int.toNat_natCast, hz1] at h
  exact h
theorem slice_of {W : World} {N : Nat} {e : TypeId} {sz : Nat} {v : Value} {n : Nat} {xs : List Value} (h : W.ownsRow N e sz v n xs) : ∃ ao n cap, v = .slice ao n cap := by
 rcases h.2 with ⟨q, _⟩ | ⟨g, cap, cur, q, _⟩
 ·exact ⟨_, _, _, q⟩
 ·exact ⟨_, _, _, q⟩

end Go.Proofs.Ytmedickofiielaa

namespace Go.Proofs.Ytmedickofiielaa
open Go.RowKit Go.Shelf
attribute [local go_sem] Oper.semAt_some

def preOk (c : PCell) : Bool := nMay c.site c.seq && decide (0 ≤ c.off ∧ c.off < 200)
theorem cellOk_pre (c : PCell) : cellOk c = (preOk c && Lib.validRune c.r) := by
 unfold cellOk preOk
 have : decide (0 ≤ c.off ∧ c.off ≤ 199) = decide (0 ≤ c.off ∧ c.off < 200) := by rw [decide_eq_decide]; omega
 rw [this]
theorem allOk_split (l : List PCell) : l.all cellOk = (l.all preOk && allValid (l.map (·.r))) := by
 unfold allValid
 rw [Bool.eq_iff_iff]
 simp only [List.all_eq_true, Bool.and_eq_true, List.mem_map, forall_exists_index, and_imp, forall_apply_eq_imp_iff₂, cellOk_pre]
 exact ⟨fun h => ⟨fun x hx => (h x hx).1, fun x hx => (h x hx).2⟩, fun ⟨a, b⟩ x hx => ⟨a x hx, b x hx⟩⟩
set_option maxRecDepth 100000 in
set_option maxHeartbeats 8000000 in
theorem cmay_any (v : Value) (l : List PCell) (w : World) (h : CAt w v l) (hl : l.length ≤ 1000000) : Calls Try.prog 21 #[v] w fun e w' => e = .returned (.bool (l.all cellOk)) ∧ Below w.heap.size w w' := by
 have HR := Lib.hid h
 obtain ⟨ao, cap, rfl, -⟩ := h.shape
 have HSP := Lib.hid (allOk_split l)
 have hjo := fun v W (h : Reads32 W v (l.map (·.r))) => join_any v (l.map (·.r)) (by rw [List.length_map]; omega) W h
 unfold JoinPost at hjo
 have HJ := Lib.hid hjo
 obtain ⟨N, hN⟩ : ∃ N, l.length = N := ⟨_, rfl⟩
 obtain ⟨cur, hcur, hmk⟩ := make_runes N (by omega)
 have HN := Lib.hid hN
 rw [hN] at hl
 obtain ⟨i0, hi, hz0, hz1, hz2⟩ := info_parts infoI32'
 have HI := Lib.hid (And.intro hi (And.intro hz0 (And.intro hz1 hz2)))
 have hcl : (0 : Int) ≤ (N : Int) ∧ (N : Int) ≤ 1000000 := by omega
 have hown := World.ownsRow_made (e := 21) w cur N (Nat.le_refl _) (by unfold maxLen; omega) hcur
 have HO := Lib.hid hown
 have HB0 := Lib.hid ((Below.refl _ w).alloc (Nat.le_refl _) (.cells cur 21))
 have hmay := fun s q W => pMayName_any s q W
 have hoff := fun o W => mayOff_any o W
 unfold nmV at hmay
 have HM := Lib.hid (And.intro hmay hoff)
 clear hN h hjo hi hz0 hz1 hz2 hown hmay hoff
 rw [HN.out]
 go_enter Try.func21, Try.ntmps21
 go_wp2
 generalize w.alloc (.cells cur 21) = w1 at HO HB0 ⊢
 go_loopw [13, 3] (fun i a wr => ∃ k : Nat, k ≤ N ∧ i = .int .i64 k ∧ (∃ ao n cap, a = .slice ao n cap ∧ RowKit.Hid (wr.ownsRow w.heap.size 21 1 (.slice ao n cap) k ((l.take k).map fun c => Value.int .i32 c.r))) ∧ RowKit.Hid (Below w.heap.size w wr) ∧ RowKit.Hid ((l.take k).all preOk = true)) (fun i _ _ => N - (intOf i).toNat)
 case atStart => exact ⟨0, Nat.zero_le _, rfl, ⟨_, _, _, rfl, by rw [List.take_zero]; exact HO⟩, HB0, Lib.hid (by simp)⟩
 case round =>
  rename World => wr
  obtain ⟨k, hk, rfl, ⟨ao', n', cap', rfl, hown⟩, hB, hall⟩ := hrel
  rcases Nat.lt_or_ge k N with hlt | hge
  ·obtain ⟨c, hc⟩ : ∃ c, l[k]? = some c := ⟨_, List.getElem?_eq_getElem (by rw [HN.out]; exact hlt)⟩
   obtain ⟨b, off, cp, hv, c0, c1, c2, c3, c4⟩ := (HR.out.below hB.out).at hc
   rw [HN.out] at hv
   cases hv
   have hi0 : (0 : Int) ≤ (k : Int) ∧ (k : Int) < (N : Int) := ⟨by omega, by omega⟩
   have HC := Lib.hid hc
   obtain ⟨x, hx⟩ : ∃ x, nMay c.site c.seq = x := ⟨_, rfl⟩
   obtain ⟨y, hy⟩ : ∃ y, decide (0 ≤ c.off ∧ c.off < 200) = y := ⟨_, rfl⟩
   have h1 := HM.out.1 c.site c.seq
   have h2 := HM.out.2 c.off
   rw [hx] at h1
   rw [hy] at h2
   have HX := Lib.hid (And.intro hx hy)
   have H1 := Lib.hid h1
   have H2 := Lib.hid h2
   obtain ⟨s, q, f, r, g⟩ := c
   dsimp only at c0 c1 c2 c3 c4 H1 H2
   have e1 := heap_new wr (.cells #[.int .i64 s, .int .i64 q, .int .i64 f, .int .i32 r, .bool g] 41)
   have HA := Lib.hid (And.intro e1 (And.intro (hown.out.alloc (.cells #[.int .i64 s, .int .i64 q, .int .i64 f, .int .i32 r, .bool g] 41)) (hB.out.alloc hB.out.size (.cells #[.int .i64 s, .int .i64 q, .int .i64 f, .int .i32 r, .bool g] 41))))
   clear hc hx hy h1 h2 e1 hown
   cases x with
   | false =>
    go_wp2_with (go_at_call 33; refine (H1.out _).mono ?_; rintro e w2 ⟨rfl, hb2⟩)
    go_ret
    refine ⟨?_, HA.out.2.2.trans (hb2.mono HA.out.2.2.size)⟩
    rw [HSP.out, show l.all preOk = false from by rw [List.all_eq_false]; exact ⟨_, List.mem_of_getElem? HC.out, by unfold preOk; rw [HX.out.1]; simp⟩]
    rfl
   | true =>
    cases y with
    | false =>
     go_wp2_with (first | (go_at_call 33; refine (H1.out _).mono ?_; rintro e w2 ⟨rfl, hb2⟩; have q0 := row_up HA.out.1 hb2; have z2 := box_cell q0 2) | (go_at_call 34; refine (H2.out _).mono ?_; rintro e w3 ⟨rfl, rfl⟩))
     go_ret
     refine ⟨?_, HA.out.2.2.trans (hb2.mono HA.out.2.2.size)⟩
     rw [HSP.out, show l.all preOk = false from by rw [List.all_eq_false]; exact ⟨_, List.mem_of_getElem? HC.out, by unfold preOk; rw [HX.out.2]; simp⟩]
     rfl
    | true =>
     have hws : w.heap.size ≤ wr.heap.size := hB.out.size
     go_wp2_with (first | (go_at_call 33; refine (H1.out _).mono ?_; rintro e w2 ⟨rfl, hb2⟩; have q0 := row_up HA.out.1 hb2; have z2 := box_cell q0 2; have z3 := box_cell q0 3; have HO2 := Lib.hid (own_up HA.out.2.1 hb2); have HB2 := Lib.hid (HA.out.2.2.trans (hb2.mono HA.out.2.2.size)); have hs2 := HB2.out.size) | (go_at_call 34; refine (H2.out _).mono ?_; rintro e w3 ⟨rfl, rfl⟩) | (at_builtin; refine wpList_append_own _ rfl _ _ 80 rfl w.heap.size 21 i0 (.int .i32 0) 1 4 Try.underlying80 HI.out.1 HI.out.2.1 HI.out.2.2.1 HI.out.2.2.2 rfl (by decide) _ _ _ rfl (HO2.out.alloc _) ⟨w3.heap.size, 0, none⟩ 1 1 [.int .i32 r] rfl rfl (cell_one_new _ _ _) (by simp [Value.oneCell']) (by unfold maxLen; omega) (by omega) (by simp; omega) ?_; intro v' w4 hown' hgrow _; obtain ⟨g', cap', rfl⟩ := ownsRow_succ hown'; have HO4 := Lib.hid hown'; have HB4 := Lib.hid (below_grown (HB2.out.alloc HB2.out.size _) hgrow (HO2.out.alloc _) (Nat.le_refl _)); clear hown' hgrow))
     go_roundw
     case rel =>
      refine ⟨k + 1, by omega, by go_num, ⟨_, _, _, rfl, Lib.hid ?_⟩, HB4, Lib.hid ?_⟩
      ·rw [List.take_add_one, HC.out, List.map_append]
       exact HO4.out
      ·rw [List.take_add_one, HC.out, List.all_append, hall.out]
       have h8 : nMay s q = true := HX.out.1
       have h9 : decide (0 ≤ f ∧ f < 200) = true := HX.out.2
       unfold preOk
       simp only [List.all_cons, List.all_nil, Option.toList, h8, h9, Bool.and_self]
     case measure => simp [intOf]; omega
  ·obtain rfl : N = k := by omega
   have ho := hown.out
   have ha := hall.out
   rw [List.take_of_length_le (by rw [HN.out]; exact Nat.le_refl _)] at ho ha
   rw [show l.map (fun c => Value.int .i32 c.r) = (l.map (·.r)).map (Value.int .i32) from by rw [List.map_map]; rfl] at ho
   have hlm : (l.map (·.r)).length = N := by rw [List.length_map, HN.out]
   rw [← hlm] at ho
   have HJ2 := Lib.hid (HJ.out _ wr (Reads32.of_own ho))
   have HF := Lib.hid (show l.all cellOk = allValid (l.map (·.r)) by rw [HSP.out, ha, Bool.true_and])
   clear ho ha hlm
   obtain ⟨z, hz⟩ : ∃ z, allValid (l.map (·.r)) = z := ⟨_, rfl⟩
   have hj := HJ2.out
   rw [hz] at hj
   have HZ := Lib.hid hz
   clear hz HJ2
   cases z with
   | true =>
    rw [if_pos rfl] at hj
    have HJ3 := Lib.hid hj
    clear hj
    go_wp2_with (go_at_call 35; refine HJ3.out.mono ?_; rintro e w2 ⟨rfl, hb2⟩)
    go_ret
    exact ⟨by rw [HF.out, HZ.out]; rfl, hB.out.trans (hb2.mono hB.out.size)⟩
   | false =>
    rw [if_neg (by decide)] at hj
    have HJ3 := Lib.hid hj
    clear hj
    go_wp2_with (go_at_call 35; refine HJ3.out.mono ?_; rintro e w2 ⟨rfl, hb2⟩)
    go_ret
    exact ⟨by rw [HF.out, HZ.out]; rfl, hB.out.trans (hb2.mono hB.out.size)⟩
end Go.Proofs.Ytmedickofiielaa

namespace Go.Proofs.Ytmedickofiielaa
open Go.RowKit Go.Shelf
attribute [local go_sem] Oper.semAt_some

end Go.Proofs.Ytmedickofiielaa

namespace Go.Proofs.Ytmedickofiielaa

theorem pos_live (l : List PCell) (k : Nat) : (posOf false (l.take k) 0).length = cSeen l k := by rw [posOf_length]; rfl
theorem posOf_some (l : List PCell) (g : Bool) (k : Nat) (hk : k < l.length) : ∃ c, l[k]? = some c ∧ posOf g (l.take (k + 1)) 0 = posOf g (l.take k) 0 ++ (if c.gone = g then [k] else []) := by
 obtain ⟨c, hc⟩ := getC_some (l := l) hk
 refine ⟨c, hc, ?_⟩
 rw [posOf_snoc g hc, Nat.zero_add]
theorem pos_gap (l : List PCell) (i : Nat) : ∀ k, k ≤ l.length → (posOf false (l.take k) 0)[i]? = gapTo l i k
 | 0, _ => by simp [posOf, gapTo]
 | k + 1, hk => by
  obtain ⟨c, hc, e⟩ := posOf_some l false k (by omega)
  have ih := pos_gap l i k (by omega)
  have hl := pos_live l k
  rw [e, gapTo_next, ← ih]
  have hok : gapOk l i k = (!c.gone && decide ((cSeen l k : Int) = i)) := by unfold gapOk; rw [hc]
  rw [hok]
  cases hg : c.gone with
  | true => simp
  | false =>
   rw [if_pos rfl]
   rcases Nat.lt_trichotomy i (cSeen l k) with h | h | h
   ·rw [List.getElem?_append_left (by omega), List.getElem?_eq_getElem (by omega)]
    simp
   ·rw [List.getElem?_append_right (by omega), hl, h, List.getElem?_eq_none (l := posOf false (l.take k) 0) (by omega)]
    simp
   ·rw [List.getElem?_append_right (by omega), hl, List.getElem?_eq_none (l := posOf false (l.take k) 0) (by omega), List.getElem?_eq_none (by simp; omega)]
    have : ¬ ((cSeen l k : Int) = (i : Int)) := by omega
    simp [this]
theorem gap_pos (l : List PCell) (i : Nat) : cGap l i = match (posOf false l 0)[i]? with
 | some p => (p : Int)
 | none => if (cLive l : Int) = i then (l.length : Int) else -1 := by
 have h := pos_gap l i l.length (Nat.le_refl _)
 rw [List.take_length] at h
 unfold cGap
 rw [h]
 rfl
end Go.Proofs.Ytmedickofiielaa

namespace Go.Proofs.Ytmedickofiielaa
open Go.RowKit Go.Shelf
attribute [local go_sem] Oper.semAt_some

set_option maxHeartbeats 1000000 in
theorem places_any (p : Option Addr) (g : Bool) (few : Int) (w : World) :
  Calls Try.prog 42 #[.pointer p, .bool g, .int .i64 few] w fun e w' => e = .returned (.func (.func 52) #[] #[.pointer (some ⟨w.heap.size + 2, 0, none⟩), .pointer (some ⟨w.heap.size, 0, none⟩), .pointer (some ⟨w.heap.size + 1, 0, none⟩)]) ∧
   w' = ((w.alloc (.cells #[.pointer p] 42)).alloc (.cells #[.bool g] 4)).alloc (.cells #[.int .i64 few] 3) := by
 go_enter Try.func42, Try.ntmps42
 go_wp2
 go_ret
 exact ⟨rfl, rfl⟩
theorem gap_results (W : World) (tm : Array Value) (P E : Nat) (a b : Int) (h4 : tm.getD 4 undef = .pointer (some ⟨P, 0, none⟩)) (h5 : tm.getD 5 undef = .pointer (some ⟨E, 0, none⟩)) (e0 : W.cell? ⟨P, 0, none⟩ = some (.int .i64 a)) (e1 : W.cell? ⟨E, 0, none⟩ = some (.int .i64 b)) :
  (results Try.f26 tm).run Try.prog W = .ok (.tuple #[.int .i64 a, .int .i64 b]) W := by
 have h4' : tm[4]?.getD undef = .pointer (some ⟨P, 0, none⟩) := by simpa using h4
 have h5' : tm[5]?.getD undef = .pointer (some ⟨E, 0, none⟩) := by simpa using h5
 simp [results, Try.f26, go_sem, h4', h5', e0, e1]
set_option maxRecDepth 100000 in
set_option maxHeartbeats 8000000 in
theorem dgap_no (B : Nat) (bv nm : Value) (bs : List PB) (i : Int) (w : World) (hR : DocR w B bv nm bs) (hi : i < 0 ∨ (liveN (catB bs) : Int) < i) :
  Calls Try.prog 26 #[.pointer (some ⟨B, 0, none⟩), .int .i64 i] w fun e W' => e = .returned (.tuple #[.int .i64 0, .int .i64 3]) ∧ Below w.heap.size w W' := by
 have A0 := row_al (heap_new w (.cells #[.int .i64 0] 3)) (.cells #[.int .i64 0] 28)
 have A1 := heap_new1 w (.cells #[.int .i64 0] 3) (.cells #[.int .i64 0] 28)
 have AB : Below w.heap.size w ((w.alloc (.cells #[.int .i64 0] 3)).alloc (.cells #[.int .i64 0] 28)) := ((Below.refl _ w).alloc (Nat.le_refl _) _).alloc (by simp) _
 have hL := fun W (hb : Below w.heap.size w W) => dlive_any (some ⟨B, 0, none⟩) (liveN (catB bs)) (goneN (catB bs)) W (whole_any B bv nm bs W (hR.below hb))
 have HL := Lib.hid hL
 clear hL hR
 have HA := Lib.hid (And.intro A0 (And.intro A1 AB))
 have z0 := box_cell A0 0
 have z1 := box_cell A1 0
 have f0 := box_frozen A0 0
 have f1 := box_frozen A1 0
 clear A0 A1 AB
 by_cases hn : i < 0
 ·clear hi
  go_enter Try.func26, Try.ntmps26
  go_wp2
  have r0 := row_al (heap_new w (.cells #[.int .i64 0] 3)) (.cells #[.int .i64 3] 28)
  have r1 := heap_new1 w (.cells #[.int .i64 0] 3) (.cells #[.int .i64 3] 28)
  exact bodyPost_ret (gap_results _ _ w.heap.size (w.heap.size + 1) 0 3 rfl rfl (box_cell r0 0) (box_cell r1 0)) rfl ⟨rfl, ((Below.refl _ w).alloc (Nat.le_refl _) _).alloc (by simp) _⟩
 ·have hg : (liveN (catB bs) : Int) < i := by omega
  clear hi
  go_enter Try.func26, Try.ntmps26
  go_wp2_with fail
  refine (HL.out _ HA.out.2.2).mono ?_
  rintro e w1 ⟨rfl, hb1⟩
  obtain ⟨q0, q1, qb⟩ := HA.out
  have s0 := row_up q0 hb1
  have s1 := row_up q1 hb1
  have sB := qb.trans (hb1.mono qb.size)
  have y0 := box_cell s0 0
  have y1 := box_cell s1 0
  have g0 := box_frozen s0 0
  have g1 := box_frozen s1 0
  have HS := Lib.hid (And.intro s0 (And.intro s1 sB))
  clear q0 q1 qb s0 s1 sB hb1 z0 z1 f0 f1
  go_wp2
  obtain ⟨q0, q1, qb⟩ := HS.out
  have r0 := (box_other (B := w.heap.size + 1) (by omega) 0 (.int .i64 3)).trans (box_set q0 0 (.int .i64 0))
  have r1 := box_set ((box_other (B := w.heap.size) (by omega) 0 (.int .i64 0)).trans q1) 0 (.int .i64 3)
  exact bodyPost_ret (gap_results _ _ w.heap.size (w.heap.size + 1) 0 3 rfl rfl (box_cell r0 0) (box_cell r1 0)) rfl ⟨rfl, (qb.setCell (p := ⟨w.heap.size, 0, none⟩) (Nat.le_refl _) _).setCell (p := ⟨w.heap.size + 1, 0, none⟩) (by show w.heap.size ≤ w.heap.size + 1; omega) _⟩
set_option maxRecDepth 100000 in
set_option maxHeartbeats 8000000 in
theorem dgap_yes (B : Nat) (bv nm : Value) (bs : List PB) (i : Nat) (w : World) (hR : DocR w B bv nm bs) (hi : i ≤ liveN (catB bs)) :
  Calls Try.prog 26 #[.pointer (some ⟨B, 0, none⟩), .int .i64 (i : Int)] w fun e W' => e = .returned (.tuple #[.int .i64 (cGap (catB bs) i), .int .i64 0]) ∧ Below w.heap.size w W' := by
 have hall := liveN_gone (catB bs)
 have hroom := hR.room
 have HR := Lib.hid hR
 have A0 := row_al (heap_new w (.cells #[.int .i64 0] 3)) (.cells #[.int .i64 0] 28)
 have A1 := heap_new1 w (.cells #[.int .i64 0] 3) (.cells #[.int .i64 0] 28)
 have AB : Below w.heap.size w ((w.alloc (.cells #[.int .i64 0] 3)).alloc (.cells #[.int .i64 0] 28)) := ((Below.refl _ w).alloc (Nat.le_refl _) _).alloc (by simp) _
 have AS : ((w.alloc (.cells #[.int .i64 0] 3)).alloc (.cells #[.int .i64 0] 28)).heap.size = w.heap.size + 1 + 1 := by simp
 have hL := fun W (hb : Below w.heap.size w W) => dlive_any (some ⟨B, 0, none⟩) (liveN (catB bs)) (goneN (catB bs)) W (whole_any B bv nm bs W (hR.below hb))
 have hZ := fun W (hb : Below w.heap.size w W) => dsize_any (some ⟨B, 0, none⟩) (liveN (catB bs)) (goneN (catB bs)) W (by omega) (whole_any B bv nm bs W (hR.below hb))
 rw [hall] at hZ
 have HL := Lib.hid hL
 have HZ := Lib.hid hZ
 have hpl := fun W => places_any (some ⟨B, 0, none⟩) false (i : Int) W
 have HA := Lib.hid (And.intro A0 (And.intro A1 (And.intro AB AS)))
 have HG := Lib.hid (gap_pos (catB bs) i)
 have hi' : ¬ (i : Int) < 0 := by omega
 have hi2 : ¬ ((liveN (catB bs) : Nat) : Int) < (i : Int) := by omega
 clear hL hR hZ A0 A1 AB AS
 refine (callsIn_wide (n := 5)).1 ?_
 refine callsIn_of_wp_marks Try.func26 rfl trivial ?_ rfl
 simp only [Try.ntmps26, List.size_toArray, List.length_cons, List.length_nil, Nat.reduceAdd, Nat.reduceSub, Array.replicate_succ, Array.replicate_zero, List.push_toArray, List.append_toArray, List.nil_append, List.cons_append]
 gi_wp2_with (refine ⟨trivial, ?_⟩; first
  | (gi_at_call 41; refine (callsIn_wide.2 (HL.out _ HA.out.2.2.1)).mono ?_; rintro e w1 ⟨rfl, hb1⟩)
  | (gi_at_call 42; refine (callsIn_wide.2 (hpl _)).mono ?_; rintro e _ ⟨rfl, rfl⟩))
 rename World => w1
 obtain ⟨q0, q1, qb, qs⟩ := HA.out
 have hz1 := hb1.size
 rw [qs] at hz1
 have A0 := row_al (row_al (row_al (row_up q0 hb1) (.cells #[.pointer (some ⟨B, 0, none⟩)] 42)) (.cells #[.bool false] 4)) (.cells #[.int .i64 (i : Int)] 3)
 have A1 := row_al (row_al (row_al (row_up q1 hb1) (.cells #[.pointer (some ⟨B, 0, none⟩)] 42)) (.cells #[.bool false] 4)) (.cells #[.int .i64 (i : Int)] 3)
 have Ad := row_al (row_al (heap_new w1 (.cells #[.pointer (some ⟨B, 0, none⟩)] 42)) (.cells #[.bool false] 4)) (.cells #[.int .i64 (i : Int)] 3)
 have Ag := row_al (heap_new1 w1 (.cells #[.pointer (some ⟨B, 0, none⟩)] 42) (.cells #[.bool false] 4)) (.cells #[.int .i64 (i : Int)] 3)
 have Af := heap_new2 w1 (.cells #[.pointer (some ⟨B, 0, none⟩)] 42) (.cells #[.bool false] 4) (.cells #[.int .i64 (i : Int)] 3)
 have hb2 : Below w1.heap.size w1 (((w1.alloc (.cells #[.pointer (some ⟨B, 0, none⟩)] 42)).alloc (.cells #[.bool false] 4)).alloc (.cells #[.int .i64 (i : Int)] 3)) := (((Below.refl _ w1).alloc (Nat.le_refl _) _).alloc (by simp) _).alloc (by simp; omega) _
 have AB : Below w.heap.size w (((w1.alloc (.cells #[.pointer (some ⟨B, 0, none⟩)] 42)).alloc (.cells #[.bool false] 4)).alloc (.cells #[.int .i64 (i : Int)] 3)) := (qb.trans (hb1.mono qb.size)).trans (hb2.mono (by omega))
 have AS : (((w1.alloc (.cells #[.pointer (some ⟨B, 0, none⟩)] 42)).alloc (.cells #[.bool false] 4)).alloc (.cells #[.int .i64 (i : Int)] 3)).heap.size = w1.heap.size + 1 + 1 + 1 := by simp
 generalize ((w1.alloc (.cells #[.pointer (some ⟨B, 0, none⟩)] 42)).alloc (.cells #[.bool false] 4)).alloc (.cells #[.int .i64 (i : Int)] 3) = w3 at A0 A1 Ad Ag Af AB AS ⊢
 clear q0 q1 qb qs hb1 hb2
 have hst := places_stops (w1.heap.size + 2) w1.heap.size (w1.heap.size + 1) w.heap.size w1.heap.size B bv nm bs false i (by omega) w rfl HR.out w3 AB (by omega) Af Ad Ag (.inr (by omega)) (.inr (Nat.le_refl _)) (.inr (by omega))
 refine wpIn_rangeFunc_ownO RowT rfl (by decide) (gf := 52) (lb := #[.pointer (some ⟨w1.heap.size + 2, 0, none⟩), .pointer (some ⟨w1.heap.size, 0, none⟩), .pointer (some ⟨w1.heap.size + 1, 0, none⟩)]) rfl trivial (enters_of Try.func52 (by kernel_rfl) rfl)
  hst (fun h k => kf_t h k) (fun X l o o' h1 _ h3 h4 h5 => kf_b (w := w3) (by omega) X l o o' h1 h3 h4 h5) (fun _ => rfl)
  (fun pre X => (pre = [] ∧ X.heap[w.heap.size]? = some (.cells #[.int .i64 0] 3 (0, 0)) ∧ X.heap[w.heap.size + 1]? = some (.cells #[.int .i64 0] 28 (0, 0))) ∧ Below w.heap.size w X)
  (fun c pre X => (c = .ret ∧ ∃ p, pre = [p] ∧ X.heap[w.heap.size]? = some (.cells #[.int .i64 (p.val : Int)] 3 (0, 0)) ∧ X.heap[w.heap.size + 1]? = some (.cells #[.int .i64 0] 28 (0, 0))) ∧ Below w.heap.size w X)
  (OwnFrom.and (Own.from (fun s A B row hs hg hr => ⟨hs.1, row_turn hs.2.1 hg hr, row_turn hs.2.2 hg hr⟩) _) (ownFrom_below (Nat.le_refl _) (by omega)))
  (fun c => OwnFrom.and (Own.from (fun s A B row hs hg hr => ⟨hs.1, by obtain ⟨p, h0, h1, h2⟩ := hs.2; exact ⟨p, h0, row_turn h1 hg hr, row_turn h2 hg hr⟩⟩) _) (ownFrom_below (Nat.le_refl _) (by omega)))
  (fun s A B row hs hg hr => ⟨⟨hs.1.1, far_kept hg hr (by omega) hs.1.2.1, far_kept hg hr (by omega) hs.1.2.2⟩, hs.2.grown hg (by have := hs.2.size; omega) (fun r e => by have := (hr r e).1; omega)⟩)
  (fun c s A B row hs hg hr => ⟨⟨hs.1.1, by obtain ⟨p, h0, h1, h2⟩ := hs.1.2; exact ⟨p, h0, far_kept hg hr (by omega) h1, far_kept hg hr (by omega) h2⟩⟩, hs.2.grown hg (by have := hs.2.size; omega) (fun r e => by have := (hr r e).1; omega)⟩)
  ⟨⟨rfl, A0, A1⟩, AB⟩
  (fun x => { tmps := #[.pointer (some ⟨B, 0, none⟩), .int .i64 (i : Int), undef, undef, .pointer (some ⟨w.heap.size, 0, none⟩), .pointer (some ⟨w.heap.size + 1, 0, none⟩), .int .i64 (x.val : Int), .pointer (some ⟨B, 0, none⟩), .bool false, .int .i64 (i : Int), .bool false, .bool false, .int .i64 (i : Int), .pointer (some ⟨B, 0, none⟩), .int .i64 (liveN (catB bs) : Nat), .bool false, .bool false, .pointer (some ⟨B, 0, none⟩), .int .i64 (i : Int), .func (.func 52) #[] #[.pointer (some ⟨w1.heap.size + 2, 0, none⟩), .pointer (some ⟨w1.heap.size, 0, none⟩), .pointer (some ⟨w1.heap.size + 1, 0, none⟩)], .int .i64 (x.val : Int), undef, undef, undef], defers := [] }) ?assign ?body ?done ?stop
 case assign =>
  intro l x W K hK
  gi_wp2
  exact hK
 case body =>
  rintro l pre x X ⟨⟨rfl, c0, c1⟩, hB⟩ _
  have z0 := box_cell c0 0
  have z1 := box_cell c1 0
  have f0 := box_frozen c0 0
  have f1 := box_frozen c1 0
  have HC := Lib.hid (And.intro c0 (And.intro c1 hB))
  clear c0 c1 hB
  gi_wp2
  obtain ⟨c0, c1, hB⟩ := HC.out
  have r0 := (box_other (k := w.heap.size) (B := w.heap.size + 1) (by omega) 0 (.int .i64 0)).trans (box_set c0 0 (.int .i64 (x.val : Int)))
  have r1 := box_set ((box_other (k := w.heap.size + 1) (B := w.heap.size) (by omega) 0 (.int .i64 (x.val : Int))).trans c1) 0 (.int .i64 0)
  exact ⟨(KeepsOthers.setCell _ _ _).trans (KeepsOthers.setCell _ _ _), ⟨rfl, x, rfl, r0, r1⟩, (hB.setCell (p := ⟨w.heap.size, 0, none⟩) (Nat.le_refl _) _).setCell (p := ⟨w.heap.size + 1, 0, none⟩) (by show w.heap.size ≤ w.heap.size + 1; omega) _⟩
 case done =>
  rintro D xs Z hD hys ⟨⟨rfl, c0, c1⟩, hB⟩ hK
  have hno : (posOf false (catB bs) 0)[i]? = none := by
   unfold yl at hys
   have h2 := congrArg List.length hys
   rw [List.length_map, List.length_drop] at h2
   simp at h2
   exact List.getElem?_eq_none (by omega)
  have hgp := HG.out
  rw [hno] at hgp
  have hpl2 := pos_live (catB bs) (catB bs).length
  rw [List.take_length] at hpl2
  have hlen : liveN (catB bs) ≤ i := by
   have := List.getElem?_eq_none_iff.1 hno
   rw [posOf_length] at this
   simpa using this
  have hcl : cLive (catB bs) = liveN (catB bs) := by unfold cLive cSeen liveN; rw [List.take_length]
  dsimp only at hgp
  rw [if_pos (by rw [hcl]; omega)] at hgp
  have HGP := Lib.hid hgp
  have hZ2 := HZ.out Z hB
  have HZ2 := Lib.hid hZ2
  have HC := Lib.hid (And.intro c0 (And.intro c1 hB))
  clear hgp hno hys hpl2 hlen hcl hZ2 c0 c1 hB
  gi_wp2_with (refine ⟨trivial, ?_⟩; gi_at_call 43; refine (callsIn_wide.2 HZ2.out).mono ?_; rintro e w5 ⟨rfl, hb5⟩; have s0 := row_up HC.out.1 hb5; have s1 := row_up HC.out.2.1 hb5; have z0 := box_cell s0 0; have z1 := box_cell s1 0; have f0 := box_frozen s0 0; have f1 := box_frozen s1 0)
  obtain ⟨c0, c1, hB⟩ := HC.out
  have s0 := row_up c0 hb5
  have s1 := row_up c1 hb5
  have r0 := (box_other (B := w.heap.size + 1) (by omega) 0 (.int .i64 0)).trans (box_set s0 0 (.int .i64 ((catB bs).length : Nat)))
  have r1 := box_set ((box_other (B := w.heap.size) (by omega) 0 (.int .i64 ((catB bs).length : Nat))).trans s1) 0 (.int .i64 0)
  have rB := ((hB.trans (hb5.mono hB.size)).setCell (p := ⟨w.heap.size, 0, none⟩) (Nat.le_refl _) (.int .i64 ((catB bs).length : Nat))).setCell (p := ⟨w.heap.size + 1, 0, none⟩) (by show w.heap.size ≤ w.heap.size + 1; omega) (.int .i64 0)
  have hK2 := ((KeepsOthers.setCell w5 ⟨w.heap.size, 0, none⟩ (.int .i64 ((catB bs).length : Nat))).trans (KeepsOthers.setCell _ ⟨w.heap.size + 1, 0, none⟩ (.int .i64 0))).same D _ (row_up hK hb5) rfl
  generalize (w5.setCell ⟨w.heap.size, 0, none⟩ (.int .i64 ((catB bs).length : Nat))).setCell ⟨w.heap.size + 1, 0, none⟩ (.int .i64 0) = W7 at r0 r1 rB hK2 ⊢
  refine ⟨by simp, .inl ⟨_, _, rfl, run_takeDeferred hK2, ?_⟩⟩
  have t0 : (W7.putObj D (.deferred none)).heap[w.heap.size]? = _ := (World.putObj_heap_other (by omega)).trans r0
  have t1 : (W7.putObj D (.deferred none)).heap[w.heap.size + 1]? = _ := (World.putObj_heap_other (by omega)).trans r1
  exact ⟨_, gap_results _ _ w.heap.size (w.heap.size + 1) _ 0 rfl rfl (box_cell t0 0) (box_cell t1 0), by rw [HGP.out], rB.trans (belowK_b (w := w) (Nat.le_refl _) W7 D _ _ (by omega) hK2 rfl rfl)⟩
 case stop =>
  rintro D c pre Z hD hpre ⟨⟨rfl, p, rfl, c0, c1⟩, hB⟩ hK
  have hsm : (posOf false (catB bs) 0)[i]? = some p.val := by
   obtain ⟨t, ht⟩ := hpre
   unfold yl at ht
   have h0 := congrArg (fun l => l[0]?) ht
   simp only [List.singleton_append, List.getElem?_cons_zero, List.getElem?_map, List.getElem?_drop, Nat.add_zero] at h0
   cases hq : (posOf false (catB bs) 0)[i]? with
   | none => rw [hq] at h0; cases h0
   | some z =>
    rw [hq] at h0
    have hz := posOf_lt false (catB bs) 0 z (List.mem_of_getElem? hq)
    simp at h0
    rw [h0, toP_val (by omega)]
  have hgp := HG.out
  rw [hsm] at hgp
  dsimp only at hgp
  have HGP := Lib.hid hgp
  have HC := Lib.hid (And.intro c0 (And.intro c1 hB))
  clear hgp hsm hpre c0 c1 hB
  gi_wp2
  obtain ⟨r0, r1, rB⟩ := HC.out
  refine ⟨by simp, .inl ⟨_, _, rfl, run_takeDeferred hK, ?_⟩⟩
  have t0 : (Z.putObj D (.deferred none)).heap[w.heap.size]? = _ := (World.putObj_heap_other (by omega)).trans r0
  have t1 : (Z.putObj D (.deferred none)).heap[w.heap.size + 1]? = _ := (World.putObj_heap_other (by omega)).trans r1
  exact ⟨_, gap_results _ _ w.heap.size (w.heap.size + 1) _ 0 rfl rfl (box_cell t0 0) (box_cell t1 0), by rw [HGP.out], rB.trans (belowK_b (w := w) (Nat.le_refl _) Z D _ _ (by omega) hK rfl rfl)⟩
end Go.Proofs.Ytmedickofiielaa

namespace Go.Proofs.Ytmedickofiielaa
open Go.RowKit Go.Shelf

end Go.Proofs.Ytmedickofiielaa

namespace Go.Proofs.Ytmedickofiielaa
open Go.RowKit Go.Shelf
attribute [local go_sem] Oper.semAt_some

structure Blocks (W : World) (n₀ : Nat) (v : Value) (bs : List PB) : Prop where
 row : W.ownsRow n₀ 97 3 v bs.length (kCells bs)
 own : ∀ x ∈ bs, W.ownsRow n₀ 41 5 x.v x.cs.length (cCells x.cs)
 apart : bs.Pairwise fun x y => ∀ g, x.v.ownBlock = some g → y.v.ownBlock = some g → False
theorem Blocks.nil (W : World) (n₀ : Nat) : Blocks W n₀ (.slice none 0 0) [] := ⟨World.ownsRow_nil _ _ _ _, (fun _ h => by cases h), List.Pairwise.nil⟩
theorem Blocks.up {W W' : World} {n₀ : Nat} {v : Value} {bs : List PB} (h : Blocks W n₀ v bs) (hb : Below W.heap.size W W') : Blocks W' n₀ v bs := ⟨own_up h.row hb, fun x hx => own_up (h.own x hx) hb, h.apart⟩
theorem Blocks.turn {W W' : World} {row : Option Nat} {n₀ : Nat} {v : Value} {bs : List PB} (h : Blocks W n₀ v bs) (hg : W.grownBy W' row) (hr : ∀ r, row = some r → ∃ o : Obj, W.heap[r]? = some o ∧ o.isCells = false) : Blocks W' n₀ v bs :=
 ⟨own_turn h.row hg hr, fun x hx => own_turn (h.own x hx) hg hr, h.apart⟩
theorem infoBlkI : ∃ i, Try.prog.info? 97 = some i ∧ i.zero = some (.agg #[.int .i64 0, .int .i64 0, .slice none 0 0]) ∧ i.size = 3 ∧ i.bytes = 40 := by
 have h : (Try.prog.info? 97).map (fun i => (i.zero, i.size, i.bytes)) = some (some (.agg #[.int .i64 0, .int .i64 0, .slice none 0 0]), 3, 40) := by kernel_rfl
 cases hi : Try.prog.info? 97 with
 | none => rw [hi] at h; cases h
 | some i =>
  rw [hi] at h
  simp at h
  exact ⟨i, rfl, h.1, h.2.1, h.2.2⟩
theorem append_block (base : Nat) (v : Value) (bs : List PB) (x : PB) (u : Value) (w : World) (N : Nat) (hbn : bs.length = N) (hown : w.ownsRow base 97 3 v bs.length (kCells bs)) (hr : RowR 3 w u 1 (kV x)) (hx : x.v.oneCell' = true) (hl : N ≤ 1000000) (hb : base ≤ w.heap.size) (ty : TypeId) :
  ∃ v' w', (Builtin.append_ #[57, 57] ty #[v, u]).run Try.prog w = .ok v' w' ∧ w'.ownsRow base 97 3 v' (bs ++ [x]).length (kCells (bs ++ [x])) ∧ w.grownBy w' v.ownBlock := by
 obtain ⟨i, hi, hz, hs, hy⟩ := infoBlkI
 rw [hbn] at hown
 rw [List.length_append, List.length_singleton, kCells_append, hbn]
 have : kCells [x] = kV x := by show kV x ++ [] = _; rw [List.append_nil]
 rw [this]
 exact run_app_any base _ ty _ i _ 3 40 Try.underlying57 hi hz hs hy rfl (by decide) v _ _ hown u _ _ hr (fun u hu => by
  unfold kV at hu
  rcases List.mem_cons.1 hu with h | hu
  ·rw [h]; rfl
  ·rcases List.mem_cons.1 hu with h | hu
   ·rw [h]; rfl
   ·rw [List.mem_singleton.1 hu]; exact hx) (by unfold maxLen; omega) (by omega) hb
theorem clone_cells (b off n c : Nat) (l : List PCell) (w : World) (h : CAt w (.slice (some ⟨b, off, none⟩) n c) l) (hl : l.length ≤ 1000000) :
  Calls Try.prog 40 #[.slice (some ⟨b, off, none⟩) n c] w fun e w' => ∃ v', e = .returned v' ∧ w'.ownsRow w.heap.size 41 5 v' l.length (cCells l) ∧ Below w.heap.size w w' := by
 obtain ⟨i, hi, hz, hs, hy⟩ := infoCellI
 obtain ⟨hlen, ao', cap', e, h1, h2, h3, h4⟩ := h
 cases e
 obtain ⟨b', off', e, hlt, hc⟩ := h4 _ rfl
 cases e
 refine (AnyE.slices_Clone Try.cloneC i _ 5 32 hi hz hs hy rfl (by decide) Try.sizeOf41 b off l.length c (cCells l) w (cCells_length l) (by unfold maxLen; omega) (by omega) hc (cCells_ones l)).mono ?_
 rintro e w' ⟨v', rfl, ho, -, hb⟩
 exact ⟨v', rfl, ho, hb⟩
def chC (l : List PCell) (k : Nat) : List PCell := (l.drop (128 * k)).take 128
theorem chC_length (l : List PCell) (k : Nat) : (chC l k).length = chL l.length k := by unfold chC chL; rw [List.length_take, List.length_drop]
theorem chC_all (l : List PCell) : ((List.finRange (chN l.length)).map fun x => chC l x.val).flatten = l := by
 have h : ∀ k, k ≤ chN l.length → ((frK (chN l.length) k).map fun x => chC l x.val).flatten = l.take (128 * k) := by
  intro k
  induction k with
  | zero => intro _; simp [frK]
  | succ k ih =>
   intro hk
   rw [frK_next _ k (by omega), List.map_append, List.flatten_append, ih (by omega)]
   simp only [List.map_cons, List.map_nil, List.flatten_cons, List.flatten_nil, List.append_nil, chC]
   rw [show 128 * (k + 1) = 128 * k + 128 by omega, List.take_add]
 rw [← frK_all, h _ (Nat.le_refl _), List.take_of_length_le (by unfold chN; omega)]
theorem catB_flat (bs : List PB) : catB bs = (bs.map (·.cs)).flatten := by unfold catB; rw [List.flatMap_def]
theorem CAt.part {W : World} {b off N cap : Nat} {l : List PCell} (h : CAt W (.slice (some ⟨b, off, none⟩) N cap) l) (hN : l.length = N) (k : Nat) (hk : 128 * k < N) :
  CAt W (.slice (some ⟨b, off + 128 * k * 5, none⟩) (chL N k) (chL N k)) (chC l k) := by
 subst hN
 obtain ⟨hl, ao', cap', e, h1, h2, h3, h4⟩ := h
 cases e
 obtain ⟨b', off', e, hlt, hc⟩ := h4 _ rfl
 cases e
 have hsp : l = l.take (128 * k) ++ (chC l k ++ (l.drop (128 * k)).drop 128) := by
  unfold chC
  rw [List.take_append_drop, List.take_append_drop]
 have hcl : chL l.length k ≤ l.length := by unfold chL; omega
 refine ⟨cCells_length _, _, chL l.length k, by rw [chC_length], by rw [chC_length]; exact Nat.le_refl _, by omega, (fun q => by cases q), fun ad ha => ?_⟩
 cases ha
 refine ⟨b, off + 128 * k * 5, rfl, hlt, fun j u hj => ?_⟩
 have hjl := (List.getElem?_eq_some_iff.1 hj).1
 have : (cCells l)[128 * k * 5 + j]? = some u := by
  rw [hsp, cCells_append, cCells_append, List.getElem?_append_right (by rw [cCells_length, List.length_take]; omega), cCells_length, List.length_take, Nat.min_eq_left (by omega), List.getElem?_append_left (by omega), show 128 * k * 5 + j - 128 * k * 5 = j by omega]
  exact hj
 rw [Nat.add_assoc]
 exact hc _ _ this
set_option maxRecDepth 100000 in
set_option maxHeartbeats 8000000 in
theorem laid_any (v : Value) (l : List PCell) (w : World) (h : CAt w v l) (hl : l.length ≤ 1000000) :
  Calls Try.prog 23 #[v] w fun e w' => ∃ v' bs, e = .returned v' ∧ Blocks w' w.heap.size v' bs ∧ catB bs = l ∧ bs.length ≤ 1000000 ∧ ((∀ x ∈ bs, x.cs ≠ []) ∧ bs.length = chN l.length) ∧ Below w.heap.size w w' := by
 have HR := Lib.hid h
 have hro := h.2
 obtain ⟨ao, cap, rfl, hcap, hcm, hnone, hsome⟩ := hro
 obtain ⟨N, hN⟩ : ∃ N, l.length = N := ⟨_, rfl⟩
 have HN := Lib.hid hN
 have hao : 0 < N → ∃ b off, ao = some ⟨b, off, none⟩ := fun hp => by
  cases ao with
  | none => have := hnone rfl; omega
  | some ad => obtain ⟨b, off, e, _⟩ := hsome ad rfl; exact ⟨b, off, by rw [e]⟩
 rw [hN] at hl hcap
 have hch := fun W => chunk_any ao N cap W
 have HS := Lib.hid (And.intro hao hcap)
 have A0 := row_al (row_al (heap_new w (.cells #[.slice none 0 0] 57)) (.cells #[.slice ao N cap] 36)) (.cells #[.int .i64 128] 3)
 have A1 := row_al (heap_new1 w (.cells #[.slice none 0 0] 57) (.cells #[.slice ao N cap] 36)) (.cells #[.int .i64 128] 3)
 have A2 := heap_new2 w (.cells #[.slice none 0 0] 57) (.cells #[.slice ao N cap] 36) (.cells #[.int .i64 128] 3)
 have AB : Below w.heap.size w (((w.alloc (.cells #[.slice none 0 0] 57)).alloc (.cells #[.slice ao N cap] 36)).alloc (.cells #[.int .i64 128] 3)) := (((Below.refl _ w).alloc (Nat.le_refl _) _).alloc (by simp) _).alloc (by simp; omega) _
 have AS : (((w.alloc (.cells #[.slice none 0 0] 57)).alloc (.cells #[.slice ao N cap] 36)).alloc (.cells #[.int .i64 128] 3)).heap.size = w.heap.size + 1 + 1 + 1 := by simp
 have HA := Lib.hid (And.intro A0 (And.intro A1 (And.intro A2 (And.intro AB AS))))
 clear h hN hao hcap hcm hnone hsome A0 A1 A2 AB AS
 rw [HN.out]
 refine (callsIn_wide (n := 4)).1 ?_
 refine callsIn_of_wp_marks Try.func23 rfl trivial ?_ rfl
 simp only [Try.ntmps23, List.size_toArray, List.length_cons, List.length_nil, Nat.reduceAdd, Nat.reduceSub, Array.replicate_succ, Array.replicate_zero, List.push_toArray, List.append_toArray, List.nil_append, List.cons_append]
 gi_wp2_with (refine ⟨trivial, ?_⟩; gi_at_call 38; refine (callsIn_wide.2 (hch _)).mono ?_; rintro e _ ⟨rfl, rfl⟩)
 obtain ⟨A0, A1, A2, AB, AS⟩ := HA.out
 generalize ((w.alloc (.cells #[.slice none 0 0] 57)).alloc (.cells #[.slice ao N cap] 36)).alloc (.cells #[.int .i64 128] 3) = w3 at A0 A1 A2 AB AS ⊢
 clear HA
 have hst := chunk_stops 3 (by decide) (w.heap.size + 1) (w.heap.size + 1 + 1) w.heap.size (w.heap.size + 1) ao N cap HS.out.1 hl HS.out.2 w3 A1 A2 (Nat.le_refl _) (by omega)
 refine wpIn_rangeFunc_ownF rfl (by decide) (gf := 50) (lb := #[.pointer (some ⟨w.heap.size + 1, 0, none⟩), .pointer (some ⟨w.heap.size + 1 + 1, 0, none⟩)]) rfl trivial (enters_of Try.func50 (by kernel_rfl) rfl)
  hst (fun h k => kf_t h k) (kf_b (by omega)) (Below.refl _ _) (fun _ => rfl)
  (fun pre X => (∃ v' bs, X.heap[w.heap.size]? = some (.cells #[v'] 57 (0, 0)) ∧ Blocks X w.heap.size v' bs ∧ bs.map (·.cs) = pre.map fun x => chC l x.val) ∧ Below w.heap.size w X)
  (fun c pre X => False ∧ Below w.heap.size w X)
  (OwnFrom.and (Own.from (fun s A B row hs hg hr => by obtain ⟨v', bs, h1, h2, h3⟩ := hs; exact ⟨v', bs, row_turn h1 hg hr, h2.turn hg hr, h3⟩) _) (ownFrom_below (Nat.le_refl _) (by omega)))
  (fun c => OwnFrom.and (Own.from (fun s A B row hs hg hr => hs.elim) _) (ownFrom_below (Nat.le_refl _) (by omega)))
  ⟨⟨_, [], A0, Blocks.nil _ _, rfl⟩, AB⟩
  (fun x => { tmps := #[.slice ao N cap, undef, .slice none 0 0, .pointer (some ⟨w.heap.size, 0, none⟩), .slice (ao.map fun a => a.add (128 * x.val * 5)) (chL N x.val) (chL N x.val), .slice ao N cap, .func (.func 50) #[] #[.pointer (some ⟨w.heap.size + 1, 0, none⟩), .pointer (some ⟨w.heap.size + 1 + 1, 0, none⟩)], .slice (ao.map fun a => a.add (128 * x.val * 5)) (chL N x.val) (chL N x.val), undef, undef, undef, undef, undef, undef, undef, undef, undef], defers := [] }) ?assign ?body ?done ?stop
 case assign =>
  intro l x W K hK
  gi_wp2
  exact hK
 case body =>
  rintro lp pre x W ⟨⟨vall, bs, c0, hBk, hbs⟩, hB⟩ hlen
  have hx := chN_lt.1 x.isLt
  obtain ⟨b, off, rfl⟩ := HS.out.1 (by omega)
  obtain ⟨ao', n', cap', rfl⟩ := slice_of hBk.row
  have hpart := CAt.part (by have := HR.out; rw [HN.out] at this; exact this) HN.out x.val hx
  have hcl : (chC l x.val).length = chL N x.val := by rw [chC_length, HN.out]
  have hE1 : 1 ≤ chL N x.val ∧ chL N x.val ≤ 128 := by unfold chL; omega
  have hbn : bs.length ≤ 1000000 := by
   have := congrArg List.length hbs
   rw [List.length_map, List.length_map] at this
   have h2 : chN N ≤ 7813 := by unfold chN; omega
   omega
  have HBN := Lib.hid hbn
  have HP := Lib.hid hpart
  have HCL := Lib.hid hcl
  have HBS := Lib.hid hbs
  have HC := Lib.hid (And.intro c0 (And.intro hBk hB))
  obtain ⟨E, hE⟩ : ∃ E, chL N x.val = E := ⟨_, rfl⟩
  rw [hE] at HP HCL hE1
  dsimp only [Option.map]
  simp only [Addr.add_lit]
  rw [hE]
  have HCN := Lib.hid (fun X (h : Below w.heap.size w X) => counted_any _ (chC l x.val) X (HP.out.below h) (by rw [HCL.out]; omega))
  have HCO := Lib.hid (fun X (h : Below w.heap.size w X) => clone_cells b (off + 128 * x.val * 5) E E (chC l x.val) X (HP.out.below h) (by rw [HCL.out]; omega))
  clear c0 hBk hbs hB hpart hcl hbn hE hx hlen
  gi_wp2
  refine region_bridge (ro := some lp) (S := fun X => (∃ z, X.heap[w.heap.size]? = some (.cells #[z] 57 (0, 0))) ∧ Below w.heap.size w X) (by kernel_rfl) (by kernel_rfl) (by rintro ⟨_, _, h⟩; exact h) ⟨⟨_, HC.out.1⟩, HC.out.2.2.drew⟩ (fun hHeld => ?_)
  refine tk0 (i := 1) rfl ?_
  try simp only [td]
  refine tk0 (i := 3) rfl ?_
  try simp only [td]
  refine wpAnyH_ready (rs := [0, 2]) (by kernel_rfl) (by simp) (AllReadyH.cons rfl (fun K hK => ?_) (AllReadyH.cons rfl (fun K hK => ?_) AllReadyH.nil))
  ·have zn := box_cell (w := W.drew) HC.out.1 0
   go_simp
   refine hK.out _ _ (hHeld) (fun hX => ?_)
   clear hK K hHeld
   have hHeld := hX
   clear hX
   refine rd 2 rfl fun K hK => ?_
   go_simp
   go_wp2_with (go_at_call 39; refine (HCN.out _ hHeld.2).mono ?_; rintro e wb ⟨rfl, hb⟩)
   have c0b := row_up (W := W.drew) HC.out.1 hb
   refine hK.out _ _ (⟨⟨_, c0b⟩, hHeld.2.trans (hb.mono hHeld.2.size)⟩) (fun hX => ?_)
   clear hK K hHeld
   have hHeld := hX
   clear hX
   refine rd 4 rfl fun K hK => ?_
   go_simp
   go_wp2_with (go_at_call 40; refine (HCO.out _ hHeld.2).mono ?_; rintro e wc ⟨vc, rfl, hoc, hbc⟩)
   have c0c := row_up c0b hbc
   obtain ⟨gv, capv, hvc, hgv, hgl⟩ := ownsRow_form hoc (by rw [HCL.out]; omega)
   subst hvc
   refine hK.out _ _ (⟨⟨_, c0c⟩, hHeld.2.trans (hbc.mono hHeld.2.size)⟩) (fun hX => ?_)
   clear hK K hHeld
   have hHeld := hX
   clear hX
   refine tk0 (i := 5) rfl ?_
   try simp only [td]
   refine rd 6 rfl fun K hK => ?_
   go_simp
   have c0d := row_al c0c (.cells #[.int .i64 (liveN (chC l x.val) : Nat), .int .i64 (goneN (chC l x.val) : Nat), .slice (some ⟨gv, 0, none⟩) (chC l x.val).length capv] 97)
   refine hK.out _ _ (⟨⟨_, c0d⟩, hHeld.2.alloc hHeld.2.size _⟩) (fun hX => ?_)
   clear hK K hHeld
   have hHeld := hX
   clear hX
   refine rd 7 rfl fun K hK => ?_
   have hDc : Below W.heap.size W wc := ((Below.refl W.heap.size W).drew.trans hb).trans (hbc.mono hb.size)
   have hBc := HC.out.2.1.up hDc
   have hnew := heap_new wc (.cells #[.int .i64 (liveN (chC l x.val) : Nat), .int .i64 (goneN (chC l x.val) : Nat), .slice (some ⟨gv, 0, none⟩) (chC l x.val).length capv] 97)
   obtain ⟨va, Wa, hra, hoa, hga⟩ := append_block w.heap.size _ bs ⟨chC l x.val, .slice (some ⟨gv, 0, none⟩) (chC l x.val).length capv⟩ (.slice (some ⟨wc.heap.size, 0, none⟩) 1 1) (wc.alloc (.cells #[.int .i64 (liveN (chC l x.val) : Nat), .int .i64 (goneN (chC l x.val) : Nat), .slice (some ⟨gv, 0, none⟩) (chC l x.val).length capv] 97)) bs.length rfl (hBc.row.alloc (.cells #[.int .i64 (liveN (chC l x.val) : Nat), .int .i64 (goneN (chC l x.val) : Nat), .slice (some ⟨gv, 0, none⟩) (chC l x.val).length capv] 97)) ⟨rfl, _, 1, rfl, fun _ => ⟨wc.heap.size, 0, rfl, fun j u hj => by rw [Nat.zero_add]; exact (box_cell hnew j).trans (by simpa [kV] using hj)⟩⟩ rfl HBN.out hHeld.2.size 57
   obtain ⟨va1, va2, va3, rfl⟩ := slice_of hoa
   have hBd := hBc.row.alloc (.cells #[.int .i64 (liveN (chC l x.val) : Nat), .int .i64 (goneN (chC l x.val) : Nat), .slice (some ⟨gv, 0, none⟩) (chC l x.val).length capv] 97)
   have cA := row_grown c0d hga hBd (by decide)
   rw [if_pos (by rfl)]
   refine wp_run_append rfl rfl rfl hra ?_
   refine hK.out _ _ (⟨⟨_, cA⟩, below_grown hHeld.2 hga hBd (Nat.le_refl _)⟩) (fun hX => ?_)
   clear hK K hHeld
   have hHeld := hX
   clear hX
   refine rd 8 rfl fun K hK => ?_
   have z0 := box_cell cA 0
   have zf := box_frozen cA 0
   go_simp
   refine hK.out _ _ (⟨⟨_, box_set cA 0 _⟩, hHeld.2.setCell (p := ⟨w.heap.size, 0, none⟩) (Nat.le_refl _) _⟩) (fun hX => ?_)
   clear hK K hHeld
   have hHeld := hX
   clear hX
   refine wpAnyH_done (by kernel_rfl) ?_ _
   gi_wp2
   have hTy := own_typed hBd
   refine ⟨?_, ?_, ⟨⟨_, bs ++ [⟨chC l x.val, .slice (some ⟨gv, 0, none⟩) (chC l x.val).length capv⟩], box_set cA 0 _, ⟨own_far hoa cA (by decide) 0 _, fun y hy => ?_, ?_⟩, ?_⟩, hHeld.2⟩⟩
   ·exact (KeepsOthers.drew W).trans ((others_below hb).trans ((others_below hbc).trans ((KeepsOthers.alloc wc _).trans ((KeepsOthers.of_grownBy hga (fun j o hj ho => by obtain ⟨_, cur', hc⟩ := hTy j hj; rw [hc] at ho; cases ho; rfl)).trans (KeepsOthers.setCell _ _ _)))))
   ·exact kf_t (KF.refl _ _ W).drew (kf_t (KF.below HC.out.2.2.drew.size hb) (kf_t (KF.below (Nat.le_trans HC.out.2.2.drew.size hb.size) hbc) (kf_t (KF.alloc (Nat.le_trans (Nat.le_trans HC.out.2.2.drew.size hb.size) hbc.size) _) (kf_t (KF.grown hga (Nat.le_trans (Nat.le_trans (Nat.le_trans HC.out.2.2.drew.size hb.size) hbc.size) (by simp)) (fun g e => by obtain ⟨q1, cur', hc⟩ := hTy g e; exact ⟨q1, .inr ⟨_, _, _, hc, .inr (.inr (.inr rfl))⟩⟩)) (KF.set (Nat.le_refl _) (by omega))))))
   ·refine own_far (own_turnT (T := fun t => t = 41) (W := wc.alloc (.cells #[.int .i64 (liveN (chC l x.val) : Nat), .int .i64 (goneN (chC l x.val) : Nat), .slice (some ⟨gv, 0, none⟩) (chC l x.val).length capv] 97)) ?_ hga (fun r e => by obtain ⟨_, cur', hc⟩ := hTy r e; exact ⟨_, hc, .inr ⟨_, _, _, rfl, by decide⟩⟩) rfl) cA (by decide) 0 _
    rcases List.mem_append.1 hy with h | h
    ·exact (hBc.own y h).alloc _
    ·rw [List.mem_singleton.1 h]
     exact (own_lower hoc (Nat.le_trans HC.out.2.2.drew.size hb.size)).alloc _
   ·rw [List.pairwise_append]
    refine ⟨HC.out.2.1.apart, List.pairwise_singleton _ _, fun y hy z hz g h1 h2 => ?_⟩
    rw [List.mem_singleton.1 hz] at h2
    obtain ⟨_, cur', hc⟩ := own_typed (HC.out.2.1.own y hy) g h1
    have q1 := box_lt hc
    obtain ⟨q2, _⟩ := own_typed hoc g h2
    have q3 : W.heap.size ≤ wb.heap.size := hb.size
    omega
   ·rw [List.map_append, List.map_append, HBS.out]
    rfl
  ·go_simp
   go_wp2_with (go_at_call 39; refine (HCN.out _ hHeld.2).mono ?_; rintro e wb ⟨rfl, hb⟩)
   have c0b := row_up (W := W.drew) HC.out.1 hb
   refine hK.out _ _ (⟨⟨_, c0b⟩, hHeld.2.trans (hb.mono hHeld.2.size)⟩) (fun hX => ?_)
   clear hK K hHeld
   have hHeld := hX
   clear hX
   refine wpAnyH_ready (rs := [0, 4]) (by kernel_rfl) (by simp) (AllReadyH.cons rfl (fun K hK => ?_) (AllReadyH.cons rfl (fun K hK => ?_) AllReadyH.nil))
   ·have zn := box_cell c0b 0
    go_simp
    refine hK.out _ _ (hHeld) (fun hX => ?_)
    clear hK K hHeld
    have hHeld := hX
    clear hX
    refine rd 4 rfl fun K hK => ?_
    go_simp
    go_wp2_with (go_at_call 40; refine (HCO.out _ hHeld.2).mono ?_; rintro e wc ⟨vc, rfl, hoc, hbc⟩)
    have c0c := row_up c0b hbc
    obtain ⟨gv, capv, hvc, hgv, hgl⟩ := ownsRow_form hoc (by rw [HCL.out]; omega)
    subst hvc
    refine hK.out _ _ (⟨⟨_, c0c⟩, hHeld.2.trans (hbc.mono hHeld.2.size)⟩) (fun hX => ?_)
    clear hK K hHeld
    have hHeld := hX
    clear hX
    refine tk0 (i := 5) rfl ?_
    try simp only [td]
    refine rd 6 rfl fun K hK => ?_
    go_simp
    have c0d := row_al c0c (.cells #[.int .i64 (liveN (chC l x.val) : Nat), .int .i64 (goneN (chC l x.val) : Nat), .slice (some ⟨gv, 0, none⟩) (chC l x.val).length capv] 97)
    refine hK.out _ _ (⟨⟨_, c0d⟩, hHeld.2.alloc hHeld.2.size _⟩) (fun hX => ?_)
    clear hK K hHeld
    have hHeld := hX
    clear hX
    refine rd 7 rfl fun K hK => ?_
    have hDc : Below W.heap.size W wc := ((Below.refl W.heap.size W).drew.trans hb).trans (hbc.mono hb.size)
    have hBc := HC.out.2.1.up hDc
    have hnew := heap_new wc (.cells #[.int .i64 (liveN (chC l x.val) : Nat), .int .i64 (goneN (chC l x.val) : Nat), .slice (some ⟨gv, 0, none⟩) (chC l x.val).length capv] 97)
    obtain ⟨va, Wa, hra, hoa, hga⟩ := append_block w.heap.size _ bs ⟨chC l x.val, .slice (some ⟨gv, 0, none⟩) (chC l x.val).length capv⟩ (.slice (some ⟨wc.heap.size, 0, none⟩) 1 1) (wc.alloc (.cells #[.int .i64 (liveN (chC l x.val) : Nat), .int .i64 (goneN (chC l x.val) : Nat), .slice (some ⟨gv, 0, none⟩) (chC l x.val).length capv] 97)) bs.length rfl (hBc.row.alloc (.cells #[.int .i64 (liveN (chC l x.val) : Nat), .int .i64 (goneN (chC l x.val) : Nat), .slice (some ⟨gv, 0, none⟩) (chC l x.val).length capv] 97)) ⟨rfl, _, 1, rfl, fun _ => ⟨wc.heap.size, 0, rfl, fun j u hj => by rw [Nat.zero_add]; exact (box_cell hnew j).trans (by simpa [kV] using hj)⟩⟩ rfl HBN.out hHeld.2.size 57
    obtain ⟨va1, va2, va3, rfl⟩ := slice_of hoa
    have hBd := hBc.row.alloc (.cells #[.int .i64 (liveN (chC l x.val) : Nat), .int .i64 (goneN (chC l x.val) : Nat), .slice (some ⟨gv, 0, none⟩) (chC l x.val).length capv] 97)
    have cA := row_grown c0d hga hBd (by decide)
    rw [if_pos (by rfl)]
    refine wp_run_append rfl rfl rfl hra ?_
    refine hK.out _ _ (⟨⟨_, cA⟩, below_grown hHeld.2 hga hBd (Nat.le_refl _)⟩) (fun hX => ?_)
    clear hK K hHeld
    have hHeld := hX
    clear hX
    refine rd 8 rfl fun K hK => ?_
    have z0 := box_cell cA 0
    have zf := box_frozen cA 0
    go_simp
    refine hK.out _ _ (⟨⟨_, box_set cA 0 _⟩, hHeld.2.setCell (p := ⟨w.heap.size, 0, none⟩) (Nat.le_refl _) _⟩) (fun hX => ?_)
    clear hK K hHeld
    have hHeld := hX
    clear hX
    refine wpAnyH_done (by kernel_rfl) ?_ _
    gi_wp2
    have hTy := own_typed hBd
    refine ⟨?_, ?_, ⟨⟨_, bs ++ [⟨chC l x.val, .slice (some ⟨gv, 0, none⟩) (chC l x.val).length capv⟩], box_set cA 0 _, ⟨own_far hoa cA (by decide) 0 _, fun y hy => ?_, ?_⟩, ?_⟩, hHeld.2⟩⟩
    ·exact (KeepsOthers.drew W).trans ((others_below hb).trans ((others_below hbc).trans ((KeepsOthers.alloc wc _).trans ((KeepsOthers.of_grownBy hga (fun j o hj ho => by obtain ⟨_, cur', hc⟩ := hTy j hj; rw [hc] at ho; cases ho; rfl)).trans (KeepsOthers.setCell _ _ _)))))
    ·exact kf_t (KF.refl _ _ W).drew (kf_t (KF.below HC.out.2.2.drew.size hb) (kf_t (KF.below (Nat.le_trans HC.out.2.2.drew.size hb.size) hbc) (kf_t (KF.alloc (Nat.le_trans (Nat.le_trans HC.out.2.2.drew.size hb.size) hbc.size) _) (kf_t (KF.grown hga (Nat.le_trans (Nat.le_trans (Nat.le_trans HC.out.2.2.drew.size hb.size) hbc.size) (by simp)) (fun g e => by obtain ⟨q1, cur', hc⟩ := hTy g e; exact ⟨q1, .inr ⟨_, _, _, hc, .inr (.inr (.inr rfl))⟩⟩)) (KF.set (Nat.le_refl _) (by omega))))))
    ·refine own_far (own_turnT (T := fun t => t = 41) (W := wc.alloc (.cells #[.int .i64 (liveN (chC l x.val) : Nat), .int .i64 (goneN (chC l x.val) : Nat), .slice (some ⟨gv, 0, none⟩) (chC l x.val).length capv] 97)) ?_ hga (fun r e => by obtain ⟨_, cur', hc⟩ := hTy r e; exact ⟨_, hc, .inr ⟨_, _, _, rfl, by decide⟩⟩) rfl) cA (by decide) 0 _
     rcases List.mem_append.1 hy with h | h
     ·exact (hBc.own y h).alloc _
     ·rw [List.mem_singleton.1 h]
      exact (own_lower hoc (Nat.le_trans HC.out.2.2.drew.size hb.size)).alloc _
    ·rw [List.pairwise_append]
     refine ⟨HC.out.2.1.apart, List.pairwise_singleton _ _, fun y hy z hz g h1 h2 => ?_⟩
     rw [List.mem_singleton.1 hz] at h2
     obtain ⟨_, cur', hc⟩ := own_typed (HC.out.2.1.own y hy) g h1
     have q1 := box_lt hc
     obtain ⟨q2, _⟩ := own_typed hoc g h2
     have q3 : W.heap.size ≤ wb.heap.size := hb.size
     omega
    ·rw [List.map_append, List.map_append, HBS.out]
     rfl
   ·go_simp
    go_wp2_with (go_at_call 40; refine (HCO.out _ hHeld.2).mono ?_; rintro e wc ⟨vc, rfl, hoc, hbc⟩)
    have c0c := row_up c0b hbc
    obtain ⟨gv, capv, hvc, hgv, hgl⟩ := ownsRow_form hoc (by rw [HCL.out]; omega)
    subst hvc
    refine hK.out _ _ (⟨⟨_, c0c⟩, hHeld.2.trans (hbc.mono hHeld.2.size)⟩) (fun hX => ?_)
    clear hK K hHeld
    have hHeld := hX
    clear hX
    refine tk0 (i := 5) rfl ?_
    try simp only [td]
    refine wpAnyH_ready (rs := [0, 6]) (by kernel_rfl) (by simp) (AllReadyH.cons rfl (fun K hK => ?_) (AllReadyH.cons rfl (fun K hK => ?_) AllReadyH.nil))
    ·have zn := box_cell c0c 0
     go_simp
     refine hK.out _ _ (hHeld) (fun hX => ?_)
     clear hK K hHeld
     have hHeld := hX
     clear hX
     refine rd 6 rfl fun K hK => ?_
     go_simp
     have c0d := row_al c0c (.cells #[.int .i64 (liveN (chC l x.val) : Nat), .int .i64 (goneN (chC l x.val) : Nat), .slice (some ⟨gv, 0, none⟩) (chC l x.val).length capv] 97)
     refine hK.out _ _ (⟨⟨_, c0d⟩, hHeld.2.alloc hHeld.2.size _⟩) (fun hX => ?_)
     clear hK K hHeld
     have hHeld := hX
     clear hX
     refine rd 7 rfl fun K hK => ?_
     have hDc : Below W.heap.size W wc := ((Below.refl W.heap.size W).drew.trans hb).trans (hbc.mono hb.size)
     have hBc := HC.out.2.1.up hDc
     have hnew := heap_new wc (.cells #[.int .i64 (liveN (chC l x.val) : Nat), .int .i64 (goneN (chC l x.val) : Nat), .slice (some ⟨gv, 0, none⟩) (chC l x.val).length capv] 97)
     obtain ⟨va, Wa, hra, hoa, hga⟩ := append_block w.heap.size _ bs ⟨chC l x.val, .slice (some ⟨gv, 0, none⟩) (chC l x.val).length capv⟩ (.slice (some ⟨wc.heap.size, 0, none⟩) 1 1) (wc.alloc (.cells #[.int .i64 (liveN (chC l x.val) : Nat), .int .i64 (goneN (chC l x.val) : Nat), .slice (some ⟨gv, 0, none⟩) (chC l x.val).length capv] 97)) bs.length rfl (hBc.row.alloc (.cells #[.int .i64 (liveN (chC l x.val) : Nat), .int .i64 (goneN (chC l x.val) : Nat), .slice (some ⟨gv, 0, none⟩) (chC l x.val).length capv] 97)) ⟨rfl, _, 1, rfl, fun _ => ⟨wc.heap.size, 0, rfl, fun j u hj => by rw [Nat.zero_add]; exact (box_cell hnew j).trans (by simpa [kV] using hj)⟩⟩ rfl HBN.out hHeld.2.size 57
     obtain ⟨va1, va2, va3, rfl⟩ := slice_of hoa
     have hBd := hBc.row.alloc (.cells #[.int .i64 (liveN (chC l x.val) : Nat), .int .i64 (goneN (chC l x.val) : Nat), .slice (some ⟨gv, 0, none⟩) (chC l x.val).length capv] 97)
     have cA := row_grown c0d hga hBd (by decide)
     rw [if_pos (by rfl)]
     refine wp_run_append rfl rfl rfl hra ?_
     refine hK.out _ _ (⟨⟨_, cA⟩, below_grown hHeld.2 hga hBd (Nat.le_refl _)⟩) (fun hX => ?_)
     clear hK K hHeld
     have hHeld := hX
     clear hX
     refine rd 8 rfl fun K hK => ?_
     have z0 := box_cell cA 0
     have zf := box_frozen cA 0
     go_simp
     refine hK.out _ _ (⟨⟨_, box_set cA 0 _⟩, hHeld.2.setCell (p := ⟨w.heap.size, 0, none⟩) (Nat.le_refl _) _⟩) (fun hX => ?_)
     clear hK K hHeld
     have hHeld := hX
     clear hX
     refine wpAnyH_done (by kernel_rfl) ?_ _
     gi_wp2
     have hTy := own_typed hBd
     refine ⟨?_, ?_, ⟨⟨_, bs ++ [⟨chC l x.val, .slice (some ⟨gv, 0, none⟩) (chC l x.val).length capv⟩], box_set cA 0 _, ⟨own_far hoa cA (by decide) 0 _, fun y hy => ?_, ?_⟩, ?_⟩, hHeld.2⟩⟩
     ·exact (KeepsOthers.drew W).trans ((others_below hb).trans ((others_below hbc).trans ((KeepsOthers.alloc wc _).trans ((KeepsOthers.of_grownBy hga (fun j o hj ho => by obtain ⟨_, cur', hc⟩ := hTy j hj; rw [hc] at ho; cases ho; rfl)).trans (KeepsOthers.setCell _ _ _)))))
     ·exact kf_t (KF.refl _ _ W).drew (kf_t (KF.below HC.out.2.2.drew.size hb) (kf_t (KF.below (Nat.le_trans HC.out.2.2.drew.size hb.size) hbc) (kf_t (KF.alloc (Nat.le_trans (Nat.le_trans HC.out.2.2.drew.size hb.size) hbc.size) _) (kf_t (KF.grown hga (Nat.le_trans (Nat.le_trans (Nat.le_trans HC.out.2.2.drew.size hb.size) hbc.size) (by simp)) (fun g e => by obtain ⟨q1, cur', hc⟩ := hTy g e; exact ⟨q1, .inr ⟨_, _, _, hc, .inr (.inr (.inr rfl))⟩⟩)) (KF.set (Nat.le_refl _) (by omega))))))
     ·refine own_far (own_turnT (T := fun t => t = 41) (W := wc.alloc (.cells #[.int .i64 (liveN (chC l x.val) : Nat), .int .i64 (goneN (chC l x.val) : Nat), .slice (some ⟨gv, 0, none⟩) (chC l x.val).length capv] 97)) ?_ hga (fun r e => by obtain ⟨_, cur', hc⟩ := hTy r e; exact ⟨_, hc, .inr ⟨_, _, _, rfl, by decide⟩⟩) rfl) cA (by decide) 0 _
      rcases List.mem_append.1 hy with h | h
      ·exact (hBc.own y h).alloc _
      ·rw [List.mem_singleton.1 h]
       exact (own_lower hoc (Nat.le_trans HC.out.2.2.drew.size hb.size)).alloc _
     ·rw [List.pairwise_append]
      refine ⟨HC.out.2.1.apart, List.pairwise_singleton _ _, fun y hy z hz g h1 h2 => ?_⟩
      rw [List.mem_singleton.1 hz] at h2
      obtain ⟨_, cur', hc⟩ := own_typed (HC.out.2.1.own y hy) g h1
      have q1 := box_lt hc
      obtain ⟨q2, _⟩ := own_typed hoc g h2
      have q3 : W.heap.size ≤ wb.heap.size := hb.size
      omega
     ·rw [List.map_append, List.map_append, HBS.out]
      rfl
    ·go_simp
     have c0d := row_al c0c (.cells #[.int .i64 (liveN (chC l x.val) : Nat), .int .i64 (goneN (chC l x.val) : Nat), .slice (some ⟨gv, 0, none⟩) (chC l x.val).length capv] 97)
     refine hK.out _ _ (⟨⟨_, c0d⟩, hHeld.2.alloc hHeld.2.size _⟩) (fun hX => ?_)
     clear hK K hHeld
     have hHeld := hX
     clear hX
     refine rd 0 rfl fun K hK => ?_
     have zn := box_cell c0d 0
     go_simp
     refine hK.out _ _ (hHeld) (fun hX => ?_)
     clear hK K hHeld
     have hHeld := hX
     clear hX
     refine rd 7 rfl fun K hK => ?_
     have hDc : Below W.heap.size W wc := ((Below.refl W.heap.size W).drew.trans hb).trans (hbc.mono hb.size)
     have hBc := HC.out.2.1.up hDc
     have hnew := heap_new wc (.cells #[.int .i64 (liveN (chC l x.val) : Nat), .int .i64 (goneN (chC l x.val) : Nat), .slice (some ⟨gv, 0, none⟩) (chC l x.val).length capv] 97)
     obtain ⟨va, Wa, hra, hoa, hga⟩ := append_block w.heap.size _ bs ⟨chC l x.val, .slice (some ⟨gv, 0, none⟩) (chC l x.val).length capv⟩ (.slice (some ⟨wc.heap.size, 0, none⟩) 1 1) (wc.alloc (.cells #[.int .i64 (liveN (chC l x.val) : Nat), .int .i64 (goneN (chC l x.val) : Nat), .slice (some ⟨gv, 0, none⟩) (chC l x.val).length capv] 97)) bs.length rfl (hBc.row.alloc (.cells #[.int .i64 (liveN (chC l x.val) : Nat), .int .i64 (goneN (chC l x.val) : Nat), .slice (some ⟨gv, 0, none⟩) (chC l x.val).length capv] 97)) ⟨rfl, _, 1, rfl, fun _ => ⟨wc.heap.size, 0, rfl, fun j u hj => by rw [Nat.zero_add]; exact (box_cell hnew j).trans (by simpa [kV] using hj)⟩⟩ rfl HBN.out hHeld.2.size 57
     obtain ⟨va1, va2, va3, rfl⟩ := slice_of hoa
     have hBd := hBc.row.alloc (.cells #[.int .i64 (liveN (chC l x.val) : Nat), .int .i64 (goneN (chC l x.val) : Nat), .slice (some ⟨gv, 0, none⟩) (chC l x.val).length capv] 97)
     have cA := row_grown c0d hga hBd (by decide)
     rw [if_pos (by rfl)]
     refine wp_run_append rfl rfl rfl hra ?_
     refine hK.out _ _ (⟨⟨_, cA⟩, below_grown hHeld.2 hga hBd (Nat.le_refl _)⟩) (fun hX => ?_)
     clear hK K hHeld
     have hHeld := hX
     clear hX
     refine rd 8 rfl fun K hK => ?_
     have z0 := box_cell cA 0
     have zf := box_frozen cA 0
     go_simp
     refine hK.out _ _ (⟨⟨_, box_set cA 0 _⟩, hHeld.2.setCell (p := ⟨w.heap.size, 0, none⟩) (Nat.le_refl _) _⟩) (fun hX => ?_)
     clear hK K hHeld
     have hHeld := hX
     clear hX
     refine wpAnyH_done (by kernel_rfl) ?_ _
     gi_wp2
     have hTy := own_typed hBd
     refine ⟨?_, ?_, ⟨⟨_, bs ++ [⟨chC l x.val, .slice (some ⟨gv, 0, none⟩) (chC l x.val).length capv⟩], box_set cA 0 _, ⟨own_far hoa cA (by decide) 0 _, fun y hy => ?_, ?_⟩, ?_⟩, hHeld.2⟩⟩
     ·exact (KeepsOthers.drew W).trans ((others_below hb).trans ((others_below hbc).trans ((KeepsOthers.alloc wc _).trans ((KeepsOthers.of_grownBy hga (fun j o hj ho => by obtain ⟨_, cur', hc⟩ := hTy j hj; rw [hc] at ho; cases ho; rfl)).trans (KeepsOthers.setCell _ _ _)))))
     ·exact kf_t (KF.refl _ _ W).drew (kf_t (KF.below HC.out.2.2.drew.size hb) (kf_t (KF.below (Nat.le_trans HC.out.2.2.drew.size hb.size) hbc) (kf_t (KF.alloc (Nat.le_trans (Nat.le_trans HC.out.2.2.drew.size hb.size) hbc.size) _) (kf_t (KF.grown hga (Nat.le_trans (Nat.le_trans (Nat.le_trans HC.out.2.2.drew.size hb.size) hbc.size) (by simp)) (fun g e => by obtain ⟨q1, cur', hc⟩ := hTy g e; exact ⟨q1, .inr ⟨_, _, _, hc, .inr (.inr (.inr rfl))⟩⟩)) (KF.set (Nat.le_refl _) (by omega))))))
     ·refine own_far (own_turnT (T := fun t => t = 41) (W := wc.alloc (.cells #[.int .i64 (liveN (chC l x.val) : Nat), .int .i64 (goneN (chC l x.val) : Nat), .slice (some ⟨gv, 0, none⟩) (chC l x.val).length capv] 97)) ?_ hga (fun r e => by obtain ⟨_, cur', hc⟩ := hTy r e; exact ⟨_, hc, .inr ⟨_, _, _, rfl, by decide⟩⟩) rfl) cA (by decide) 0 _
      rcases List.mem_append.1 hy with h | h
      ·exact (hBc.own y h).alloc _
      ·rw [List.mem_singleton.1 h]
       exact (own_lower hoc (Nat.le_trans HC.out.2.2.drew.size hb.size)).alloc _
     ·rw [List.pairwise_append]
      refine ⟨HC.out.2.1.apart, List.pairwise_singleton _ _, fun y hy z hz g h1 h2 => ?_⟩
      rw [List.mem_singleton.1 hz] at h2
      obtain ⟨_, cur', hc⟩ := own_typed (HC.out.2.1.own y hy) g h1
      have q1 := box_lt hc
      obtain ⟨q2, _⟩ := own_typed hoc g h2
      have q3 : W.heap.size ≤ wb.heap.size := hb.size
      omega
     ·rw [List.map_append, List.map_append, HBS.out]
      rfl
 case done =>
  rintro D ys X hD rfl ⟨⟨v', bs, c0, hBk, hbs⟩, hB⟩ hK
  have e0 := box_cell c0 0
  obtain ⟨ao', n', cap', rfl⟩ := slice_of hBk.row
  have HQ := Lib.hid (And.intro hBk (And.intro hbs hB))
  clear c0 hBk hbs hB
  gi_wp2
  refine ⟨by simp, .inl ⟨_, _, rfl, run_takeDeferred hK, ?_⟩⟩
  have hBD := belowK_b (w := w) (Nat.le_refl _) X D _ (.deferred none) (by omega) hK rfl rfl
  obtain ⟨hBk, hbs, hB⟩ := HQ.out
  refine ⟨.slice ao' n' cap', ?rs, .slice ao' n' cap', bs, rfl, hBk.turn (grownBy_putObj' X D (.deferred none)) (fun r e => by cases e; exact ⟨_, hK, rfl⟩), ?_, ?_, ?_, hB.trans hBD⟩
  case rs => exact results_tmp (fn := Try.f23) (t := 2) rfl _ _ _
  ·rw [catB_flat, hbs, ← HN.out]; exact chC_all l
  ·have := congrArg List.length hbs
   rw [List.length_map, List.length_map, List.length_finRange] at this
   have h2 : chN N ≤ 7813 := by unfold chN; omega
   omega
  ·refine ⟨?_, by have := congrArg List.length hbs; rw [List.length_map, List.length_map, List.length_finRange] at this; first | exact this | rw [this, HN.out]⟩
   intro x hx
   have hm : x.cs ∈ bs.map (·.cs) := List.mem_map.2 ⟨x, hx, rfl⟩
   rw [hbs] at hm
   obtain ⟨y, _, e⟩ := List.mem_map.1 hm
   have hy := chN_lt.1 y.isLt
   intro q
   rw [q] at e
   have := congrArg List.length e
   rw [chC_length, HN.out] at this
   unfold chL at this
   simp at this
   omega
 case stop =>
  rintro D c pre X hD hpre ⟨hno, _⟩ hK
  exact hno.elim
end Go.Proofs.Ytmedickofiielaa

namespace Go.Proofs.Ytmedickofiielaa
open Go.RowKit Go.Shelf
attribute [local go_sem] Oper.semAt_some

end Go.Proofs.Ytmedickofiielaa

namespace Go.Proofs.Ytmedickofiielaa
open Go.RowKit Go.Shelf
attribute [local go_sem] Oper.semAt_some

theorem own_keepS {W W' : World} {S : Nat → Prop} {n₀ : Nat} {e : TypeId} {sz : Nat} {v : Value} {n : Nat} {xs : List Value} (h : W.ownsRow n₀ e sz v n xs) (k : Keep S W.heap.size W W') (hs : ∀ g, v.ownBlock = some g → ¬ S g) : W'.ownsRow n₀ e sz v n xs := by
 refine ⟨h.1, ?_⟩
 rcases h.2 with q | ⟨g, cap, cur, q1, q2, q3, q4⟩
 ·exact .inl q
 ·exact .inr ⟨g, cap, cur, q1, q2, (k.block g (box_lt q3) (hs g (by rw [q1]; rfl))).trans q3, q4⟩
end Go.Proofs.Ytmedickofiielaa

namespace Go.Proofs.Ytmedickofiielaa
open Go.RowKit Go.Shelf
attribute [local go_sem] Oper.semAt_some

def IntsKept (gb o : Nat) (w w' : World) : Prop := ∀ (b i : Nat) (x : Int), w.cell? ⟨b, i, none⟩ = some (.int .i64 x) → ¬ (b = gb ∧ (i = o ∨ i = o + 1)) → w'.cell? ⟨b, i, none⟩ = some (.int .i64 x)
end Go.Proofs.Ytmedickofiielaa

namespace Go.Proofs.Ytmedickofiielaa
open Go.RowKit

def finK (n k : Nat) : List (Fin n) := (List.finRange n).take k
end Go.Proofs.Ytmedickofiielaa

namespace Go.Proofs.Ytmedickofiielaa
open Go.RowKit Go.Shelf
attribute [local go_sem] Oper.semAt_some

structure SzOK (W : World) (B g : Nat) (bv nm : Value) (bs : List PB) : Prop where
 box : W.heap[B]? = some (.cells #[bv, nm] 60 (0, 0))
 size : ∀ (k : Nat) (x : PB), bs[k]? = some x → ∃ cap a b : Nat, bv = .slice (some ⟨g, 0, none⟩) bs.length cap ∧ a + b = x.cs.length ∧ W.cell? ⟨g, k * 3, none⟩ = some (.int .i64 (a : Int)) ∧ W.cell? ⟨g, k * 3 + 1, none⟩ = some (.int .i64 (b : Int))
theorem SzOK.below {W W' : World} {B g : Nat} {bv nm : Value} {bs : List PB} (h : SzOK W B g bv nm bs) (hb : Below W.heap.size W W') : SzOK W' B g bv nm bs :=
 ⟨row_up h.box hb, fun k x hx => by obtain ⟨cp, a, b, hv, e, c0, c1⟩ := h.size k x hx; exact ⟨cp, a, b, hv, e, cell_stays hb c0, cell_stays hb c1⟩⟩
def RowZ (t : TypeId) : Prop := t = 41 ∨ t = 97
structure KZ (B g : Nat) (bv nm sp : Value) (bs : List PB) (xs : List Sp) (m₁ : Nat) (W W' : World) : Prop where
 z : SzOK W B g bv nm bs → SzOK W' B g bv nm bs
 s : 2 ≤ xs.length → SpAt W sp xs → SpAt W' sp xs
 b : ∀ (i : Nat) (c : Array Value) (t : TypeId) (fr : Nat × Nat), m₁ ≤ i → ¬ RowZ t → W.heap[i]? = some (.cells c t fr) → W'.heap[i]? = some (.cells c t fr)
structure SpI {n : Nat} (J : List (Fin n) → World → Prop) (Bd B g : Nat) (bv nm sp : Value) (bs : List PB) (xs : List Sp) (c i : Nat) (W : World) : Prop where
 j : J (finK n c) W
 z : SzOK W B g bv nm bs
 s : i = 0 ∨ 2 ≤ xs.length → SpAt W sp xs
 d : W.heap[Bd]? = some (.cells #[.pointer (some ⟨B, 0, none⟩)] 42 (0, 0))
theorem SpI.below {n : Nat} {J : List (Fin n) → World → Prop} {Bd B g : Nat} {bv nm sp : Value} {bs : List PB} {xs : List Sp} {c i Z : Nat} {W W' : World} (h : SpI J Bd B g bv nm sp bs xs c i W) (hJ : AbidesFrom Z J) (hb : Below W.heap.size W W') : SpI J Bd B g bv nm sp bs xs c i W' :=
 ⟨hJ _ W W' none h.j ⟨hb.os, hb.tape, hb.output, hb.size, fun i hi _ => hb.block i hi⟩ (fun r e => by cases e), h.z.below hb, fun q => (h.s q).below hb, row_up h.d hb⟩
end Go.Proofs.Ytmedickofiielaa

namespace Go.Proofs.Ytmedickofiielaa
open Go.RowKit Go.Shelf
attribute [local go_sem] Oper.semAt_some

end Go.Proofs.Ytmedickofiielaa

namespace Go.Proofs.Ytmedickofiielaa
open Go.RowKit Go.Shelf
attribute [local go_sem] Oper.semAt_some

end Go.Proofs.Ytmedickofiielaa

namespace Go.Proofs.Ytmedickofiielaa
open Go.RowKit Go.Shelf
attribute [local go_sem] Oper.semAt_some

end Go.Proofs.Ytmedickofiielaa
