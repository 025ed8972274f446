/- Texts of this proof, joined. -/
import Derived.Test.YthekkjfaaedamaaGreatDoorGReads64
import Derived.Deep.RegionHeld
import Derived.OrdersIn
import Derived.RangeFuncBox
namespace Go.Proofs.YthekkjfaaedamaaGreatDoor
open Go

def wideAt (ro : Option Nat) : Fence := { Fence.wide with round := ro }
theorem oper_bridge {P : Program} {ro : Option Nat} {n : Nat} {o : Oper} {a : Act} {w : World} {K : Act → World → Prop} {Q : Exit → Act → World → Prop} (hd : ∀ c, o.op ≠ .defer c) (h : o.wp P a w K Q) : o.wpIn (wideAt ro) n P a w K Q := by
 refine ⟨fun _ _ => trivial, ?_⟩
 show o.uponIn (wideAt ro) n P a K Q ((o.semAt ro a.eval).run P w)
 rw [Oper.semAt_eq ro a.eval o hd]
 unfold Oper.wp at h
 generalize (execOp a.eval o).run P w = r at *
 cases r with
 | ok x w' =>
  cases x with
  | value v => exact h
  | skip => exact h
  | defer d => exact h
  | enter f args => exact ⟨(fun q => by simp [wideAt, Fence.wide] at q), callsIn_wide.2 h⟩
  | row r args => exact ⟨(fun q => by simp [wideAt, Fence.wide] at q), fun c cs _ => let ⟨v, w', q, s⟩ := h c cs; ⟨v, w', q, stepsIn_wide.2 s⟩⟩
  | round l f tmps assign body => exact h.elim
  | _ => exact h.elim
 | halt x w' =>
  cases x <;> first | exact h | exact h.elim
theorem any_bridge {P : Program} {md : Region.Mode} {ops : Array Oper} {ro : Option Nat} {n : Nat} {Q : Exit → Act → World → Prop} (hd : ∀ (i : Nat) (o : Oper), ops[i]? = some o → ∀ c, o.op ≠ .defer c) (hL : ¬ LetsOut Q) :
  ∀ (fuel : Nat) (listed : Array Bool) (a : Act) (w : World), wpAny P md ops Q fuel listed a w → wpAnyIn (wideAt ro) n P md ops Q fuel listed a w
 | 0, _, _, _, h => h
 | fuel + 1, listed, a, w, h => ⟨h.1, fun i hi => by
  have q := h.2 i hi
  unfold wpOp at q
  unfold wpOpIn
  cases ho : ops[i]? with
  | none => rw [ho] at q; exact any_bridge hd hL fuel _ a w q
  | some o =>
   rw [ho] at q
   dsimp only at q ⊢
   split
   ·next hw =>
    rw [if_pos hw] at q
    rcases q with q | ⟨_, q⟩
    ·exact oper_bridge (hd i o ho) (Oper.wp_mono (fun a w z => any_bridge hd hL fuel _ a w z) q)
    ·exact absurd q hL
   ·next hw =>
    rw [if_neg hw] at q
    exact ⟨fun _ _ => trivial, any_bridge hd hL fuel _ _ w q⟩⟩
def noDefer (ops : Array Oper) : Bool := ops.all fun o => match o.op with
 | .defer _ => false
 | _ => true
theorem noDefer_at {ops : Array Oper} (h : noDefer ops = true) (i : Nat) (o : Oper) (ho : ops[i]? = some o) : ∀ c, o.op ≠ .defer c := by
 intro c e
 obtain ⟨hi, rfl⟩ := Array.getElem?_eq_some_iff.1 ho
 have := Array.all_eq_true.1 h i hi
 rw [e] at this
 cases this
theorem region_bridge {P : Program} {id : Nat} {ops : Array Oper} {ro : Option Nat} {n : Nat} {Q : Exit → Act → World → Prop} {S : World → Prop} {a : Act} {w : World} (hm : P.follows .mixedOrders = true) (hd : noDefer ops = true) (hL : ¬ LetsOut Q) (hS : S w.drew)
  (h : S w.drew → wpAnyH P .any ops Q S ops.size (Array.replicate ops.size false) a w.drew) : (Code.region id ops true).wpIn (wideAt ro) n P Q a w :=
 wpIn_region_any hm (any_bridge (noDefer_at hd) hL _ _ _ _ (wpAny_of_held _ _ _ _ (h hS)))
def onlyN (Q : Exit → Act → World → Prop) : Exit → Act → World → Prop
 | .normal, a, w => Q .normal a w
 | _, _, _ => False
theorem region_bridgeN {P : Program} {id : Nat} {ops : Array Oper} {ro : Option Nat} {n : Nat} {Q : Exit → Act → World → Prop} {S : World → Prop} {a : Act} {w : World} (hm : P.follows .mixedOrders = true) (hd : noDefer ops = true) (hS : S w.drew)
  (h : S w.drew → wpAnyH P .any ops (onlyN Q) S ops.size (Array.replicate ops.size false) a w.drew) : (Code.region id ops true).wpIn (wideAt ro) n P Q a w := by
 have g := region_bridge (id := id) (ro := ro) (n := n) hm hd (by rintro ⟨_, _, h⟩; exact h) hS h
 intro b k cs h1 h2 h3
 obtain ⟨e, a', w', q, r⟩ := g b k cs h1 h2 h3
 refine ⟨e, a', w', ?_, r⟩
 cases e <;> first | exact q | exact False.elim q
end Go.Proofs.YthekkjfaaedamaaGreatDoor

namespace Go.Proofs.YthekkjfaaedamaaGreatDoor
open Go.RowKit

def zeros64 (M : Nat) : Array Value := madeCells #[Value.int .i64 0] M
theorem zeros64_eq (M : Nat) : zeros64 M = Array.replicate M (Value.int .i64 0) := by
 apply Array.ext'
 apply List.ext_getElem
 ·simp [zeros64, madeCells]
 ·intro i h1 h2
  simp [zeros64, madeCells, Nat.mod_one]
theorem run_make64 (M : Nat) (hM : M ≤ 1000) (E : Int) (hE : E = M) (W : World) : (Instr.makeSlice 23 (.int .i64 E) (.int .i64 E)).run Tryz.prog W = .ok (.slice (some ⟨W.heap.size, 0, none⟩) M M) (W.alloc (.cells (Array.replicate M (Value.int .i64 0)) 3)) := by
 obtain ⟨i0, hi, hz0, hz1, hz2⟩ := info_parts infoI64
 subst hE
 have h := run_make (P := Tryz.prog) W 23 3 i0 (.int .i64 0) Tryz.underlying23 hi hz0 .i64 .i64 M M (by omega) (Int.le_refl _) (by rw [hz2]; omega) (by omega)
 rw [Int.toNat_natCast, hz1, Nat.mul_one] at h
 rw [← zeros64_eq]
 exact h
theorem splice_zeros (M : Nat) (xs : List Int) (h : xs.length ≤ M) : splice (List.replicate M (Value.int .i64 0)) 0 (xs.map (Value.int .i64)) = (firstL (fun j => xs.getD j 0) M).map (Value.int .i64) := by
 apply List.ext_getElem
 ·rw [length_splice _ _ _ (by simp; exact h)]
  simp [firstL]
 ·intro i h1 h2
  have hi : i < M := by simpa [firstL] using h2
  simp only [splice, List.take_zero, List.nil_append, Nat.zero_add, List.getElem_map, firstL, List.getElem_range]
  by_cases g : i < xs.length
  ·rw [List.getElem_append_left (by simpa using g)]
   simp [List.getD, g]
  ·rw [List.getElem_append_right (by simpa using g)]
   simp [List.getD, g]
theorem firstL_set (f : Nat → Int) (M m : Nat) (q : Int) : ((firstL f M).map (Value.int .i64)).toArray.setIfInBounds m (.int .i64 q) = ((firstL (fun j => if j = m then q else f j) M).map (Value.int .i64)).toArray := by
 apply Array.ext
 ·simp [firstL]
 ·intro i h1 h2
  have hi : i < M := by simpa [firstL] using h2
  rw [Array.getElem_setIfInBounds (by simpa [firstL] using hi)]
  by_cases e : m = i
  ·subst e
   simp [firstL]
  ·rw [if_neg e]
   simp [firstL]
   exact fun g => absurd g.symm e
theorem vMade_first (f : Nat → Int) (M : Nat) (hM : M ≤ 16) (h1 : f (M - 1) ≠ 0) (h2 : 0 < M) (h3 : ∀ s, M ≤ s → f s = 0) : vMade f = firstL f M := by
 unfold vMade firstL
 rw [vLast_far f M h3 16 hM]
 obtain ⟨k, rfl⟩ : ∃ k, M = k + 1 := ⟨M - 1, by omega⟩
 rw [show vLast f (k + 1) = k + 1 from if_neg h1]
theorem vRaise_first {xs : List Int} {m : Nat} {q : Int} (hv : vMay xs = true) (hm : m < 16) (hq : q ≠ 0) (M : Nat) (hM : max xs.length (m + 1) = M) : vRaise xs ((m : Int) + 1) q = firstL (fun j => if j = m then q else xs.getD j 0) M := by
 have h16 := (vMay_parts hv).1
 have hl := (vMay_parts hv).2.2
 rw [show vRaise xs ((m : Int) + 1) q = vMade (fun j => if j = m then q else xs.getD j 0) from vMade_congr fun s _ => by
  by_cases e : s = m
  ·rw [if_pos (by omega), if_pos e]
  ·rw [if_neg (by omega), if_neg e]]
 refine vMade_first _ M (by omega) ?_ (by omega) fun s hs => ?_
 ·show (if M - 1 = m then q else xs.getD (M - 1) 0) ≠ 0
  by_cases e : M - 1 = m
  ·rw [if_pos e]; exact hq
  ·rw [if_neg e]
   rcases hl with g | g
   ·rw [g] at hM; simp at hM; omega
   ·rw [show M - 1 = xs.length - 1 by omega]; exact g
 ·show (if s = m then q else xs.getD s 0) = 0
  rw [if_neg (by omega)]
  simp [List.getD, show xs.length ≤ s by omega]
theorem copy_src {W : World} {ao : Option Addr} {n cap : Nat} {xs : List Int} (h : Reads64 W (.slice ao n cap) xs) (h0 : 0 < (xs.map (Value.int .i64)).length) : ∃ ad, ao = some ad ∧ ∀ j v, (xs.map (Value.int .i64))[j]? = some v → W.cell? (ad.add j) = some v := by
 obtain ⟨ao', cap', hv, h2⟩ := h
 cases hv
 obtain ⟨b, off, rfl, hc⟩ := h2 (fun e => by rw [e] at h0; exact absurd h0 (Nat.lt_irrefl 0))
 refine ⟨_, rfl, fun j v hj => ?_⟩
 rw [show (⟨b, off, none⟩ : Addr).add j = ⟨b, off + j, none⟩ by unfold Addr.add; split <;> simp_all]
 rw [List.getElem?_map] at hj
 obtain ⟨x, hx, rfl⟩ := Option.map_eq_some_iff.1 hj
 obtain ⟨hl, he⟩ := List.getElem?_eq_some_iff.1 hx
 have := hc j hl
 rw [show xs.getD j 0 = x by simp [List.getD, hl, he]] at this
 exact this
theorem ints_one (xs : List Int) : ∀ v ∈ xs.map (Value.int .i64), v.oneCell' = true := fun v hv => by
 obtain ⟨x, _, rfl⟩ := List.mem_map.1 hv
 rfl
theorem sizeInt1 : (Tryz.prog.info? 3).map (·.size) = some 1 := by kernel_rfl
theorem copy_run64 (W W0 : World) (g M n cap : Nat) (ao : Option Addr) (xs : List Int) (hg : W.heap[g]? = some (.cells (List.replicate M (Value.int .i64 0)).toArray 3 (0, 0))) (hr : Reads64 W (.slice ao n cap) xs) (hn : xs.length = n) (hM : n ≤ M) (hb : Below g W0 W) :
  ∃ w', (Builtin.copy_ #[23, 23] 3 #[.slice (some ⟨g, 0, none⟩) M M, .slice ao n cap]).run Tryz.prog W = .ok (goInt n) w' ∧ w'.heap[g]? = some (.cells ((firstL (fun j => xs.getD j 0) M).map (Value.int .i64)).toArray 3 (0, 0)) ∧ Below g W0 w' := by
 have hS := splice_zeros M xs (by omega)
 rcases Nat.eq_zero_or_pos n with h0 | hpos
 ·subst h0
  refine ⟨W, run_copy_none (P := Tryz.prog) W _ _ _ 3 _ _ _ _ _ _ Tryz.underlying23 sizeInt1 (by simp), ?_, hb⟩
  rw [← hS, List.eq_nil_of_length_eq_zero hn]
  simpa [splice] using hg
 ·obtain ⟨ad, rfl, hsrc⟩ := copy_src hr (by simp; omega)
  have hrun := run_copy_row (P := Tryz.prog) W 23 23 3 3 g 0 M M ad n cap _ 3 (xs.map (Value.int .i64)) Tryz.underlying23 sizeInt1 hg (by rw [List.length_map, hn]; exact (Nat.min_eq_left hM).symm) hsrc (by simp; omega) (ints_one xs)
  rw [List.length_map, hn] at hrun
  refine ⟨_, hrun, ?_, below_setRow hb (Nat.le_refl _) _⟩
  rw [setRow_heap W g _ _ _ _ hg, ← hS]
  simp [splice, hn]
theorem Reads64.raised {W : World} {g M m cap : Nat} {q : Int} {f : Nat → Int} (h : W.heap[g]? = some (.cells ((firstL f M).map (Value.int .i64)).toArray 3 (0, 0))) :
  Reads64 (W.setCell ⟨g, m, none⟩ (.int .i64 q)) (.slice (some ⟨g, 0, none⟩) M cap) (firstL (fun j => if j = m then q else f j) M) := by
 have h2 := heap_setCell_same W g m _ _ (Value.int .i64 q) h
 rw [firstL_set] at h2
 refine Reads64.cells fun i hi => ?_
 rw [Nat.zero_add]
 refine (cell_of_row _ _ i _ _ _ h2).trans ?_
 simp [firstL, hi]
set_option maxRecDepth 100000 in
set_option maxHeartbeats 8000000 in
theorem pRaise_any (v : Value) (xs : List Int) (s q : Int) (w : World) (h : Reads64 w v xs) (hx : xs.length ≤ 1000000000) :
  Calls Tryz.prog 83 #[v, nmV s q] w (RaisePost xs s q w) := by
 have hN := NBox.new s q w 42
 have hM := fun W => pMayName_any s q W
 unfold nmV at hM ⊢
 have h0 := h.below hN.2.2
 have hV := pMay_any v xs _ h0 hx
 obtain ⟨c0, c1, hb0⟩ := id hN
 cases hv : vMay xs with
 | false =>
  have HP := Lib.hid (show raiseC xs s q = 1 by unfold raiseC; rw [hv]; rfl)
  rw [hv] at hV
  clear hv
  go_enter Tryz.func83, Tryz.ntmps83
  go_wp2_with fail
  refine hV.mono ?_
  rintro e _ ⟨rfl, rfl⟩
  go_wp2
  go_ret2
  exact RaisePost.no HP.out (by decide) hb0
 | true =>
 rw [hv] at hV
 cases hn : nMay s q with
 | false =>
  have HP := Lib.hid (show raiseC xs s q = 1 by unfold raiseC; rw [hv, hn]; rfl)
  rw [hn] at hM
  clear hv hn
  go_enter Tryz.func83, Tryz.ntmps83
  go_wp2_with fail
  refine hV.mono ?_
  rintro e _ ⟨rfl, rfl⟩
  go_wp2_with fail
  refine (hM _).mono ?_
  rintro e w2 ⟨rfl, hb2⟩
  have hz := (hN.keep hb2).2.2
  go_wp2
  go_ret2
  exact RaisePost.no HP.out (by decide) hz
 | true =>
 rw [hn] at hM
 have hs := of_decide_eq_true hn
 have hC := fun W hW => pCount_any v xs s W hW hx (by omega)
 rw [hv, if_pos rfl] at hC
 have hcb := vCount_bounds (vMay_parts hv).2.1 s
 have HR := Lib.hid (show raiseC xs s q = if vCount xs s = 1099511627776 then 7 else if q ≠ vCount xs s + 1 then 17 else 0 by unfold raiseC; rw [hv, hn]; rfl)
 by_cases h7 : vCount xs s = 1099511627776
 ·have HP := Lib.hid (show raiseC xs s q = 7 by rw [HR.out, if_pos h7])
  rw [h7] at hC
  clear hv hn hcb hs h7 HR
  go_enter Tryz.func83, Tryz.ntmps83
  go_wp2_with fail
  refine hV.mono ?_
  rintro e _ ⟨rfl, rfl⟩
  go_wp2_with fail
  refine (hM _).mono ?_
  rintro e w2 ⟨rfl, hb2⟩
  have hN2 := hN.keep hb2
  have h2 := h0.below hb2
  clear c0 c1 hN hb0
  obtain ⟨c0, c1, hz⟩ := id hN2
  go_wp2_with fail
  refine (hC _ h2).mono ?_
  rintro e _ ⟨rfl, rfl⟩
  go_wp2
  go_ret2
  exact RaisePost.no HP.out (by decide) hz
 ·by_cases h17 : q = vCount xs s + 1
  ·have HP := Lib.hid (show raiseC xs s q = 0 by rw [HR.out, if_neg h7, if_neg (fun g => g h17)])
   obtain ⟨m, rfl⟩ : ∃ m : Nat, s = (m : Int) + 1 := ⟨(s - 1).toNat, by omega⟩
   have hm16 : m < 16 := by omega
   obtain ⟨M, hMM⟩ : ∃ M, max xs.length (m + 1) = M := ⟨_, rfl⟩
   have h16 := (vMay_parts hv).1
   have hM16 : M ≤ 16 := by omega
   have hmM : m < M := by omega
   have HV := Lib.hid (vRaise_first hv hm16 (q := q) (by omega) M hMM)
   have HS := Lib.hid (splice_zeros M xs (by omega))
   have HX := Lib.hid (show xs.length ≤ M by omega)
   generalize vCount xs ((m : Int) + 1) = c at *
   have h17b : (q != c + 1) = false := by simpa using h17
   have h7b : (c == 1099511627776) = false := beq_eq_false_iff_ne.2 h7
   have hwc : IntKind.i64.wrap (c + 1) = c + 1 := by simp only [IntKind.wrap_i64]; omega
   have hcase : ((xs.length : Int) < (m : Int) + 1 ∧ (m : Int) + 1 = (M : Int)) ∨ (¬ (xs.length : Int) < (m : Int) + 1 ∧ (xs.length : Int) = (M : Int)) := by omega
   have H0 := Lib.hid h0
   obtain ⟨ao, cap, rfl, hpl⟩ := h
   have HPL := Lib.hid hpl
   clear hv hn hcb hs h7 h17 HR h0 hpl hx h16 hMM
   obtain ⟨n, hnn⟩ : ∃ n, xs.length = n := ⟨_, rfl⟩
   rw [hnn] at hV hC hcase HX H0 ⊢
   have HNN := Lib.hid hnn
   have hwm : IntKind.i64.wrap (m : Int) = m := by simp only [IntKind.wrap_i64]; omega
   clear hnn
   rcases hcase with ⟨g1, g2⟩ | ⟨g1, g2⟩
   all_goals
    have hmk := fun W => run_make64 M (by omega) _ g2 W
    clear g2
    go_enter Tryz.func83, Tryz.ntmps83
    go_wp2_with fail
    refine hV.mono ?_
    rintro e _ ⟨rfl, rfl⟩
    go_wp2_with fail
    refine (hM _).mono ?_
    rintro e w2 ⟨rfl, hb2⟩
    have hN2 := hN.keep hb2
    have h2 := H0.out.below hb2
    clear c0 c1 hN hb0 hM hV
    obtain ⟨c0, c1, hz⟩ := id hN2
    go_wp2_with fail
    refine (hC _ h2).mono ?_
    clear hC
    rintro e _ ⟨rfl, rfl⟩
    have hba := (Below.refl w2.heap.size w2).alloc (Nat.le_refl _) (.cells (Array.replicate M (Value.int .i64 0)) 3)
    have h3 := h2.below hba
    have hga : (w2.alloc (.cells (Array.replicate M (Value.int .i64 0)) 3)).heap[w2.heap.size]? = some (.cells (List.replicate M (Value.int .i64 0)).toArray 3 (0, 0)) := heap_alloc_new w2 _
    have Hba := Lib.hid hba
    have H3 := Lib.hid h3
    have Hga := Lib.hid hga
    have HN2 := Lib.hid hN2
    clear hba h3 hga hN2 h2 hz
    obtain ⟨w3, hrun, hg3, hB3⟩ := copy_run64 _ w2 w2.heap.size M n cap ao xs Hga.out H3.out HNN.out HX.out Hba.out
    have hcell : w3.cell? ⟨w2.heap.size, m, none⟩ = some (.int .i64 (xs.getD m 0)) := (cell_of_row _ _ m _ _ _ hg3).trans (by simp [firstL, hmM])
    have hfro : w3.frozen? ⟨w2.heap.size, m, none⟩ = false := frozen_of_row _ _ m _ _ hg3
    have hN3 := HN2.out.keep hB3
    have hr := Reads64.raised (m := m) (q := q) (cap := M) hg3
    rw [← HV.out] at hr
    have HRR := Lib.hid hr
    have HZZ := Lib.hid (hN3.set (p := ⟨w2.heap.size, m, none⟩) (World.block_lt_of_cell? w2 _ HN2.out.1) (.int .i64 q)).2.2
    have hidx : (0 : Int) ≤ (m : Int) ∧ (m : Int) < (M : Int) := ⟨by omega, by omega⟩
    have d0 : w3.cell? ⟨w.heap.size, 0, none⟩ = some (.int .i64 ((m : Int) + 1)) := hN3.1
    have d1 : w3.cell? ⟨w.heap.size, 1, none⟩ = some (.int .i64 q) := hN3.2.1
    clear hr hg3 hN3 hB3
    generalize xs.getD m 0 = y at *
    go_wp2_with fail
    go_ret2
    exact RaisePost.yes HP.out HRR.out HZZ.out
  ·have HP := Lib.hid (show raiseC xs s q = 17 by rw [HR.out, if_neg h7, if_pos h17])
   generalize vCount xs s = c at *
   have h17b : (q != c + 1) = true := by simpa using h17
   have h7b : (c == 1099511627776) = false := beq_eq_false_iff_ne.2 h7
   have hwc : IntKind.i64.wrap (c + 1) = c + 1 := by simp only [IntKind.wrap_i64]; omega
   clear hv hn hcb hs h7 h17 HR
   go_enter Tryz.func83, Tryz.ntmps83
   go_wp2_with fail
   refine hV.mono ?_
   rintro e _ ⟨rfl, rfl⟩
   go_wp2_with fail
   refine (hM _).mono ?_
   rintro e w2 ⟨rfl, hb2⟩
   have hN2 := hN.keep hb2
   have h2 := h0.below hb2
   clear c0 c1 hN hb0
   obtain ⟨c0, c1, hz⟩ := id hN2
   go_wp2_with fail
   refine (hC _ h2).mono ?_
   rintro e _ ⟨rfl, rfl⟩
   go_wp2
   go_ret2
   exact RaisePost.no HP.out (by decide) hz
end Go.Proofs.YthekkjfaaedamaaGreatDoor
