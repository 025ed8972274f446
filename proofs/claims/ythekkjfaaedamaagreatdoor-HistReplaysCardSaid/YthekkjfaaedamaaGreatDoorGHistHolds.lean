/- Texts of this proof, joined. -/
import Derived.Test.YthekkjfaaedamaaGreatDoorGCellsMayP
import Derived.Test.YthekkjfaaedamaaGreatDoorGListsRun
import Derived.Test.YthekkjfaaedamaaGreatDoorHistConds2
import Derived.Test.YthekkjfaaedamaaGreatDoorGRefLRun
import Derived.Test.YthekkjfaaedamaaGreatDoorGSpansPlain
import Derived.Test.YthekkjfaaedamaaGreatDoorHistOwnW
import Derived.Test.YthekkjfaaedamaaGreatDoorTabW
import Derived.Test.YthekkjfaaedamaaGreatDoorGHistAt
import Derived.Test.YthekkjfaaedamaaGreatDoorGRefOps
import Derived.Deep.RegionHeld
namespace Go.Proofs.YthekkjfaaedamaaGreatDoor
open Go.RowKit

def CondIs (f : Nat) (z : Bool) (a : Value) (w : World) : Prop := (∀ args W, (callFunc f args).run Tryz.prog W = .ok (.enter f args) W) ∧ ∀ W, Below w.heap.size w W → Calls Tryz.prog f #[a] W fun e W' => e = .returned (.bool z) ∧ Below W.heap.size W W'
set_option maxRecDepth 100000 in
set_option maxHeartbeats 4000000 in
theorem holds_any (x0 x1 x4 : Value) (fr num : Int) (L : List (Nat × Bool)) (B cp : Nat) (w : World) (hx : ∃ a b c d e f g h i, x0 = .slice a b c ∧ x1 = .slice d e f ∧ x4 = .slice g h i) (hB : B < w.heap.size)
  (hc : ∀ i p, L[i]? = some p → w.cell? ⟨B, i, none⟩ = some (.func (.func p.1) #[] #[])) (hL : L.length ≤ 100) (hp : ∀ p ∈ L, CondIs p.1 p.2 (hiV x0 x1 fr num x4) w) :
  Calls Tryz.prog 32 #[hiV x0 x1 fr num x4, .slice (some ⟨B, 0, none⟩) L.length cp] w (MayPost (L.all fun p => p.2) w) := by
 obtain ⟨ha, hb, hcc, hd, he, hf, hg, hh, hi, rfl, rfl, rfl⟩ := hx
 have HC := Lib.hid hc
 have HP := Lib.hid hp
 obtain ⟨N, hN⟩ : ∃ N, L.length = N := ⟨_, rfl⟩
 have HN := Lib.hid hN
 rw [hN] at hL
 rw [hN]
 obtain ⟨r, hr⟩ : ∃ r, (L.all fun p => p.2) = r := ⟨_, rfl⟩
 rw [hr]
 have HRR := Lib.hid hr
 have HX := Lib.hid (heap_alloc_new w (.cells #[.slice ha hb hcc, .slice hd he hf, .int .i64 fr, .int .i64 num, .slice hg hh hi] 33))
 have HB := Lib.hid ((Below.refl w.heap.size w).alloc (Nat.le_refl _) (.cells #[.slice ha hb hcc, .slice hd he hf, .int .i64 fr, .int .i64 num, .slice hg hh hi] 33))
 clear hc hp hN hr
 unfold hiV at HP
 unfold hiV
 go_enter Tryz.func32, Tryz.ntmps32
 go_wp2
 go_loopw [9] (fun i wr => ∃ k : Nat, i = .int .i64 k ∧ k ≤ N ∧ RowKit.Hid (((L.take k).all fun p => p.2) = true) ∧ RowKit.Hid (wr.heap[w.heap.size]? = some (.cells #[.slice ha hb hcc, .slice hd he hf, .int .i64 fr, .int .i64 num, .slice hg hh hi] 33 (0, 0))) ∧ RowKit.Hid (Below w.heap.size w wr)) (fun i _ => N - (intOf i).toNat)
 case atStart => exact ⟨0, rfl, Nat.zero_le _, Lib.hid (by simp), HX, HB⟩
 case round =>
  rename World => wr
  obtain ⟨k, rfl, hk, hall, hxr, hb⟩ := hrel
  obtain ⟨⟨d0, d1, d2, d3, d4⟩, -⟩ := row5 hxr.out
  rcases Nat.lt_or_ge k N with hlt | hge
  ·obtain ⟨p, hp⟩ : ∃ p, L[k]? = some p := ⟨_, List.getElem?_eq_getElem (by rw [HN.out]; exact hlt)⟩
   have hcell := (hb.out.cell (p := ⟨B, k, none⟩) hB).trans (HC.out k p hp)
   obtain ⟨he1, hcall⟩ := HP.out p (List.mem_of_getElem? hp)
   have hi0 : (0 : Int) ≤ (k : Int) ∧ (k : Int) < (N : Int) := ⟨by omega, by omega⟩
   have HPK := Lib.hid hp
   have hC := hcall wr hb.out
   obtain ⟨f, z⟩ := p
   dsimp only at hcell he1 hC
   clear hp hcall
   cases z with
   | true =>
    go_wp2_with (go_at_fn f; refine hC.mono ?_; clear hC; rintro e w1 ⟨rfl, hb1⟩)
    have HX2 := Lib.hid (row_keep hb1 hxr.out)
    have HB2 := Lib.hid (hb.out.trans (hb1.mono hb.out.size))
    go_roundw
    case rel =>
     refine ⟨k + 1, by go_num, by omega, Lib.hid ?_, HX2, HB2⟩
     rw [List.take_add_one, HPK.out, List.all_append, hall.out]
     rfl
    case measure => simp [intOf]; omega
   | false =>
    have HPP := Lib.hid (show r = false by
     rw [← HRR.out]
     exact List.all_eq_false.2 ⟨_, List.mem_of_getElem? HPK.out, by simp⟩)
    go_wp2_with (go_at_fn f; refine hC.mono ?_; clear hC; rintro e w1 ⟨rfl, hb1⟩)
    have HB2 := Lib.hid (hb.out.trans (hb1.mono hb.out.size))
    go_ret
    exact ⟨by rw [HPP.out]; rfl, HB2.out⟩
  ·obtain rfl : N = k := by omega
   have HPP := Lib.hid (show r = true by
    rw [← HRR.out]
    have := hall.out
    rwa [List.take_of_length_le (by rw [HN.out]; exact Nat.le_refl _)] at this)
   go_wp2
   go_ret
   exact ⟨by rw [HPP.out]; rfl, hb.out⟩
def condsL (h : RHist) : List (Nat × Bool) := [(33, c1H h.hist), (34, c2H h.hist), (35, c3H h.hist), (36, c4H h.hist), (37, c5H h.hist), (38, c6H h.hist), (39, c7H h.hist), (40, c8H h.hist)]
theorem conds_all (b v u : Value) (fr num : Int) (h : RHist) (w : World) (hR : HistR w b v u h) (hF : HFit w u h) (hfr : fr = h.fr) (hnum : num = h.num) : ∀ p ∈ condsL h, CondIs p.1 p.2 (hiV b v fr num u) w := by
 intro p hp
 unfold condsL at hp
 simp only [List.mem_cons, List.not_mem_nil, or_false] at hp
 rcases hp with rfl | rfl | rfl | rfl | rfl | rfl | rfl | rfl
 ·exact ⟨fun args W => enters_of Tryz.func33 (by kernel_rfl) rfl args W, fun W z => c1_any b v u fr num h W (hR.below z) (hF.below z) hfr hnum⟩
 ·exact ⟨fun args W => enters_of Tryz.func34 (by kernel_rfl) rfl args W, fun W z => c2_any b v u fr num h W (hR.below z) (hF.below z) hfr hnum⟩
 ·exact ⟨fun args W => enters_of Tryz.func35 (by kernel_rfl) rfl args W, fun W z => c3_any b v u fr num h W (hR.below z) (hF.below z) hfr hnum⟩
 ·exact ⟨fun args W => enters_of Tryz.func36 (by kernel_rfl) rfl args W, fun W z => c4_any b v u fr num h W (hR.below z) (hF.below z) hfr hnum⟩
 ·exact ⟨fun args W => enters_of Tryz.func37 (by kernel_rfl) rfl args W, fun W z => c5_any b v u fr num h W (hR.below z) (hF.below z) hfr hnum⟩
 ·exact ⟨fun args W => enters_of Tryz.func38 (by kernel_rfl) rfl args W, fun W z => c6_any b v u fr num h W (hR.below z) (hF.below z) hfr hnum⟩
 ·exact ⟨fun args W => enters_of Tryz.func39 (by kernel_rfl) rfl args W, fun W z => c7_any b v u fr num h W (hR.below z) (hF.below z) hfr hnum⟩
 ·exact ⟨fun args W => enters_of Tryz.func40 (by kernel_rfl) rfl args W, fun W z => c8_any b v u fr num h W (hR.below z) (hF.below z) hfr hnum⟩
end Go.Proofs.YthekkjfaaedamaaGreatDoor

namespace Go.Proofs.YthekkjfaaedamaaGreatDoor
open Go.RowKit

set_option maxRecDepth 100000 in
set_option maxHeartbeats 8000000 in
theorem hmay_any (b v u : Value) (fr num : Int) (h : RHist) (w : World) (hR : HistR w b v u h) (hF : HFit w u h) (hfr : fr = h.fr) (hnum : num = h.num) :
  Calls Tryz.prog 16 #[hiV b v fr num u] w (MayPost (mayH h.hist) w) := by
 have hCA := fun W (z : Below w.heap.size w W) => conds_all b v u fr num h W (hR.below z) (hF.below z) hfr hnum
 have hrow := heap_alloc_new (w.alloc (.cells #[b, v, .int .i64 fr, .int .i64 num, u] 33)) (.cells #[.func (.func 33) #[] #[], .func (.func 34) #[] #[], .func (.func 35) #[] #[], .func (.func 36) #[] #[], .func (.func 37) #[] #[], .func (.func 38) #[] #[], .func (.func 39) #[] #[], .func (.func 40) #[] #[]] 53)
 have hbb : Below w.heap.size w ((w.alloc (.cells #[b, v, .int .i64 fr, .int .i64 num, u] 33)).alloc (.cells #[.func (.func 33) #[] #[], .func (.func 34) #[] #[], .func (.func 35) #[] #[], .func (.func 36) #[] #[], .func (.func 37) #[] #[], .func (.func 38) #[] #[], .func (.func 39) #[] #[], .func (.func 40) #[] #[]] 53)) := ((Below.refl _ w).alloc (Nat.le_refl _) _).alloc (by simp) _
 obtain ⟨⟨d0, d1, d2, d3, d4⟩, -⟩ := row5 (heap_alloc_new w (.cells #[b, v, .int .i64 fr, .int .i64 num, u] 33))
 obtain ⟨bo, bc, hb0, -, -⟩ := hR.base.shape
 obtain ⟨vo, vc, hv0, -⟩ := id hR.vec
 obtain ⟨ao, cap, hu0⟩ := hR.list.shape
 have HH := Lib.hid (holds_any b v u fr num (condsL h) (w.heap.size + 1) 8 _ ⟨_, _, _, _, _, _, _, _, _, hb0, hv0, hu0⟩ (by simp) (fun i p hi => by
  have hl := (List.getElem?_eq_some_iff.1 hi).1
  have h8 : i < 8 := hl
  rw [show (w.alloc (.cells #[b, v, .int .i64 fr, .int .i64 num, u] 33)).heap.size = w.heap.size + 1 from by simp] at hrow
  refine (cell_of_row _ _ i _ _ _ hrow).trans ?_
  rcases (show i = 0 ∨ i = 1 ∨ i = 2 ∨ i = 3 ∨ i = 4 ∨ i = 5 ∨ i = 6 ∨ i = 7 by omega) with rfl | rfl | rfl | rfl | rfl | rfl | rfl | rfl
  all_goals
   obtain rfl := Option.some.inj hi
   rfl) (by unfold condsL; simp) (hCA _ hbb))
 rw [show (condsL h).length = 8 from rfl] at HH
 rw [show ((condsL h).all fun p => p.2) = mayH h.hist from by
  rw [mayH_told]
  unfold condsL
  simp only [List.all_cons, List.all_nil, Bool.and_true]] at HH
 have HB := Lib.hid hbb
 clear hCA hrow hbb hR hF hfr hnum
 subst hb0 hv0 hu0
 unfold hiV at HH ⊢
 obtain ⟨r, hr⟩ : ∃ r, mayH h.hist = r := ⟨_, rfl⟩
 rw [hr] at HH ⊢
 clear hr
 generalize h.base.length = M at *
 generalize h.vec.length = V at *
 generalize h.list.length = N at *
 go_enter Tryz.func16, Tryz.ntmps16
 go_wp2_with fail
 refine HH.out.mono ?_
 rintro e w2 ⟨rfl, hb2⟩
 have HB2 := Lib.hid (HB.out.trans (hb2.mono HB.out.size))
 clear hb2
 go_wp2
 go_ret
 exact ⟨rfl, HB2.out⟩
end Go.Proofs.YthekkjfaaedamaaGreatDoor

namespace Go.Proofs.YthekkjfaaedamaaGreatDoor
open Go.RowKit Go.Shelf
attribute [local go_sem] Oper.semAt_some

theorem docD_ptr {w : World} {p : Value} {l : List PCell} {S : Nat → Prop} (h : DocD w p l S) : ∃ B, p = .pointer (some ⟨B, 0, none⟩) := by obtain ⟨B, M, bv, bs, rfl, _⟩ := h; exact ⟨B, rfl⟩
abbrev encD (x : Nat × Value) : Array Value := #[.int .i64 x.1, x.2]
def KD (n₀ m : Nat) (W W' : World) : Prop := Below n₀ W W' ∧ ∀ b, m + 2 ≤ b → b < W.heap.size → W'.heap[b]? = W.heap[b]?
theorem kd_t {n₀ m : Nat} {A B C : World} (h : KD n₀ m A B) (k : KD n₀ m B C) : KD n₀ m A C := ⟨h.1.trans k.1, fun b h1 h2 => (k.2 b h1 (Nat.lt_of_lt_of_le h2 h.1.size)).trans (h.2 b h1 h2)⟩
theorem kd_b {n₀ m : Nat} (hn : n₀ ≤ m) (W : World) (l : Nat) (o o' : Obj) (h1 : m ≤ l) (h2 : l < m + 2) (h : W.heap[l]? = some o) (_hc : o.isCells = false) (_hw : o.isWalk = false) : KD n₀ m W (W.putObj l o') :=
 ⟨(Below.refl n₀ W).grown (grownBy_putObj' W l o') (by have := (Array.getElem?_eq_some_iff.1 h).1; omega) (fun k e => by cases e; omega), fun b hb _ => World.putObj_heap_other (by omega)⟩
def opsR (l : List REnt) : List POp := l.map fun x => x.op.op
def DocLk (m : Nat) (base : List PCell) (l : List REnt) (pre : List (Nat × Value)) (x : Nat × Value) (W : World) : Prop := pre.length = x.1 ∧ x.1 ≤ l.length ∧ ∃ S, DocD W x.2 (replayC base ((opsR l).take x.1)) S ∧ ∀ b, S b → m + 2 ≤ b
theorem docLk_put {m : Nat} {base : List PCell} {l : List REnt} {pre : List (Nat × Value)} {x : Nat × Value} {W : World} {k : Nat} {o o' : Obj} (h2 : k < m + 2) (_h : W.heap[k]? = some o) (h : DocLk m base l pre x W) : DocLk m base l pre x (W.putObj k o') := by
 obtain ⟨h3, h4, S, h5, h6⟩ := h
 exact ⟨h3, h4, S, h5.keep (fun b hb => World.putObj_heap_other (by have := h6 b hb; omega)), h6⟩
def itemsD (p : Value) (k : Nat) : List (Nat × Value) := (List.range k).map fun i => (i, p)
theorem itemsD_next (p : Value) (k : Nat) : itemsD p (k + 1) = itemsD p k ++ [(k, p)] := by unfold itemsD; rw [List.range_succ, List.map_append]; rfl
theorem itemsD_length (p : Value) (k : Nat) : (itemsD p k).length = k := by unfold itemsD; simp
structure HDocs (w : World) (b v u : Value) (h : RHist) : Prop where
 reads : HistR w b v u h
 fit : HFit w u h
 tab : TabW w
 may : mayH h.hist = true
 nw : ∀ x ∈ h.list, NWf x.op.site x.op.seq x.op.num x.op.kind x.op.pl
 few : ∀ x ∈ h.list, x.op.xs.length ≤ 20000
theorem HDocs.below {w w' : World} {b v u : Value} {h : RHist} (x : HDocs w b v u h) (hb : Below w.heap.size w w') : HDocs w' b v u h := ⟨x.reads.below hb, x.fit.below hb, x.tab.below hb, x.may, x.nw, x.few⟩
theorem opsR_ops (h : RHist) : h.hist.ops = opsR h.list := by unfold PHist.ops RHist.hist opsR; dsimp only; rw [List.map_map]; rfl
set_option maxRecDepth 100000 in
set_option maxHeartbeats 8000000 in
theorem docs1_in (g : Nat) (hg : 1 ≤ g) (l0 Bd m : Nat) (b v u : Value) (fr num : Int) (h : RHist) (w₀ : World) (hD : HDocs w₀ b v u h) (J Jx : List (Nat × Value) → World → Prop) (W : World) (hb0 : Below w₀.heap.size w₀ W) (hm0 : w₀.heap.size ≤ m) (hm : m + 2 ≤ W.heap.size) (hJ : BelT W.heap.size J)
  (hY : ∀ pre x W1, J pre W1 → pre.length < h.list.length + 1 → DocLk m h.base h.list pre x W1 → YieldAt Fence.wide (g - 1) Tryz.prog l0 (encD x) W1 fun e W' => (e = .returned (.bool true) ∧ J (pre ++ [x]) W' ∧ KD w₀.heap.size m W1 W') ∨ (e = .returned (.bool false) ∧ Jx (pre ++ [x]) W'))
  (hBd : W.heap[Bd]? = some (.cells #[b, v, .int .i64 fr, .int .i64 num, u] 33 (0, 0))) (hBd0 : w₀.heap[Bd]? = some (.cells #[b, v, .int .i64 fr, .int .i64 num, u] 33 (0, 0))) (h0 : J [] W) :
  CallsIn Fence.wide g Tryz.prog 41 #[.func (.yield l0) #[] #[], .pointer (some ⟨Bd, 0, none⟩)] W fun e W' => (∃ v, e = .returned v) ∧
   ((∃ ys : List (Nat × Value), ys.map (fun x => x.1) = List.range (h.list.length + 1) ∧ J ys W') ∨ (∃ pre, True ∧ Jx pre W')) := by
 obtain ⟨bo, bc, hb', -, -⟩ := hD.reads.base.shape
 obtain ⟨vo, vc, hv', -⟩ := id hD.reads.vec
 obtain ⟨ao, cap, hu'⟩ := hD.reads.list.shape
 have HD := Lib.hid hD
 obtain ⟨N, hN⟩ : ∃ N, h.list.length = N := ⟨_, rfl⟩
 obtain ⟨M, hM⟩ : ∃ M, h.base.length = M := ⟨_, rfl⟩
 obtain ⟨V, hV⟩ : ∃ V, h.vec.length = V := ⟨_, rfl⟩
 rw [hN] at hu' hY
 rw [hM] at hb'
 rw [hV] at hv'
 rw [hN]
 have HN := Lib.hid hN
 have hmay := hD.may
 have h8 := (may_parts8 hmay).2.2.2.2.2.2.2
 have hc0 : cMay h.base = 0 := of_decide_eq_true h8
 have hfit := hD.fit
 have bN := hfit.list
 rw [hN] at bN
 have HDO := Lib.hid (fun k (x : REnt) (hx : h.list[k]? = some x) => replay_do (h := h.hist) hmay (k := k) (o := x.op.op) (by rw [opsR_ops]; unfold opsR; rw [List.getElem?_map, hx]; rfl))
 have hNW := dD_new_yes b h.base W (hD.reads.base.below hb0) hfit.cell hfit.base hc0
 have HNW := Lib.hid hNW
 subst hb' hv' hu'
 obtain ⟨⟨d0, d1, d2, d3, d4⟩, -⟩ := row5 hBd
 have HJ := Lib.hid hJ
 have HY := Lib.hid hY
 have HBd0 := Lib.hid hBd0
 have HB0 := Lib.hid hb0
 have H0 := Lib.hid h0
 have HBd := Lib.hid hBd
 have HMM := Lib.hid (And.intro hm0 hm)
 clear hmay h8 hc0 hfit hNW hJ hY hb0 h0 hBd hBd0 hN hM hV hD hm0 hm
 refine callsIn_of_wp Tryz.func41 rfl trivial ?_ rfl
 simp only [Tryz.ntmps41, List.size_toArray, List.length_cons, List.length_nil, Nat.reduceAdd, Nat.reduceSub, Array.replicate_succ, Array.replicate_zero, List.push_toArray, List.append_toArray, List.nil_append, List.cons_append]
 gi_wp2_with (refine ⟨trivial, ?_⟩; gi_at_call 42; refine (callsIn_wide.2 HNW.out).mono ?_; rintro e w1 ⟨p, S, rfl, hDoc, hlow, hb1⟩; obtain ⟨PB, hp⟩ := docD_ptr hDoc; subst hp; clear d0 d1 d2 d3 d4; have HX1 := Lib.hid (row_keep hb1 HBd.out); obtain ⟨⟨d0, d1, d2, d3, d4⟩, -⟩ := row5 HX1.out)
 have HW1 := Lib.hid hb1.size
 have HJ1 := Lib.hid (HJ.out _ W w1 H0.out (Nat.le_refl _) hb1)
 have HBW1 := Lib.hid (HB0.out.trans (hb1.mono (by have := HMM.out; omega)))
 have HS1 := Lib.hid (show ∃ S, DocD w1 (.pointer (some ⟨PB, 0, none⟩)) (replayC h.base ((opsR h.list).take 0)) S ∧ ∀ b, S b → W.heap.size ≤ b from ⟨S, hDoc, hlow⟩)
 clear hb1 hDoc hlow S
 clear d0 d1 d2 d3 d4
 gi_loopw [16] (fun i wr => ∃ k : Nat, i = .int .i64 k ∧ k ≤ N ∧ RowKit.Hid (J (itemsD (.pointer (some ⟨PB, 0, none⟩)) k) wr) ∧ RowKit.Hid (∃ S, DocD wr (.pointer (some ⟨PB, 0, none⟩)) (replayC h.base ((opsR h.list).take k)) S ∧ ∀ b, S b → W.heap.size ≤ b) ∧ RowKit.Hid (Below w₀.heap.size w₀ wr) ∧ RowKit.Hid (W.heap.size ≤ wr.heap.size)) (fun i _ => N - (intOf i).toNat)
 case atStart => exact ⟨0, rfl, Nat.zero_le _, HJ1, HS1, HBW1, HW1⟩
 clear HX1 HJ1 HS1 HBW1 HW1
 case round =>
  obtain ⟨k, rfl, hk, hJs, hDs, hbw, hws⟩ := hrel
  rcases Nat.lt_or_ge k N with hlt | hge
  ·obtain ⟨x, hx⟩ := getN_some (l := h.list) (k := k) (by rw [HN.out]; exact hlt)
   have hA := HD.out.reads.list.below hbw.out
   obtain ⟨bb, off', cp, hv, ⟨c0, c1, c2, c3, c4, c5, c6⟩, c7, c8, c9, c10, c11, c12, c13⟩ := hA.at hx
   rw [HN.out] at hv
   cases hv
   have hi0 : (0 : Int) ≤ (k : Int) ∧ (k : Int) < (N : Int) := ⟨by omega, by omega⟩
   have HC := Lib.hid hx
   obtain ⟨sa, sc, hsp, -⟩ := hA.mem hx
   have HSP := Lib.hid (HD.out.reads.list.mem hx)
   have HFX := Lib.hid (And.intro (HD.out.fit.op x (List.mem_of_getElem? hx)) (And.intro (HD.out.nw x (List.mem_of_getElem? hx)) (HD.out.few x (List.mem_of_getElem? hx))))
   have HDX := Lib.hid (HDO.out k x hx)
   obtain ⟨⟨s, q, n, kd, pl, tx, sp, xs⟩, es, eq, ec, ek, ea, el, et⟩ := x
   dsimp only at c0 c1 c2 c3 c4 c5 c6 c7 c8 c9 c10 c11 c12 c13 hsp
   subst hsp
   clear hx hA
   have hba : Below wr.heap.size wr (wr.alloc (.cells #[.int .i64 s, .int .i64 q, .int .i64 n, .int .i64 kd, .int .i64 pl, .string tx, .slice sa xs.length sc, .int .i64 es, .int .i64 eq, .int .i64 ec, .int .i64 ek, .int .i64 ea, .int .i64 el, .string et] 49)) := (Below.refl _ wr).alloc (Nat.le_refl _) _
   obtain ⟨S, hDd, hlow⟩ := hDs.out
   have hDa : DocD (wr.alloc (.cells #[.int .i64 s, .int .i64 q, .int .i64 n, .int .i64 kd, .int .i64 pl, .string tx, .slice sa xs.length sc, .int .i64 es, .int .i64 eq, .int .i64 ec, .int .i64 ek, .int .i64 ea, .int .i64 el, .string et] 49)) (.pointer (some ⟨PB, 0, none⟩)) (replayC h.base ((opsR h.list).take k)) S := hDd.keep fun b hb => hba.block b (hDd.low b hb)
   have hws' := hws.out
   have hJa := HJ.out _ wr (wr.alloc (.cells #[.int .i64 s, .int .i64 q, .int .i64 n, .int .i64 kd, .int .i64 pl, .string tx, .slice sa xs.length sc, .int .i64 es, .int .i64 eq, .int .i64 ec, .int .i64 ek, .int .i64 ea, .int .i64 el, .string et] 49)) hJs.out hws' (hba.mono hws')
   obtain ⟨fn, tmps, assign, body, hy, hRnd⟩ := HY.out (itemsD (.pointer (some ⟨PB, 0, none⟩)) k) (k, .pointer (some ⟨PB, 0, none⟩)) (wr.alloc (.cells #[.int .i64 s, .int .i64 q, .int .i64 n, .int .i64 kd, .int .i64 pl, .string tx, .slice sa xs.length sc, .int .i64 es, .int .i64 eq, .int .i64 ec, .int .i64 ek, .int .i64 ea, .int .i64 el, .string et] 49)) hJa (by rw [itemsD_length]; omega) ⟨itemsD_length _ _, by rw [HN.out]; exact hk, S, hDa, fun b hb => by have := hlow b hb; have := HMM.out; omega⟩
   have HDA := Lib.hid (And.intro hDa (And.intro hlow hws'))
   have HRND := Lib.hid hRnd
   have HBA := Lib.hid (hbw.out.alloc hbw.out.size (.cells #[.int .i64 s, .int .i64 q, .int .i64 n, .int .i64 kd, .int .i64 pl, .string tx, .slice sa xs.length sc, .int .i64 es, .int .i64 eq, .int .i64 ec, .int .i64 ek, .int .i64 ea, .int .i64 el, .string et] 49))
   have HE := Lib.hid (heap_alloc_new wr (.cells #[.int .i64 s, .int .i64 q, .int .i64 n, .int .i64 kd, .int .i64 pl, .string tx, .slice sa xs.length sc, .int .i64 es, .int .i64 eq, .int .i64 ec, .int .i64 ek, .int .i64 ea, .int .i64 el, .string et] 49))
   clear hba hDd hlow hDa hws' hJa hRnd hDs hJs hws
   dsimp only [encD] at hy
   gi_wp2
   try (rw [hy]; gi_wp2)
   refine HRND.out.mono ?_
   clear hy HRND c0 c1 c2 c3 c4 c5 c6 c7 c8 c9 c10 c11 c12 c13
   rintro e W3 (⟨rfl, hJ3, hk3⟩ | ⟨rfl, hJx3⟩)
   ·have hsz : (wr.alloc (.cells #[.int .i64 s, .int .i64 q, .int .i64 n, .int .i64 kd, .int .i64 pl, .string tx, .slice sa xs.length sc, .int .i64 es, .int .i64 eq, .int .i64 ec, .int .i64 ek, .int .i64 ea, .int .i64 el, .string et] 49)).heap.size = wr.heap.size + 1 := by simp
    have hE3 : W3.heap[wr.heap.size]? = some (.cells #[.int .i64 s, .int .i64 q, .int .i64 n, .int .i64 kd, .int .i64 pl, .string tx, .slice sa xs.length sc, .int .i64 es, .int .i64 eq, .int .i64 ec, .int .i64 ek, .int .i64 ea, .int .i64 el, .string et] 49 (0, 0)) := (hk3.2 _ (by have := HMM.out; have := HDA.out.2.2; omega) (by omega)).trans HE.out
    have hD3 : DocD W3 (.pointer (some ⟨PB, 0, none⟩)) (replayC h.base ((opsR h.list).take k)) S := HDA.out.1.keep fun b hb => hk3.2 b (by have := HMM.out; have := HDA.out.2.1 b hb; omega) (HDA.out.1.low b hb)
    have hb3 := HBA.out.trans hk3.1
    have hsz3 : W.heap.size ≤ W3.heap.size := Nat.le_trans HDA.out.2.2 (Nat.le_trans (by omega) hk3.1.size)
    have hDo := dD_do s q n kd pl tx (.slice sa xs.length sc) xs _ _ S W3 hD3 (HD.out.tab.below hb3) (HSP.out.below hb3) HFX.out.2.1 HFX.out.1.txt HFX.out.2.2 HFX.out.1.sp
    have hdx := HDX.out
    rw [opsR_ops] at hdx
    replace hdx : cDo (replayC h.base ((opsR h.list).take k)) ⟨s, q, n, kd, pl, tx.data.toList, xs⟩ = (replayC h.base ((opsR h.list).take (k + 1)), 0) := hdx
    rw [hdx] at hDo
    dsimp only at hDo
    have HDO3 := Lib.hid hDo
    have HJ3 := Lib.hid hJ3
    have H3 := Lib.hid (And.intro hb3 hsz3)
    obtain ⟨⟨n0, n1, n2, n3, n4, n5, n6⟩, -⟩ := row14 hE3
    unfold opV at HDO3
    clear hE3 hD3 hb3 hsz3 hDo hdx hJ3 hk3
    gi_wp2_with (refine ⟨trivial, ?_⟩; gi_at_call 43; refine (callsIn_wide.2 HDO3.out).mono ?_; rintro e w4 ⟨S', ⟨hD4, hS4, hK4⟩, rfl⟩)
    have hb4 := hK4.below (M := W.heap.size) H3.out.2 HDA.out.2.1
    go_roundw
    case rel =>
     refine ⟨k + 1, by go_num, by omega, Lib.hid ?_, Lib.hid ⟨S', hD4, fun b hb => ?_⟩, Lib.hid (H3.out.1.trans (hb4.mono (by have := HMM.out; omega))), Lib.hid (Nat.le_trans H3.out.2 hb4.size)⟩
     ·rw [itemsD_next]
      exact HJ.out _ W3 w4 HJ3.out H3.out.2 hb4
     ·rcases hS4 b hb with g | g
      ·exact HDA.out.2.1 b g
      ·exact Nat.le_trans H3.out.2 g
    case measure => simp [intOf]; omega
   ·gi_wp2
    refine bodyPost_ret (results_none rfl _ _ _) rfl ?_
    exact ⟨⟨_, rfl⟩, .inr ⟨_, trivial, hJx3⟩⟩
  ·obtain rfl : N = k := by omega
   have hbx := (hbw.out.block Bd (Array.getElem?_eq_some_iff.1 HBd0.out).1).trans HBd0.out
   obtain ⟨⟨d0, d1, d2, d3, d4⟩, -⟩ := row5 hbx
   obtain ⟨S, hDd, hlow⟩ := hDs.out
   obtain ⟨fn, tmps, assign, body, hy, hRnd⟩ := HY.out (itemsD (.pointer (some ⟨PB, 0, none⟩)) N) (N, .pointer (some ⟨PB, 0, none⟩)) wr hJs.out (by rw [itemsD_length]; omega) ⟨itemsD_length _ _, by rw [HN.out]; exact Nat.le_refl _, S, hDd, fun b hb => by have := hlow b hb; have := HMM.out; omega⟩
   have HRND := Lib.hid hRnd
   have HIT := Lib.hid (show (itemsD (.pointer (some ⟨PB, 0, none⟩)) (N + 1)).map (fun x => x.1) = List.range (N + 1) by unfold itemsD; rw [List.map_map]; exact List.map_id _)
   clear hbx hDd hlow hRnd hDs hJs hws
   dsimp only [encD] at hy
   gi_wp2
   try (rw [hy]; gi_wp2)
   refine HRND.out.mono ?_
   rintro e W3 (⟨rfl, hJ3, hk3⟩ | ⟨rfl, hJx3⟩)
   ·gi_wp2
    go_end0
    exact ⟨⟨_, rfl⟩, .inl ⟨_, HIT.out, by rw [itemsD_next]; exact hJ3⟩⟩
   ·gi_wp2
    go_end0
    exact ⟨⟨_, rfl⟩, .inr ⟨_, trivial, hJx3⟩⟩
end Go.Proofs.YthekkjfaaedamaaGreatDoor

namespace Go.Proofs.YthekkjfaaedamaaGreatDoor
open Go.RowKit Go.Shelf
attribute [local go_sem] Oper.semAt_some

set_option maxRecDepth 100000 in
set_option maxHeartbeats 1000000 in
theorem documents_any (b v u : Value) (fr num : Int) (h : RHist) (w : World) (hR : HistR w b v u h) :
  Calls Tryz.prog 17 #[hiV b v fr num u] w fun e w' => e = .returned (.func (.func 41) #[] #[.pointer (some ⟨w.heap.size, 0, none⟩)]) ∧ w' = w.alloc (.cells #[b, v, .int .i64 fr, .int .i64 num, u] 33) := by
 obtain ⟨bo, bc, rfl, -, -⟩ := hR.base.shape
 obtain ⟨vo, vc, rfl, -⟩ := id hR.vec
 obtain ⟨ao, cap, rfl⟩ := hR.list.shape
 unfold hiV
 go_enter Tryz.func17, Tryz.ntmps17
 go_wp2
 go_ret
 exact ⟨rfl, rfl⟩
theorem docs_stops (g : Nat) (hg : 1 ≤ g) (Bd : Nat) (b v u : Value) (fr num : Int) (h : RHist) (w : World) (hD : HDocs w b v u h) (hBd : w.heap[Bd]? = some (.cells #[b, v, .int .i64 fr, .int .i64 num, u] 33 (0, 0))) :
  SeqStopsW Fence.wide g Tryz.prog 41 #[.pointer (some ⟨Bd, 0, none⟩)] encD (KD w.heap.size w.heap.size) (fun ys => ys.map (fun x => x.1) = List.range (h.list.length + 1)) (fun _ => True) (h.list.length + 1) (DocLk w.heap.size h.base h.list) w := fun l J Jx W hW hW2 hJ hY h0 =>
 docs1_in g hg l Bd w.heap.size b v u fr num h w hD J Jx W hW (Nat.le_refl _) hW2 hJ hY ((hW.block Bd (Array.getElem?_eq_some_iff.1 hBd).1).trans hBd) hBd h0
theorem replay_results (W : World) (tm : Array Value) (P E : Nat) (a : Option Addr) (c : Int) (h4 : tm.getD 4 undef = .pointer (some ⟨P, 0, none⟩)) (h5 : tm.getD 5 undef = .pointer (some ⟨E, 0, none⟩)) (e0 : W.cell? ⟨P, 0, none⟩ = some (.pointer a)) (e1 : W.cell? ⟨E, 0, none⟩ = some (.int .i64 c)) :
  (results Tryz.f6 tm).run Tryz.prog W = .ok (.tuple #[.pointer a, .int .i64 c]) W := by
 have h4' : tm[4]?.getD undef = .pointer (some ⟨P, 0, none⟩) := by simpa using h4
 have h5' : tm[5]?.getD undef = .pointer (some ⟨E, 0, none⟩) := by simpa using h5
 simp [results, Tryz.f6, go_sem, h4', h5', e0, e1]
def ReplayPost (h : RHist) (k : Int) (w : World) (e : Ending) (w' : World) : Prop :=
 if mayH h.hist = true ∧ 0 ≤ k ∧ k ≤ h.list.length then ∃ p S, e = .returned (.tuple #[p, .int .i64 0]) ∧ DocD w' p (replayC h.base ((opsR h.list).take k.toNat)) S ∧ (∀ b, S b → w.heap.size ≤ b) ∧ Below w.heap.size w w'
 else e = .returned (.tuple #[.pointer none, .int .i64 (if mayH h.hist = true then 3 else 1)]) ∧ Below w.heap.size w w'
structure ReplayFit (w : World) (u : Value) (h : RHist) : Prop where
 fit : HFit w u h
 tab : TabW w
 nw : ∀ x ∈ h.list, NWf x.op.site x.op.seq x.op.num x.op.kind x.op.pl
 few : ∀ x ∈ h.list, x.op.xs.length ≤ 20000
set_option maxRecDepth 100000 in
set_option maxHeartbeats 8000000 in
theorem replay_no (b v u : Value) (fr num k : Int) (h : RHist) (w : World) (hR : HistR w b v u h) (hF : HFit w u h) (hfr : fr = h.fr) (hnum : num = h.num) (hm : mayH h.hist = false) :
  Calls Tryz.prog 6 #[hiV b v fr num u, .int .i64 k] w fun e w' => e = .returned (.tuple #[.pointer none, .int .i64 1]) ∧ Below w.heap.size w w' := by
 have hM := fun W (z : Below w.heap.size w W) => hmay_any b v u fr num h W (hR.below z) (hF.below z) hfr hnum
 simp only [hm] at hM
 obtain ⟨bo, bc, hb0, -, -⟩ := hR.base.shape
 obtain ⟨vo, vc, hv0, -⟩ := id hR.vec
 obtain ⟨ao, cap, hu0⟩ := hR.list.shape
 generalize h.base.length = M at *
 generalize h.vec.length = V at *
 generalize h.list.length = N at *
 subst hb0 hv0 hu0
 have HM := Lib.hid hM
 have B0 := row_al (row_al (heap_new1 w (.cells #[.slice bo M bc, .slice vo V vc, .int .i64 fr, .int .i64 num, .slice ao N cap] 33) (.cells #[.int .i64 k] 3)) (.cells #[.pointer none] 29)) (.cells #[.int .i64 0] 30)
 clear B0
 have C0 := row_al (row_al (row_al (heap_new w (.cells #[.slice bo M bc, .slice vo V vc, .int .i64 fr, .int .i64 num, .slice ao N cap] 33)) (.cells #[.int .i64 k] 3)) (.cells #[.pointer none] 29)) (.cells #[.int .i64 0] 30)
 have C2 := row_al (heap_new2 w (.cells #[.slice bo M bc, .slice vo V vc, .int .i64 fr, .int .i64 num, .slice ao N cap] 33) (.cells #[.int .i64 k] 3) (.cells #[.pointer none] 29)) (.cells #[.int .i64 0] 30)
 have C3 : ((((w.alloc (.cells #[.slice bo M bc, .slice vo V vc, .int .i64 fr, .int .i64 num, .slice ao N cap] 33)).alloc (.cells #[.int .i64 k] 3)).alloc (.cells #[.pointer none] 29)).alloc (.cells #[.int .i64 0] 30)).heap[w.heap.size + 3]? = some (.cells #[.int .i64 0] 30) := by have h := heap_new (((w.alloc (.cells #[.slice bo M bc, .slice vo V vc, .int .i64 fr, .int .i64 num, .slice ao N cap] 33)).alloc (.cells #[.int .i64 k] 3)).alloc (.cells #[.pointer none] 29)) (.cells #[.int .i64 0] 30); simpa using h
 have AB : Below w.heap.size w ((((w.alloc (.cells #[.slice bo M bc, .slice vo V vc, .int .i64 fr, .int .i64 num, .slice ao N cap] 33)).alloc (.cells #[.int .i64 k] 3)).alloc (.cells #[.pointer none] 29)).alloc (.cells #[.int .i64 0] 30)) := (((((Below.refl _ w).alloc (Nat.le_refl _) (.cells #[.slice bo M bc, .slice vo V vc, .int .i64 fr, .int .i64 num, .slice ao N cap] 33)).alloc (by simp) (.cells #[.int .i64 k] 3)).alloc (by simp; omega) (.cells #[.pointer none] 29)).alloc (by simp; omega) (.cells #[.int .i64 0] 30))
 have HC := Lib.hid (And.intro C0 (And.intro C2 (And.intro C3 AB)))
 obtain ⟨⟨d0, d1, d2, d3, d4⟩, -⟩ := row5 C0
 clear C0 C2 C3 AB hM hm hR hF hfr hnum
 unfold hiV at HM ⊢
 refine (callsIn_wide (n := 7)).1 ?_
 refine callsIn_of_wp_marks Tryz.func6 rfl trivial ?_ rfl
 simp only [Tryz.ntmps6, List.size_toArray, List.length_cons, List.length_nil, Nat.reduceAdd, Nat.reduceSub, Array.replicate_succ, Array.replicate_zero, List.push_toArray, List.append_toArray, List.nil_append, List.cons_append]
 gi_wp2_with (refine ⟨trivial, ?_⟩; gi_at_call 16; refine (callsIn_wide.2 (HM.out _ HC.out.2.2.2)).mono ?_; rintro e w1 ⟨rfl, hb1⟩; have s0 := row_up HC.out.2.1 hb1; have s1 := row_up HC.out.2.2.1 hb1; have z0 := box_cell s0 0; have z1 := box_cell s1 0; have f0 := box_frozen s0 0; have f1 := box_frozen s1 0)
 obtain ⟨C0, C2, C3, AB⟩ := HC.out
 have s0 := row_up C2 hb1
 have s1 := row_up C3 hb1
 have r0 := (box_other (k := w.heap.size + 1 + 1) (B := w.heap.size + 3) (by omega) 0 (.int .i64 1)).trans (box_set s0 0 (.pointer none))
 have r1 := box_set ((box_other (k := w.heap.size + 3) (B := w.heap.size + 1 + 1) (by omega) 0 (.pointer none)).trans s1) 0 (.int .i64 1)
 have rB := ((AB.trans (hb1.mono AB.size)).setCell (p := ⟨w.heap.size + 1 + 1, 0, none⟩) (by show w.heap.size ≤ w.heap.size + 1 + 1; omega) (.pointer none)).setCell (p := ⟨w.heap.size + 3, 0, none⟩) (by show w.heap.size ≤ w.heap.size + 3; omega) (.int .i64 1)
 exact ⟨_, replay_results _ _ (w.heap.size + 1 + 1) (w.heap.size + 3) none 1 rfl rfl (box_cell r0 0) (box_cell r1 0), rfl, rB⟩
end Go.Proofs.YthekkjfaaedamaaGreatDoor

namespace Go.Proofs.YthekkjfaaedamaaGreatDoor
open Go.RowKit Go.Shelf
attribute [local go_sem] Oper.semAt_some

set_option maxRecDepth 100000 in
set_option maxHeartbeats 16000000 in
theorem replay_yes (b v u : Value) (fr num k : Int) (h : RHist) (w : World) (hR : HistR w b v u h) (hF : ReplayFit w u h) (hfr : fr = h.fr) (hnum : num = h.num) (hm : mayH h.hist = true) :
  Calls Tryz.prog 6 #[hiV b v fr num u, .int .i64 k] w (ReplayPost h k w) := by
 have hM := fun W (z : Below w.heap.size w W) => hmay_any b v u fr num h W (hR.below z) (hF.fit.below z) hfr hnum
 simp only [hm] at hM
 have HD := Lib.hid (fun W (z : Below w.heap.size w W) => (⟨hR.below z, hF.fit.below z, hF.tab.below z, hm, hF.nw, hF.few⟩ : HDocs W b v u h))
 have HDC := Lib.hid (fun W (z : Below w.heap.size w W) => documents_any b v u fr num h W (hR.below z))
 have HP1 := Lib.hid (fun (p : Value) (S : Nat → Prop) (i : Nat) (w' : World) (e1 : (i : Int) = k) (e2 : i ≤ h.list.length) (g1 : DocD w' p (replayC h.base ((opsR h.list).take i)) S) (g2 : ∀ b, S b → w.heap.size ≤ b) (g3 : Below w.heap.size w w') => (show ReplayPost h k w (.returned (.tuple #[p, .int .i64 0])) w' from by
  unfold ReplayPost
  rw [if_pos ⟨hm, by omega, by omega⟩]
  refine ⟨p, S, rfl, ?_, g2, g3⟩
  rw [← e1, Int.toNat_natCast]
  exact g1))
 have HP2 := Lib.hid (fun (w' : World) (e1 : ∀ i : Nat, i < h.list.length + 1 → ¬ (i : Int) = k) (g3 : Below w.heap.size w w') => (show ReplayPost h k w (.returned (.tuple #[.pointer none, .int .i64 3])) w' from by
  unfold ReplayPost
  rw [if_neg (by rintro ⟨-, q1, q2⟩; exact e1 k.toNat (by omega) (by omega)), if_pos hm]
  exact ⟨rfl, g3⟩))
 obtain ⟨bo, bc, hb0, -, -⟩ := hR.base.shape
 obtain ⟨vo, vc, hv0, -⟩ := id hR.vec
 obtain ⟨ao, cap, hu0⟩ := hR.list.shape
 obtain ⟨M, hMM⟩ : ∃ M, h.base.length = M := ⟨_, rfl⟩
 obtain ⟨V, hVV⟩ : ∃ V, h.vec.length = V := ⟨_, rfl⟩
 obtain ⟨N, hNN⟩ : ∃ N, h.list.length = N := ⟨_, rfl⟩
 rw [hMM] at hb0
 rw [hVV] at hv0
 rw [hNN] at hu0 HP1 HP2
 have HNN := Lib.hid hNN
 clear hMM hVV hNN
 subst hb0 hv0 hu0
 have HM := Lib.hid hM
 have C0 := row_al (row_al (row_al (heap_new w (.cells #[.slice bo M bc, .slice vo V vc, .int .i64 fr, .int .i64 num, .slice ao N cap] 33)) (.cells #[.int .i64 k] 3)) (.cells #[.pointer none] 29)) (.cells #[.int .i64 0] 30)
 have C1 := row_al (row_al (heap_new1 w (.cells #[.slice bo M bc, .slice vo V vc, .int .i64 fr, .int .i64 num, .slice ao N cap] 33) (.cells #[.int .i64 k] 3)) (.cells #[.pointer none] 29)) (.cells #[.int .i64 0] 30)
 have C2 := row_al (heap_new2 w (.cells #[.slice bo M bc, .slice vo V vc, .int .i64 fr, .int .i64 num, .slice ao N cap] 33) (.cells #[.int .i64 k] 3) (.cells #[.pointer none] 29)) (.cells #[.int .i64 0] 30)
 have C3 : ((((w.alloc (.cells #[.slice bo M bc, .slice vo V vc, .int .i64 fr, .int .i64 num, .slice ao N cap] 33)).alloc (.cells #[.int .i64 k] 3)).alloc (.cells #[.pointer none] 29)).alloc (.cells #[.int .i64 0] 30)).heap[w.heap.size + 3]? = some (.cells #[.int .i64 0] 30) := by have h := heap_new (((w.alloc (.cells #[.slice bo M bc, .slice vo V vc, .int .i64 fr, .int .i64 num, .slice ao N cap] 33)).alloc (.cells #[.int .i64 k] 3)).alloc (.cells #[.pointer none] 29)) (.cells #[.int .i64 0] 30); simpa using h
 have AS : ((((w.alloc (.cells #[.slice bo M bc, .slice vo V vc, .int .i64 fr, .int .i64 num, .slice ao N cap] 33)).alloc (.cells #[.int .i64 k] 3)).alloc (.cells #[.pointer none] 29)).alloc (.cells #[.int .i64 0] 30)).heap.size = w.heap.size + 4 := by simp
 have AB : Below w.heap.size w ((((w.alloc (.cells #[.slice bo M bc, .slice vo V vc, .int .i64 fr, .int .i64 num, .slice ao N cap] 33)).alloc (.cells #[.int .i64 k] 3)).alloc (.cells #[.pointer none] 29)).alloc (.cells #[.int .i64 0] 30)) := (((((Below.refl _ w).alloc (Nat.le_refl _) (.cells #[.slice bo M bc, .slice vo V vc, .int .i64 fr, .int .i64 num, .slice ao N cap] 33)).alloc (by simp) (.cells #[.int .i64 k] 3)).alloc (by simp; omega) (.cells #[.pointer none] 29)).alloc (by simp; omega) (.cells #[.int .i64 0] 30))
 have HC := Lib.hid (And.intro C0 (And.intro C1 (And.intro C2 (And.intro C3 (And.intro AB AS)))))
 obtain ⟨⟨d0, d1, d2, d3, d4⟩, -⟩ := row5 C0
 clear C0 C1 C2 C3 AB AS hM hm hR hF hfr hnum
 unfold hiV at HM HDC ⊢
 refine (callsIn_wide (n := 7)).1 ?_
 refine callsIn_of_wp_marks Tryz.func6 rfl trivial ?_ rfl
 simp only [Tryz.ntmps6, List.size_toArray, List.length_cons, List.length_nil, Nat.reduceAdd, Nat.reduceSub, Array.replicate_succ, Array.replicate_zero, List.push_toArray, List.append_toArray, List.nil_append, List.cons_append]
 gi_wp2_with (refine ⟨trivial, ?_⟩; first
  | (gi_at_call 16; refine (callsIn_wide.2 (HM.out _ HC.out.2.2.2.2.1)).mono ?_; rintro e w1 ⟨rfl, hb1⟩; have HB1 := Lib.hid hb1; clear d0 d1 d2 d3 d4; obtain ⟨⟨d0, d1, d2, d3, d4⟩, -⟩ := row5 (row_up HC.out.1 hb1))
  | (gi_at_call 17; refine (callsIn_wide.2 (HDC.out _ (HC.out.2.2.2.2.1.trans (HB1.out.mono HC.out.2.2.2.2.1.size)))).mono ?_; rintro e _ ⟨rfl, rfl⟩))
 clear d0 d1 d2 d3 d4
 obtain ⟨C0, C1, C2, C3, AB, AS⟩ := HC.out
 have hb1 := HB1.out
 have hz1 := hb1.size
 rw [AS] at hz1
 have A1 := row_al (row_up C1 hb1) (.cells #[.slice bo M bc, .slice vo V vc, .int .i64 fr, .int .i64 num, .slice ao N cap] 33)
 have A2 := row_al (row_up C2 hb1) (.cells #[.slice bo M bc, .slice vo V vc, .int .i64 fr, .int .i64 num, .slice ao N cap] 33)
 have A3 := row_al (row_up C3 hb1) (.cells #[.slice bo M bc, .slice vo V vc, .int .i64 fr, .int .i64 num, .slice ao N cap] 33)
 have AD := heap_new w1 (.cells #[.slice bo M bc, .slice vo V vc, .int .i64 fr, .int .i64 num, .slice ao N cap] 33)
 have AB1 : Below w.heap.size w (w1.alloc (.cells #[.slice bo M bc, .slice vo V vc, .int .i64 fr, .int .i64 num, .slice ao N cap] 33)) := (AB.trans (hb1.mono AB.size)).alloc (by omega) _
 have AS1 : (w1.alloc (.cells #[.slice bo M bc, .slice vo V vc, .int .i64 fr, .int .i64 num, .slice ao N cap] 33)).heap.size = w1.heap.size + 1 := by simp
 clear C0 C1 C2 C3 AB AS hb1
 obtain ⟨w6, hw6⟩ : ∃ w6, w1.alloc (.cells #[.slice bo M bc, .slice vo V vc, .int .i64 fr, .int .i64 num, .slice ao N cap] 33) = w6 := ⟨_, rfl⟩
 rw [hw6] at A1 A2 A3 AD AB1 AS1 ⊢
 have hst := docs_stops 6 (by decide) w1.heap.size _ _ _ fr num h w6 (HD.out w6 AB1) AD
 rw [HNN.out] at hst
 clear hw6
 refine wpIn_rangeFunc_ownW rfl (by decide) (gf := 41) (lb := #[.pointer (some ⟨w1.heap.size, 0, none⟩)]) rfl trivial (enters_of Tryz.func41 (by kernel_rfl) rfl)
  hst (fun h k => kd_t h k) (fun X l o o' h1 h2 h3 h4 h5 => kd_b (Nat.le_refl _) X l o o' h1 h2 h3 h4 h5) (fun pre x X l o o' h1 h2 h3 h4 h5 => docLk_put h2 h3 h5) (fun _ => rfl)
  (fun pre X => ((∀ x ∈ pre, ¬ ((x : Nat × Value).1 : Int) = k) ∧ X.heap[w.heap.size + 1]? = some (.cells #[.int .i64 k] 3 (0, 0)) ∧ X.heap[w.heap.size + 2]? = some (.cells #[.pointer none] 29 (0, 0)) ∧ X.heap[w.heap.size + 3]? = some (.cells #[.int .i64 0] 30 (0, 0))) ∧ Below w.heap.size w X)
  (fun c pre X => (c = .ret ∧ ∃ (x : Nat × Value) (S : Nat → Prop), (x.1 : Int) = k ∧ x.1 ≤ N ∧ X.heap[w.heap.size + 2]? = some (.cells #[x.2] 29 (0, 0)) ∧ X.heap[w.heap.size + 3]? = some (.cells #[.int .i64 0] 30 (0, 0)) ∧ DocD X x.2 (replayC h.base ((opsR h.list).take x.1)) S ∧ ∀ b, S b → w6.heap.size + 2 ≤ b) ∧ Below w.heap.size w X)
  (fun s X o hs hw => ⟨⟨hs.1.1, row_al hs.1.2.1 o, row_al hs.1.2.2.1 o, row_al hs.1.2.2.2 o⟩, hs.2.alloc hs.2.size o⟩)
  (fun s X l o o' h1 h2 h3 h4 hs => ⟨⟨hs.1.1, (World.putObj_heap_other (by omega)).trans hs.1.2.1, (World.putObj_heap_other (by omega)).trans hs.1.2.2.1, (World.putObj_heap_other (by omega)).trans hs.1.2.2.2⟩, hs.2.trans ((Below.refl _ X).grown (grownBy_putObj' X l o') (by have := (Array.getElem?_eq_some_iff.1 h3).1; omega) (fun k e => by cases e; omega))⟩)
  (fun c s X l o o' h1 h2 h3 h4 hs => ⟨⟨hs.1.1, by obtain ⟨x, S, q1, q2, q3, q4, q5, q6⟩ := hs.1.2; exact ⟨x, S, q1, q2, (World.putObj_heap_other (by omega)).trans q3, (World.putObj_heap_other (by omega)).trans q4, q5.keep (fun b hb => World.putObj_heap_other (by have := q6 b hb; omega)), q6⟩⟩, hs.2.trans ((Below.refl _ X).grown (grownBy_putObj' X l o') (by have := (Array.getElem?_eq_some_iff.1 h3).1; omega) (fun k e => by cases e; omega))⟩)
  (fun D hD s X X' hs hsz hb => ⟨⟨hs.1.1, (hb.block _ (by omega)).trans hs.1.2.1, (hb.block _ (by omega)).trans hs.1.2.2.1, (hb.block _ (by omega)).trans hs.1.2.2.2⟩, hs.2.trans (hb.mono (by omega))⟩)
  ⟨⟨by simp, A1, A2, A3⟩, AB1⟩
  (fun x => { tmps := #[.agg #[.slice bo M bc, .slice vo V vc, .int .i64 fr, .int .i64 num, .slice ao N cap], .int .i64 k, .pointer (some ⟨w.heap.size, 0, none⟩), .pointer (some ⟨w.heap.size + 1, 0, none⟩), .pointer (some ⟨w.heap.size + 2, 0, none⟩), .pointer (some ⟨w.heap.size + 3, 0, none⟩), .int .i64 x.1, x.2, .agg #[.slice bo M bc, .slice vo V vc, .int .i64 fr, .int .i64 num, .slice ao N cap], .bool true, .bool false, .agg #[.slice bo M bc, .slice vo V vc, .int .i64 fr, .int .i64 num, .slice ao N cap], .func (.func 41) #[] #[.pointer (some ⟨w1.heap.size, 0, none⟩)], .int .i64 x.1, x.2, undef, undef, undef, undef], defers := [] }) ?assign ?body ?done ?stop
 case assign =>
  intro l x W K hK
  gi_wp2
  exact hK
 case body =>
  rintro l pre x X ⟨⟨hne, c1, c2, c3⟩, hB⟩ hlen hlk
  have z1 := box_cell c1 0
  have z2 := box_cell c2 0
  have z3 := box_cell c3 0
  have f2 := box_frozen c2 0
  have f3 := box_frozen c3 0
  have HCC := Lib.hid (And.intro hne (And.intro c1 (And.intro c2 (And.intro c3 hB))))
  obtain ⟨i, p⟩ := x
  obtain ⟨q1, q2, S, q3, q4⟩ := hlk
  dsimp only at q1 q2 q3 ⊢
  obtain ⟨PB, rfl⟩ := docD_ptr q3
  have HL := Lib.hid (And.intro q2 (And.intro q3 q4))
  clear q1 q2 q3 q4 hne c1 c2 c3 hB
  by_cases hx : (i : Int) = k
  ·have hx' : ((i : Int) == k) = true := beq_iff_eq.2 hx
   have HXX := Lib.hid hx
   clear hx
   gi_wp2
   obtain ⟨hne, c1, c2, c3, hB⟩ := HCC.out
   have r0 := (box_other (k := w.heap.size + 2) (B := w.heap.size + 3) (by omega) 0 (.int .i64 0)).trans (box_set c2 0 (.pointer (some ⟨PB, 0, none⟩)))
   have r1 := box_set ((box_other (k := w.heap.size + 3) (B := w.heap.size + 2) (by omega) 0 (.pointer (some ⟨PB, 0, none⟩))).trans c3) 0 (.int .i64 0)
   refine ⟨(KeepsOthers.setCell _ _ _).trans (KeepsOthers.setCell _ _ _), ⟨rfl, (i, .pointer (some ⟨PB, 0, none⟩)), S, HXX.out, by have := HL.out.1; rw [HNN.out] at this; exact this, r0, r1, HL.out.2.1.keep (fun b hb => ?_), HL.out.2.2⟩, (hB.setCell (p := ⟨w.heap.size + 2, 0, none⟩) (by show w.heap.size ≤ w.heap.size + 2; omega) _).setCell (p := ⟨w.heap.size + 3, 0, none⟩) (by show w.heap.size ≤ w.heap.size + 3; omega) _⟩
   have := HL.out.2.2 b hb
   exact (box_other (by omega) 0 _).trans (box_other (by omega) 0 _)
  ·have hx' : ((i : Int) == k) = false := beq_eq_false_iff_ne.2 hx
   have HXX := Lib.hid hx
   clear hx
   gi_wp2
   obtain ⟨hne, c1, c2, c3, hB⟩ := HCC.out
   exact ⟨KeepsOthers.refl _, ⟨Below.refl _ _, fun _ _ _ => rfl⟩, ⟨fun y hy => (List.mem_append.1 hy).elim (hne y) (fun e => by simp at e; subst e; exact HXX.out), c1, c2, c3⟩, hB⟩
 case done =>
  rintro D ys Z hD hys ⟨⟨hne, c1, c2, c3⟩, hB⟩ hK
  have HNE := Lib.hid (show ∀ i : Nat, i < N + 1 → ¬ (i : Int) = k from fun i hi => by
   have : i ∈ ys.map (fun x => x.1) := by rw [hys]; exact List.mem_range.2 hi
   obtain ⟨y, hy, e⟩ := List.mem_map.1 this
   have := hne y hy
   rw [e] at this
   exact this)
  have z2 := box_cell c2 0
  have z3 := box_cell c3 0
  have f2 := box_frozen c2 0
  have f3 := box_frozen c3 0
  have HCC := Lib.hid (And.intro c2 (And.intro c3 hB))
  have HDD := Lib.hid hD
  clear hne hys c1 c2 c3 hB hD
  gi_wp2
  obtain ⟨c2, c3, hB⟩ := HCC.out
  have hD := HDD.out
  have r0 := (box_other (k := w.heap.size + 2) (B := w.heap.size + 3) (by omega) 0 (.int .i64 3)).trans (box_set c2 0 (.pointer none))
  have r1 := box_set ((box_other (k := w.heap.size + 3) (B := w.heap.size + 2) (by omega) 0 (.pointer none)).trans c3) 0 (.int .i64 3)
  have rB := (hB.setCell (p := ⟨w.heap.size + 2, 0, none⟩) (by show w.heap.size ≤ w.heap.size + 2; omega) (.pointer none)).setCell (p := ⟨w.heap.size + 3, 0, none⟩) (by show w.heap.size ≤ w.heap.size + 3; omega) (.int .i64 3)
  have hK2 := ((KeepsOthers.setCell Z ⟨w.heap.size + 2, 0, none⟩ (.pointer none)).trans (KeepsOthers.setCell _ ⟨w.heap.size + 3, 0, none⟩ (.int .i64 3))).same D _ hK rfl
  generalize (Z.setCell ⟨w.heap.size + 2, 0, none⟩ (.pointer none)).setCell ⟨w.heap.size + 3, 0, none⟩ (.int .i64 3) = W7 at r0 r1 rB hK2 ⊢
  refine ⟨by simp, .inl ⟨_, _, rfl, run_takeDeferred hK2, ?_⟩⟩
  have t0 : (W7.putObj D (.deferred none)).heap[w.heap.size + 2]? = _ := (World.putObj_heap_other (by omega)).trans r0
  have t1 : (W7.putObj D (.deferred none)).heap[w.heap.size + 3]? = _ := (World.putObj_heap_other (by omega)).trans r1
  exact ⟨_, replay_results _ _ (w.heap.size + 2) (w.heap.size + 3) none 3 rfl rfl (box_cell t0 0) (box_cell t1 0), HP2.out _ HNE.out (rB.trans (belowK_b (w := w) (Nat.le_refl _) W7 D _ _ (by omega) hK2 rfl rfl))⟩
 case stop =>
  rintro D c pre Z hD hpre ⟨⟨rfl, x, S, q1, q2, c2, c3, q5, q6⟩, hB⟩ hK
  obtain ⟨i, p⟩ := x
  obtain ⟨PB, rfl⟩ := docD_ptr q5
  have HDD := Lib.hid hD
  clear hD
  have HQ := Lib.hid (And.intro q1 (And.intro q2 (And.intro c2 (And.intro c3 (And.intro q5 (And.intro q6 hB))))))
  clear q1 q2 c2 c3 q5 q6 hB
  gi_wp2
  obtain ⟨q1, q2, r0, r1, q5, q6, rB⟩ := HQ.out
  have hD := HDD.out
  refine ⟨by simp, .inl ⟨_, _, rfl, run_takeDeferred hK, ?_⟩⟩
  have t0 : (Z.putObj D (.deferred none)).heap[w.heap.size + 2]? = _ := (World.putObj_heap_other (by omega)).trans r0
  have t1 : (Z.putObj D (.deferred none)).heap[w.heap.size + 3]? = _ := (World.putObj_heap_other (by omega)).trans r1
  have hDl : D < w6.heap.size + 2 := by omega
  exact ⟨_, replay_results _ _ (w.heap.size + 2) (w.heap.size + 3) _ 0 rfl rfl (box_cell t0 0) (box_cell t1 0), HP1.out _ S i _ q1 q2 (q5.keep fun b hb => World.putObj_heap_other (by have := q6 b hb; omega)) (fun b hb => by have := q6 b hb; omega) (rB.trans (belowK_b (w := w) (Nat.le_refl _) Z D _ _ (by omega) hK rfl rfl))⟩
end Go.Proofs.YthekkjfaaedamaaGreatDoor

namespace Go.Proofs.YthekkjfaaedamaaGreatDoor
open Go.RowKit

theorem hist_result2 {fn : Func} {p u : Tmp} (hfn : fn.results = #[.cell p 33, .tmp u]) (tmps : Array Value) (W : World) (g : Nat) (c : Value) (cs : Array Value) (hp : tmps.getD p undef = .pointer (some ⟨g, 0, none⟩)) (hc : tmps.getD u undef = c)
  (hg : W.heap[g]? = some (.cells cs 33 (0, 0))) (h5 : cs.size = 5) : (results fn tmps).run Tryz.prog W = .ok (.tuple #[.agg cs, c]) W := by
 rw [results_cell_tmp hfn, hp, hc]
 have hl := run_loadVar_row (P := Tryz.prog) W g 33 33 cs (0, 0) _ hg Tryz.underlying33 rfl (by rw [h5]; exact infoHist)
 simp [asAddr, Result.andThen, hl]
theorem zero_reads (W : World) : HistR W (.slice none 0 0) (.slice none 0 0) (.slice none 0 0) ⟨[], [], 0, 0, []⟩ := ⟨CAt.nil W, Reads64.nil W, EntsR.nilAny W none 0⟩
theorem cap_nil : CapOk (.slice none 0 0) := fun ao n c h => by cases h; exact Nat.le_refl _
theorem may_zero (num : Int) (W : World) (_hT : TabW W) (hm : mayH ⟨[], [], 0, num, []⟩ = true) : Calls Tryz.prog 16 #[hiV (.slice none 0 0) (.slice none 0 0) 0 num (.slice none 0 0)] W fun e w' => e = .returned (.bool true) ∧ Below W.heap.size W w' := by
 have h := hmay_any (.slice none 0 0) (.slice none 0 0) (.slice none 0 0) 0 num ⟨[], [], 0, num, []⟩ W ⟨CAt.nil W, Reads64.nil W, EntsR.nilAny W none 0⟩ ⟨Nat.zero_le _, Nat.zero_le _, Nat.zero_le _, cap_nil, fun c hc => (by cases hc), fun x hx => (by cases hx), fun x hx => (by cases hx)⟩ rfl rfl
 rw [show mayH (RHist.hist ⟨[], [], 0, num, []⟩) = true from hm] at h
 exact h
set_option maxRecDepth 100000 in
set_option maxHeartbeats 8000000 in
theorem add_two (w : World) (hT : TabW w) : Calls Tryz.prog 12 #[.agg #[.slice none 0 0, .slice none 0 0, .int .i64 0, .int .i64 0, .slice none 0 0], .agg #[.int .i64 1, .int .i64 1, .int .i64 2, .int .i64 1, .int .i64 0, .string ⟨#[97]⟩, .slice none 0 0, .int .i64 1, .int .i64 1, .int .i64 0, .int .i64 1, .int .i64 0, .int .i64 0, .string ⟨#[97]⟩]] w fun e w' => e = .returned (.tuple #[.agg #[.slice none 0 0, .slice none 0 0, .int .i64 0, .int .i64 0, .slice none 0 0], .int .i64 17]) ∧ Below w.heap.size w w' := by
 have HM0 := Lib.hid (fun W (z : Below w.heap.size w W) => may_zero 0 W (hT.below z) (by decide))
 have HPD := Lib.hid (fun W => isPending_any ⟨⟨1, 1, 2, 1, 0, ⟨#[97]⟩, .slice none 0 0, []⟩, 1, 1, 0, 1, 0, 0, ⟨#[97]⟩⟩ W (SpAt.nil W))
 have HPT := Lib.hid (fun W => parts_any (.slice none 0 0) (.slice none 0 0) (.slice none 0 0) 0 0 ⟨[], [], 0, 0, []⟩ W (zero_reads W) (by decide) cap_nil)
 have hA := hrow_al (hrow_al (heap_alloc_new w (.cells #[.slice none 0 0, .slice none 0 0, .int .i64 0, .int .i64 0, .slice none 0 0] 33)) (.cells #[.int .i64 1, .int .i64 1, .int .i64 2, .int .i64 1, .int .i64 0, .string ⟨#[97]⟩, .slice none 0 0, .int .i64 1, .int .i64 1, .int .i64 0, .int .i64 1, .int .i64 0, .int .i64 0, .string ⟨#[97]⟩] 49)) (.cells #[.slice none 0 0, .slice none 0 0, .int .i64 0, .int .i64 0, .slice none 0 0] 33)
 have hE : (((w.alloc (.cells #[.slice none 0 0, .slice none 0 0, .int .i64 0, .int .i64 0, .slice none 0 0] 33)).alloc (.cells #[.int .i64 1, .int .i64 1, .int .i64 2, .int .i64 1, .int .i64 0, .string ⟨#[97]⟩, .slice none 0 0, .int .i64 1, .int .i64 1, .int .i64 0, .int .i64 1, .int .i64 0, .int .i64 0, .string ⟨#[97]⟩] 49)).alloc (.cells #[.slice none 0 0, .slice none 0 0, .int .i64 0, .int .i64 0, .slice none 0 0] 33)).heap[w.heap.size + 1]? = some (.cells #[.int .i64 1, .int .i64 1, .int .i64 2, .int .i64 1, .int .i64 0, .string ⟨#[97]⟩, .slice none 0 0, .int .i64 1, .int .i64 1, .int .i64 0, .int .i64 1, .int .i64 0, .int .i64 0, .string ⟨#[97]⟩] 49 (0, 0)) := by
  have h := heap_alloc_new (w.alloc (.cells #[.slice none 0 0, .slice none 0 0, .int .i64 0, .int .i64 0, .slice none 0 0] 33)) (.cells #[.int .i64 1, .int .i64 1, .int .i64 2, .int .i64 1, .int .i64 0, .string ⟨#[97]⟩, .slice none 0 0, .int .i64 1, .int .i64 1, .int .i64 0, .int .i64 1, .int .i64 0, .int .i64 0, .string ⟨#[97]⟩] 49)
  rw [show (w.alloc (.cells #[.slice none 0 0, .slice none 0 0, .int .i64 0, .int .i64 0, .slice none 0 0] 33)).heap.size = w.heap.size + 1 by simp] at h
  exact hrow_al h _
 have hZ : (((w.alloc (.cells #[.slice none 0 0, .slice none 0 0, .int .i64 0, .int .i64 0, .slice none 0 0] 33)).alloc (.cells #[.int .i64 1, .int .i64 1, .int .i64 2, .int .i64 1, .int .i64 0, .string ⟨#[97]⟩, .slice none 0 0, .int .i64 1, .int .i64 1, .int .i64 0, .int .i64 1, .int .i64 0, .int .i64 0, .string ⟨#[97]⟩] 49)).alloc (.cells #[.slice none 0 0, .slice none 0 0, .int .i64 0, .int .i64 0, .slice none 0 0] 33)).heap[w.heap.size + 1 + 1]? = some (.cells #[.slice none 0 0, .slice none 0 0, .int .i64 0, .int .i64 0, .slice none 0 0] 33 (0, 0)) := by
  have h := heap_alloc_new ((w.alloc (.cells #[.slice none 0 0, .slice none 0 0, .int .i64 0, .int .i64 0, .slice none 0 0] 33)).alloc (.cells #[.int .i64 1, .int .i64 1, .int .i64 2, .int .i64 1, .int .i64 0, .string ⟨#[97]⟩, .slice none 0 0, .int .i64 1, .int .i64 1, .int .i64 0, .int .i64 1, .int .i64 0, .int .i64 0, .string ⟨#[97]⟩] 49)) (.cells #[.slice none 0 0, .slice none 0 0, .int .i64 0, .int .i64 0, .slice none 0 0] 33)
  rwa [show ((w.alloc (.cells #[.slice none 0 0, .slice none 0 0, .int .i64 0, .int .i64 0, .slice none 0 0] 33)).alloc (.cells #[.int .i64 1, .int .i64 1, .int .i64 2, .int .i64 1, .int .i64 0, .string ⟨#[97]⟩, .slice none 0 0, .int .i64 1, .int .i64 1, .int .i64 0, .int .i64 1, .int .i64 0, .int .i64 0, .string ⟨#[97]⟩] 49)).heap.size = w.heap.size + 1 + 1 by simp] at h
 have hB : Below w.heap.size w (((w.alloc (.cells #[.slice none 0 0, .slice none 0 0, .int .i64 0, .int .i64 0, .slice none 0 0] 33)).alloc (.cells #[.int .i64 1, .int .i64 1, .int .i64 2, .int .i64 1, .int .i64 0, .string ⟨#[97]⟩, .slice none 0 0, .int .i64 1, .int .i64 1, .int .i64 0, .int .i64 1, .int .i64 0, .int .i64 0, .string ⟨#[97]⟩] 49)).alloc (.cells #[.slice none 0 0, .slice none 0 0, .int .i64 0, .int .i64 0, .slice none 0 0] 33)) := (((Below.refl _ w).alloc (Nat.le_refl _) _).alloc (by simp) _).alloc (by simp; omega) _
 have HA0 := Lib.hid hA
 have HE0 := Lib.hid hE
 have HZ0 := Lib.hid hZ
 have HB0 := Lib.hid hB
 clear hA hE hZ hB
 obtain ⟨⟨d0, d1, d2, d3, d4⟩, -⟩ := row5 HA0.out; have ef0 := box_frozen HA0.out 0; have ef1 := box_frozen HA0.out 1; have ef2 := box_frozen HA0.out 2; have ef3 := box_frozen HA0.out 3; have ef4 := box_frozen HA0.out 4; obtain ⟨⟨n0, n1, n2, n3, n4, n5, n6⟩, n7, n8, n9, n10, n11, n12, n13⟩ := row14 HE0.out
 unfold REnt.val at HPD
 unfold hiV at HM0 HPT
 dsimp only at HPD
 go_enter Tryz.func12, Tryz.ntmps12
 go_upto_region 3 with (go_at_call 16; refine (HM0.out _ HB0.out).mono ?_; rintro e w1 ⟨rfl, hb1⟩; have HA1 := Lib.hid (row_keep hb1 HA0.out); have HE1 := Lib.hid (row_keep hb1 HE0.out); have HZ1 := Lib.hid (row_keep hb1 HZ0.out); have HB1 := Lib.hid (HB0.out.trans (hb1.mono HB0.out.size)); clear hb1 d0 d1 d2 d3 d4 ef0 ef1 ef2 ef3 ef4 n0 n1 n2 n3 n4 n5 n6 n7 n8 n9 n10 n11 n12 n13; obtain ⟨⟨d0, d1, d2, d3, d4⟩, -⟩ := row5 HA1.out; have ef0 := box_frozen HA1.out 0; have ef1 := box_frozen HA1.out 1; have ef2 := box_frozen HA1.out 2; have ef3 := box_frozen HA1.out 3; have ef4 := box_frozen HA1.out 4; obtain ⟨⟨n0, n1, n2, n3, n4, n5, n6⟩, n7, n8, n9, n10, n11, n12, n13⟩ := row14 HE1.out)
 go_upto_region 6 with (go_at_call 28; refine (HPD.out _).mono ?_; rintro e w2 ⟨rfl, hb1⟩; have HA2 := Lib.hid (row_keep hb1 HA1.out); have HE2 := Lib.hid (row_keep hb1 HE1.out); have HZ2 := Lib.hid (row_keep hb1 HZ1.out); have HB2 := Lib.hid (HB1.out.trans (hb1.mono HB1.out.size)); clear hb1 d0 d1 d2 d3 d4 ef0 ef1 ef2 ef3 ef4 n0 n1 n2 n3 n4 n5 n6 n7 n8 n9 n10 n11 n12 n13; obtain ⟨⟨d0, d1, d2, d3, d4⟩, -⟩ := row5 HA2.out; have ef0 := box_frozen HA2.out 0; have ef1 := box_frozen HA2.out 1; have ef2 := box_frozen HA2.out 2; have ef3 := box_frozen HA2.out 3; have ef4 := box_frozen HA2.out 4; obtain ⟨⟨n0, n1, n2, n3, n4, n5, n6⟩, n7, n8, n9, n10, n11, n12, n13⟩ := row14 HE2.out)
 go_upto_region 9 with (go_at_call 29; refine (HPT.out _).mono ?_; rintro e w3 ⟨v1, v2, rfl, hp1, hp2, hb1⟩; obtain ⟨o1, e1, h1⟩ := hp1.shape; obtain ⟨o2, e2, h2⟩ := hp2.shape; replace h1 : v1 = .slice o1 0 e1 := h1; replace h2 : v2 = .slice o2 0 e2 := h2; subst h1 h2; have HA3 := Lib.hid (row_keep hb1 HA2.out); have HE3 := Lib.hid (row_keep hb1 HE2.out); have HZ3 := Lib.hid (row_keep hb1 HZ2.out); have HB3 := Lib.hid (HB2.out.trans (hb1.mono HB2.out.size)); clear hb1 hp1 hp2 d0 d1 d2 d3 d4 ef0 ef1 ef2 ef3 ef4 n0 n1 n2 n3 n4 n5 n6 n7 n8 n9 n10 n11 n12 n13; obtain ⟨⟨d0, d1, d2, d3, d4⟩, -⟩ := row5 HA3.out; have ef0 := box_frozen HA3.out 0; have ef1 := box_frozen HA3.out 1; have ef2 := box_frozen HA3.out 2; have ef3 := box_frozen HA3.out 3; have ef4 := box_frozen HA3.out 4; obtain ⟨⟨n0, n1, n2, n3, n4, n5, n6⟩, n7, n8, n9, n10, n11, n12, n13⟩ := row14 HE3.out)
 go_upto_region 10 with (fail)
 clear d0 d1 d2 d3 d4 ef0 ef1 ef2 ef3 ef4 n0 n1 n2 n3 n4 n5 n6 n7 n8 n9 n10 n11 n12 n13
 obtain ⟨⟨z0, z1, z2, z3, z4⟩, -⟩ := row5 HZ3.out; have zf0 := box_frozen HZ3.out 0; have zf1 := box_frozen HZ3.out 1; have zf2 := box_frozen HZ3.out 2; have zf3 := box_frozen HZ3.out 3; have zf4 := box_frozen HZ3.out 4
 go_wp2
 have hZ4 : ((((((w3).setCell ⟨w.heap.size + 1 + 1, 0, none⟩ (.slice none 0 0)).setCell ⟨w.heap.size + 1 + 1, 1, none⟩ (.slice none 0 0)).setCell ⟨w.heap.size + 1 + 1, 2, none⟩ (.int .i64 0)).setCell ⟨w.heap.size + 1 + 1, 3, none⟩ (.int .i64 0)).setCell ⟨w.heap.size + 1 + 1, 4, none⟩ (.slice none 0 0)).heap[w.heap.size + 1 + 1]? = some (.cells #[.slice none 0 0, .slice none 0 0, .int .i64 0, .int .i64 0, .slice none 0 0] 33 (0, 0)) := box_set (box_set (box_set (box_set (box_set (HZ3.out) 0 (.slice none 0 0)) 1 (.slice none 0 0)) 2 (.int .i64 0)) 3 (.int .i64 0)) 4 (.slice none 0 0)
 have hB4 : Below w.heap.size w ((((((w3).setCell ⟨w.heap.size + 1 + 1, 0, none⟩ (.slice none 0 0)).setCell ⟨w.heap.size + 1 + 1, 1, none⟩ (.slice none 0 0)).setCell ⟨w.heap.size + 1 + 1, 2, none⟩ (.int .i64 0)).setCell ⟨w.heap.size + 1 + 1, 3, none⟩ (.int .i64 0)).setCell ⟨w.heap.size + 1 + 1, 4, none⟩ (.slice none 0 0)) := (((((HB3.out).setCell (p := ⟨w.heap.size + 1 + 1, 0, none⟩) (by show w.heap.size ≤ w.heap.size + 1 + 1; omega) (.slice none 0 0)).setCell (p := ⟨w.heap.size + 1 + 1, 1, none⟩) (by show w.heap.size ≤ w.heap.size + 1 + 1; omega) (.slice none 0 0)).setCell (p := ⟨w.heap.size + 1 + 1, 2, none⟩) (by show w.heap.size ≤ w.heap.size + 1 + 1; omega) (.int .i64 0)).setCell (p := ⟨w.heap.size + 1 + 1, 3, none⟩) (by show w.heap.size ≤ w.heap.size + 1 + 1; omega) (.int .i64 0)).setCell (p := ⟨w.heap.size + 1 + 1, 4, none⟩) (by show w.heap.size ≤ w.heap.size + 1 + 1; omega) (.slice none 0 0)
 exact bodyPost_ret (hist_result2 (fn := Tryz.f12) (p := 4) (u := 5) rfl _ _ (w.heap.size + 1 + 1) (.int .i64 17) _ rfl rfl hZ4 rfl) rfl ⟨rfl, hB4⟩
end Go.Proofs.YthekkjfaaedamaaGreatDoor

namespace Go.Proofs.YthekkjfaaedamaaGreatDoor
open Go.RowKit

set_option maxRecDepth 100000 in
set_option maxHeartbeats 4000000 in
theorem of_any (bo vo ao : Option Addr) (M V N bc vc cap : Nat) (fr num : Int) (w : World) :
  Calls Tryz.prog 7 #[.agg #[.slice bo M bc, .slice vo V vc, .int .i64 fr, .int .i64 num, .slice ao N cap]] w fun e w' => e = .returned (.agg #[.slice bo M bc, .slice vo V vc, .int .i64 fr, .int .i64 num, .slice ao N cap]) ∧ Below w.heap.size w w' := by
 have hA := hrow_al (heap_alloc_new w (.cells #[.slice bo M bc, .slice vo V vc, .int .i64 fr, .int .i64 num, .slice ao N cap] 26)) (.cells #[.slice none 0 0, .slice none 0 0, .int .i64 0, .int .i64 0, .slice none 0 0] 33)
 have hZ : ((w.alloc (.cells #[.slice bo M bc, .slice vo V vc, .int .i64 fr, .int .i64 num, .slice ao N cap] 26)).alloc (.cells #[.slice none 0 0, .slice none 0 0, .int .i64 0, .int .i64 0, .slice none 0 0] 33)).heap[w.heap.size + 1]? = some (.cells #[.slice none 0 0, .slice none 0 0, .int .i64 0, .int .i64 0, .slice none 0 0] 33 (0, 0)) := by
  have h := heap_alloc_new (w.alloc (.cells #[.slice bo M bc, .slice vo V vc, .int .i64 fr, .int .i64 num, .slice ao N cap] 26)) (.cells #[.slice none 0 0, .slice none 0 0, .int .i64 0, .int .i64 0, .slice none 0 0] 33)
  rwa [show (w.alloc (.cells #[.slice bo M bc, .slice vo V vc, .int .i64 fr, .int .i64 num, .slice ao N cap] 26)).heap.size = w.heap.size + 1 by simp] at h
 have HB := Lib.hid (show Below w.heap.size w ((w.alloc (.cells #[.slice bo M bc, .slice vo V vc, .int .i64 fr, .int .i64 num, .slice ao N cap] 26)).alloc (.cells #[.slice none 0 0, .slice none 0 0, .int .i64 0, .int .i64 0, .slice none 0 0] 33)) from ((Below.refl _ w).alloc (Nat.le_refl _) _).alloc (by simp) _)
 have HA := Lib.hid hA
 have HZ := Lib.hid hZ
 clear hA hZ
 go_enter Tryz.func7, Tryz.ntmps7
 go_upto_region 1 with (fail)
 generalize (w.alloc (.cells #[.slice bo M bc, .slice vo V vc, .int .i64 fr, .int .i64 num, .slice ao N cap] 26)).alloc (.cells #[.slice none 0 0, .slice none 0 0, .int .i64 0, .int .i64 0, .slice none 0 0] 33) = W2 at HB HA HZ ⊢
 obtain ⟨⟨d0, d1, d2, d3, d4⟩, -⟩ := row5 HA.out
 obtain ⟨zs, hzs⟩ : ∃ zs : Array Value, (#[.slice none 0 0, .slice none 0 0, .int .i64 0, .int .i64 0, .slice none 0 0] : Array Value) = zs := ⟨_, rfl⟩
 have hzz : zs.size = 5 := by rw [← hzs]; rfl
 rw [hzs] at HZ
 have h1c : (#[.slice bo M bc, .slice vo V vc, .int .i64 fr, .int .i64 num, .slice ao N cap] : Array Value).all (·.oneCell') = true := by simp [Value.oneCell']
 have HS := Lib.hid (fun (op : Oper) (ops : Array Oper) (rest : List Oper) (Q : Exit → Act → World → Prop) (a : Act) (h1 : op.guard = none) (h2 : op.op = .store 33 (.tmp 2) (.tmp 13)) (h3 : a.eval (.tmp 2) = .pointer (some ⟨w.heap.size + 1, 0, none⟩)) (h4 : a.eval (.tmp 13) = .agg #[.slice bo M bc, .slice vo V vc, .int .i64 fr, .int .i64 num, .slice ao N cap]) (h5 : wpList Tryz.prog ops Q rest (a.put op.dst undef) (W2.setRow (w.heap.size + 1) #[.slice bo M bc, .slice vo V vc, .int .i64 fr, .int .i64 num, .slice ao N cap])) => (show wpList Tryz.prog ops Q (op :: rest) a W2 from wpList_store_row h1 33 _ _ h2 (w.heap.size + 1) _ h3 h4 33 zs HZ.out infoHist hzz h1c h5))
 have HZF := Lib.hid (setRow_heap W2 (w.heap.size + 1) zs #[.slice bo M bc, .slice vo V vc, .int .i64 fr, .int .i64 num, .slice ao N cap] 33 (0, 0) HZ.out)
 have HBF := Lib.hid (below_setRow HB.out (show w.heap.size ≤ w.heap.size + 1 by omega) #[.slice bo M bc, .slice vo V vc, .int .i64 fr, .int .i64 num, .slice ao N cap])
 clear hzs hzz h1c HZ HA
 go_wp2_with (refine HS.out _ _ _ _ _ rfl rfl rfl rfl ?_)
 exact bodyPost_ret (hist_result1 (fn := Tryz.f7) (p := 2) rfl _ _ (w.heap.size + 1) _ rfl HZF.out rfl) rfl ⟨rfl, HBF.out⟩
end Go.Proofs.YthekkjfaaedamaaGreatDoor

namespace Go.Proofs.YthekkjfaaedamaaGreatDoor
open Go.RowKit

def exE : REnt := ⟨⟨1, 1, 1, 1, 0, ⟨#[97]⟩, .slice none 0 0, []⟩, 1, 1, 0, 1, 0, 0, ⟨#[97]⟩⟩
theorem exE_may : mayH (RHist.hist ⟨[], [], 0, 1, [exE]⟩) = true := by decide
theorem exE_hist (W : World) (v : Value) (N : Nat) (h : W.ownsRow N 49 14 v 1 (nCells [exE])) : HistR W (.slice none 0 0) (.slice none 0 0) v ⟨[], [], 0, 1, [exE]⟩ :=
 ⟨CAt.nil W, Reads64.nil W, RowR.of_own h, fun x hx => by rw [List.mem_singleton.1 hx]; exact SpAt.nil W⟩
theorem exE_fit (W : World) (v : Value) (hT : TabW W) (hc : CapOk v) : HFit W v ⟨[], [], 0, 1, [exE]⟩ :=
 ⟨Nat.zero_le _, Nat.zero_le _, show 1 ≤ 1000000 by decide, hc, fun c hc => (by cases hc), fun x hx => by
  rw [List.mem_singleton.1 hx]
  exact ⟨⟨by decide, by decide⟩, fun s hs => (by cases hs), Nat.zero_le _, by decide, LenAt.tabs hT (by decide)⟩, fun x hx => by rw [List.mem_singleton.1 hx]; exact LenAt.tabs hT (by decide)⟩
theorem two_slices (W : World) (x : REnt) (hx : SpAt W x.op.sp x.op.xs) : SlsE ((W.alloc (.cells x.vals.toArray 49)).alloc (.cells #[.slice none 0 0, .slice (some ⟨W.heap.size, 0, none⟩) 1 1] 24)) (.slice (some ⟨W.heap.size + 1, 0, none⟩) 2 2) [[], [x]] := by
 have hb1 : Below W.heap.size W (W.alloc (.cells x.vals.toArray 49)) := (Below.refl _ W).alloc (Nat.le_refl _) _
 have hb2 := (Below.refl (W.alloc (.cells x.vals.toArray 49)).heap.size (W.alloc (.cells x.vals.toArray 49))).alloc (Nat.le_refl _) (.cells #[.slice none 0 0, .slice (some ⟨W.heap.size, 0, none⟩) 1 1] 24)
 have hr := heap_alloc_new (W.alloc (.cells x.vals.toArray 49)) (.cells #[.slice none 0 0, .slice (some ⟨W.heap.size, 0, none⟩) 1 1] 24)
 rw [show (W.alloc (.cells x.vals.toArray 49)).heap.size = W.heap.size + 1 by simp] at hr
 refine ⟨W.heap.size + 1, 0, 2, rfl, fun i l hi => ?_⟩
 match i, hi with
 | 0, hi =>
  obtain rfl := Option.some.inj hi
  exact ⟨_, cell_of_row _ _ 0 _ _ _ hr, EntsR.nilAny _ none 0⟩
 | 1, hi =>
  obtain rfl := Option.some.inj hi
  exact ⟨_, cell_of_row _ _ 1 _ _ _ hr, (one_entry W x 49).below hb2, fun y hy => by rw [List.mem_singleton.1 hy]; exact (hx.below hb1).below hb2⟩
 | i + 2, hi => simp at hi
set_option maxRecDepth 100000 in
set_option maxHeartbeats 8000000 in
theorem add_one (w : World) (hT : TabW w) : Calls Tryz.prog 12 #[.agg #[.slice none 0 0, .slice none 0 0, .int .i64 0, .int .i64 0, .slice none 0 0], .agg #[.int .i64 1, .int .i64 1, .int .i64 1, .int .i64 1, .int .i64 0, .string ⟨#[97]⟩, .slice none 0 0, .int .i64 1, .int .i64 1, .int .i64 0, .int .i64 1, .int .i64 0, .int .i64 0, .string ⟨#[97]⟩]] w fun e w' => (∃ q1 q2 q3 q4 a k, e = .returned (.tuple #[.agg #[.slice q1 0 q2, .slice q3 0 q4, .int .i64 0, .int .i64 1, .slice a 1 k], .int .i64 0])) ∧ Below w.heap.size w w' := by
 have HM0 := Lib.hid (fun W (z : Below w.heap.size w W) => may_zero 0 W (hT.below z) (by decide))
 have HPD := Lib.hid (fun W => isPending_any ⟨⟨1, 1, 1, 1, 0, ⟨#[97]⟩, .slice none 0 0, []⟩, 1, 1, 0, 1, 0, 0, ⟨#[97]⟩⟩ W (SpAt.nil W))
 have HPT := Lib.hid (fun W => parts_any (.slice none 0 0) (.slice none 0 0) (.slice none 0 0) 0 0 ⟨[], [], 0, 0, []⟩ W (zero_reads W) (by decide) cap_nil)
 have hA := hrow_al (hrow_al (heap_alloc_new w (.cells #[.slice none 0 0, .slice none 0 0, .int .i64 0, .int .i64 0, .slice none 0 0] 33)) (.cells #[.int .i64 1, .int .i64 1, .int .i64 1, .int .i64 1, .int .i64 0, .string ⟨#[97]⟩, .slice none 0 0, .int .i64 1, .int .i64 1, .int .i64 0, .int .i64 1, .int .i64 0, .int .i64 0, .string ⟨#[97]⟩] 49)) (.cells #[.slice none 0 0, .slice none 0 0, .int .i64 0, .int .i64 0, .slice none 0 0] 33)
 have hE : (((w.alloc (.cells #[.slice none 0 0, .slice none 0 0, .int .i64 0, .int .i64 0, .slice none 0 0] 33)).alloc (.cells #[.int .i64 1, .int .i64 1, .int .i64 1, .int .i64 1, .int .i64 0, .string ⟨#[97]⟩, .slice none 0 0, .int .i64 1, .int .i64 1, .int .i64 0, .int .i64 1, .int .i64 0, .int .i64 0, .string ⟨#[97]⟩] 49)).alloc (.cells #[.slice none 0 0, .slice none 0 0, .int .i64 0, .int .i64 0, .slice none 0 0] 33)).heap[w.heap.size + 1]? = some (.cells #[.int .i64 1, .int .i64 1, .int .i64 1, .int .i64 1, .int .i64 0, .string ⟨#[97]⟩, .slice none 0 0, .int .i64 1, .int .i64 1, .int .i64 0, .int .i64 1, .int .i64 0, .int .i64 0, .string ⟨#[97]⟩] 49 (0, 0)) := by
  have h := heap_alloc_new (w.alloc (.cells #[.slice none 0 0, .slice none 0 0, .int .i64 0, .int .i64 0, .slice none 0 0] 33)) (.cells #[.int .i64 1, .int .i64 1, .int .i64 1, .int .i64 1, .int .i64 0, .string ⟨#[97]⟩, .slice none 0 0, .int .i64 1, .int .i64 1, .int .i64 0, .int .i64 1, .int .i64 0, .int .i64 0, .string ⟨#[97]⟩] 49)
  rw [show (w.alloc (.cells #[.slice none 0 0, .slice none 0 0, .int .i64 0, .int .i64 0, .slice none 0 0] 33)).heap.size = w.heap.size + 1 by simp] at h
  exact hrow_al h _
 have hZ : (((w.alloc (.cells #[.slice none 0 0, .slice none 0 0, .int .i64 0, .int .i64 0, .slice none 0 0] 33)).alloc (.cells #[.int .i64 1, .int .i64 1, .int .i64 1, .int .i64 1, .int .i64 0, .string ⟨#[97]⟩, .slice none 0 0, .int .i64 1, .int .i64 1, .int .i64 0, .int .i64 1, .int .i64 0, .int .i64 0, .string ⟨#[97]⟩] 49)).alloc (.cells #[.slice none 0 0, .slice none 0 0, .int .i64 0, .int .i64 0, .slice none 0 0] 33)).heap[w.heap.size + 1 + 1]? = some (.cells #[.slice none 0 0, .slice none 0 0, .int .i64 0, .int .i64 0, .slice none 0 0] 33 (0, 0)) := by
  have h := heap_alloc_new ((w.alloc (.cells #[.slice none 0 0, .slice none 0 0, .int .i64 0, .int .i64 0, .slice none 0 0] 33)).alloc (.cells #[.int .i64 1, .int .i64 1, .int .i64 1, .int .i64 1, .int .i64 0, .string ⟨#[97]⟩, .slice none 0 0, .int .i64 1, .int .i64 1, .int .i64 0, .int .i64 1, .int .i64 0, .int .i64 0, .string ⟨#[97]⟩] 49)) (.cells #[.slice none 0 0, .slice none 0 0, .int .i64 0, .int .i64 0, .slice none 0 0] 33)
  rwa [show ((w.alloc (.cells #[.slice none 0 0, .slice none 0 0, .int .i64 0, .int .i64 0, .slice none 0 0] 33)).alloc (.cells #[.int .i64 1, .int .i64 1, .int .i64 1, .int .i64 1, .int .i64 0, .string ⟨#[97]⟩, .slice none 0 0, .int .i64 1, .int .i64 1, .int .i64 0, .int .i64 1, .int .i64 0, .int .i64 0, .string ⟨#[97]⟩] 49)).heap.size = w.heap.size + 1 + 1 by simp] at h
 have hB : Below w.heap.size w (((w.alloc (.cells #[.slice none 0 0, .slice none 0 0, .int .i64 0, .int .i64 0, .slice none 0 0] 33)).alloc (.cells #[.int .i64 1, .int .i64 1, .int .i64 1, .int .i64 1, .int .i64 0, .string ⟨#[97]⟩, .slice none 0 0, .int .i64 1, .int .i64 1, .int .i64 0, .int .i64 1, .int .i64 0, .int .i64 0, .string ⟨#[97]⟩] 49)).alloc (.cells #[.slice none 0 0, .slice none 0 0, .int .i64 0, .int .i64 0, .slice none 0 0] 33)) := (((Below.refl _ w).alloc (Nat.le_refl _) _).alloc (by simp) _).alloc (by simp; omega) _
 have HA0 := Lib.hid hA
 have HE0 := Lib.hid hE
 have HZ0 := Lib.hid hZ
 have HB0 := Lib.hid hB
 clear hA hE hZ hB
 obtain ⟨⟨d0, d1, d2, d3, d4⟩, -⟩ := row5 HA0.out; have ef0 := box_frozen HA0.out 0; have ef1 := box_frozen HA0.out 1; have ef2 := box_frozen HA0.out 2; have ef3 := box_frozen HA0.out 3; have ef4 := box_frozen HA0.out 4; obtain ⟨⟨n0, n1, n2, n3, n4, n5, n6⟩, n7, n8, n9, n10, n11, n12, n13⟩ := row14 HE0.out
 unfold REnt.val at HPD
 unfold hiV at HM0 HPT
 dsimp only at HPD
 go_enter Tryz.func12, Tryz.ntmps12
 go_upto_region 3 with (go_at_call 16; refine (HM0.out _ HB0.out).mono ?_; rintro e w1 ⟨rfl, hb1⟩; have HA1 := Lib.hid (row_keep hb1 HA0.out); have HE1 := Lib.hid (row_keep hb1 HE0.out); have HZ1 := Lib.hid (row_keep hb1 HZ0.out); have HB1 := Lib.hid (HB0.out.trans (hb1.mono HB0.out.size)); clear hb1 d0 d1 d2 d3 d4 ef0 ef1 ef2 ef3 ef4 n0 n1 n2 n3 n4 n5 n6 n7 n8 n9 n10 n11 n12 n13; obtain ⟨⟨d0, d1, d2, d3, d4⟩, -⟩ := row5 HA1.out; have ef0 := box_frozen HA1.out 0; have ef1 := box_frozen HA1.out 1; have ef2 := box_frozen HA1.out 2; have ef3 := box_frozen HA1.out 3; have ef4 := box_frozen HA1.out 4; obtain ⟨⟨n0, n1, n2, n3, n4, n5, n6⟩, n7, n8, n9, n10, n11, n12, n13⟩ := row14 HE1.out)
 go_upto_region 6 with (go_at_call 28; refine (HPD.out _).mono ?_; rintro e w2 ⟨rfl, hb1⟩; have HA2 := Lib.hid (row_keep hb1 HA1.out); have HE2 := Lib.hid (row_keep hb1 HE1.out); have HZ2 := Lib.hid (row_keep hb1 HZ1.out); have HB2 := Lib.hid (HB1.out.trans (hb1.mono HB1.out.size)); clear hb1 d0 d1 d2 d3 d4 ef0 ef1 ef2 ef3 ef4 n0 n1 n2 n3 n4 n5 n6 n7 n8 n9 n10 n11 n12 n13; obtain ⟨⟨d0, d1, d2, d3, d4⟩, -⟩ := row5 HA2.out; have ef0 := box_frozen HA2.out 0; have ef1 := box_frozen HA2.out 1; have ef2 := box_frozen HA2.out 2; have ef3 := box_frozen HA2.out 3; have ef4 := box_frozen HA2.out 4; obtain ⟨⟨n0, n1, n2, n3, n4, n5, n6⟩, n7, n8, n9, n10, n11, n12, n13⟩ := row14 HE2.out)
 go_upto_region 9 with (go_at_call 29; refine (HPT.out _).mono ?_; rintro e w3 ⟨v1, v2, rfl, hp1, hp2, hb1⟩; obtain ⟨o1, e1, h1⟩ := hp1.shape; obtain ⟨o2, e2, h2⟩ := hp2.shape; replace h1 : v1 = .slice o1 0 e1 := h1; replace h2 : v2 = .slice o2 0 e2 := h2; subst h1 h2; have HA3 := Lib.hid (row_keep hb1 HA2.out); have HE3 := Lib.hid (row_keep hb1 HE2.out); have HZ3 := Lib.hid (row_keep hb1 HZ2.out); have HB3 := Lib.hid (HB2.out.trans (hb1.mono HB2.out.size)); clear hb1 hp1 hp2 d0 d1 d2 d3 d4 ef0 ef1 ef2 ef3 ef4 n0 n1 n2 n3 n4 n5 n6 n7 n8 n9 n10 n11 n12 n13; obtain ⟨⟨d0, d1, d2, d3, d4⟩, -⟩ := row5 HA3.out; have ef0 := box_frozen HA3.out 0; have ef1 := box_frozen HA3.out 1; have ef2 := box_frozen HA3.out 2; have ef3 := box_frozen HA3.out 3; have ef4 := box_frozen HA3.out 4; obtain ⟨⟨n0, n1, n2, n3, n4, n5, n6⟩, n7, n8, n9, n10, n11, n12, n13⟩ := row14 HE3.out)
 go_upto_region 12 with (fail)
 have hA4 : (w3.setCell ⟨w.heap.size, 3, none⟩ (.int .i64 1)).heap[w.heap.size]? = some (.cells #[.slice none 0 0, .slice none 0 0, .int .i64 0, .int .i64 1, .slice none 0 0] 33 (0, 0)) := box_set HA3.out 3 (.int .i64 1)
 have hE4 : (w3.setCell ⟨w.heap.size, 3, none⟩ (.int .i64 1)).heap[w.heap.size + 1]? = some (.cells #[.int .i64 1, .int .i64 1, .int .i64 1, .int .i64 1, .int .i64 0, .string ⟨#[97]⟩, .slice none 0 0, .int .i64 1, .int .i64 1, .int .i64 0, .int .i64 1, .int .i64 0, .int .i64 0, .string ⟨#[97]⟩] 49 (0, 0)) := (box_other (by omega) 3 (.int .i64 1)).trans HE3.out
 have hZ4 : (w3.setCell ⟨w.heap.size, 3, none⟩ (.int .i64 1)).heap[w.heap.size + 1 + 1]? = some (.cells #[.slice none 0 0, .slice none 0 0, .int .i64 0, .int .i64 0, .slice none 0 0] 33 (0, 0)) := (box_other (by omega) 3 (.int .i64 1)).trans HZ3.out
 have hB4 : Below w.heap.size w (w3.setCell ⟨w.heap.size, 3, none⟩ (.int .i64 1)) := HB3.out.setCell (p := ⟨w.heap.size, 3, none⟩) (Nat.le_refl _) _
 generalize w3.setCell ⟨w.heap.size, 3, none⟩ (.int .i64 1) = W4 at hA4 hE4 hZ4 hB4 ⊢
 have HA4 := Lib.hid hA4
 have HE4 := Lib.hid hE4
 have HZ4 := Lib.hid hZ4
 have HB4 := Lib.hid hB4
 clear hA4 hE4 hZ4 hB4 d0 d1 d2 d3 d4 ef0 ef1 ef2 ef3 ef4 n0 n1 n2 n3 n4 n5 n6 n7 n8 n9 n10 n11 n12 n13
 obtain ⟨⟨d0, d1, d2, d3, d4⟩, -⟩ := row5 HA4.out; have ef0 := box_frozen HA4.out 0; have ef1 := box_frozen HA4.out 1; have ef2 := box_frozen HA4.out 2; have ef3 := box_frozen HA4.out 3; have ef4 := box_frozen HA4.out 4; obtain ⟨⟨n0, n1, n2, n3, n4, n5, n6⟩, n7, n8, n9, n10, n11, n12, n13⟩ := row14 HE4.out
 have HCT := Lib.hid (show Calls Tryz.prog 30 #[.slice (some ⟨W4.heap.size + 1, 0, none⟩) 2 2] ((W4.alloc (.cells #[.int .i64 1, .int .i64 1, .int .i64 1, .int .i64 1, .int .i64 0, .string ⟨#[97]⟩, .slice none 0 0, .int .i64 1, .int .i64 1, .int .i64 0, .int .i64 1, .int .i64 0, .int .i64 0, .string ⟨#[97]⟩] 49)).alloc (.cells #[.slice none 0 0, .slice (some ⟨W4.heap.size, 0, none⟩) 1 1] 24)) (CatEPost [exE] ((W4.alloc (.cells #[.int .i64 1, .int .i64 1, .int .i64 1, .int .i64 1, .int .i64 0, .string ⟨#[97]⟩, .slice none 0 0, .int .i64 1, .int .i64 1, .int .i64 0, .int .i64 1, .int .i64 0, .int .i64 0, .string ⟨#[97]⟩] 49)).alloc (.cells #[.slice none 0 0, .slice (some ⟨W4.heap.size, 0, none⟩) 1 1] 24))) from concatE_any _ _ _ (two_slices W4 exE (SpAt.nil W4)) (by decide) (by decide))
 have HS5 := Lib.hid (show ((W4.alloc (.cells #[.int .i64 1, .int .i64 1, .int .i64 1, .int .i64 1, .int .i64 0, .string ⟨#[97]⟩, .slice none 0 0, .int .i64 1, .int .i64 1, .int .i64 0, .int .i64 1, .int .i64 0, .int .i64 0, .string ⟨#[97]⟩] 49)).alloc (.cells #[.slice none 0 0, .slice (some ⟨W4.heap.size, 0, none⟩) 1 1] 24)).heap.size = W4.heap.size + 2 by simp)
 have HB5 := Lib.hid (show Below W4.heap.size W4 ((W4.alloc (.cells #[.int .i64 1, .int .i64 1, .int .i64 1, .int .i64 1, .int .i64 0, .string ⟨#[97]⟩, .slice none 0 0, .int .i64 1, .int .i64 1, .int .i64 0, .int .i64 1, .int .i64 0, .int .i64 0, .string ⟨#[97]⟩] 49)).alloc (.cells #[.slice none 0 0, .slice (some ⟨W4.heap.size, 0, none⟩) 1 1] 24)) from ((Below.refl _ W4).alloc (Nat.le_refl _) _).alloc (by simp) _)
 go_wp2_with fail
 refine HCT.out.mono ?_
 rintro e w6 ⟨vq, rfl, ho, hb1⟩
 replace ho : w6.ownsRow ((W4.alloc (.cells #[.int .i64 1, .int .i64 1, .int .i64 1, .int .i64 1, .int .i64 0, .string ⟨#[97]⟩, .slice none 0 0, .int .i64 1, .int .i64 1, .int .i64 0, .int .i64 1, .int .i64 0, .int .i64 0, .string ⟨#[97]⟩] 49)).alloc (.cells #[.slice none 0 0, .slice (some ⟨W4.heap.size, 0, none⟩) 1 1] 24)).heap.size 49 14 vq 1 (nCells [exE]) := ho
 replace hb1 := HB5.out.trans (hb1.mono (by rw [HS5.out]; omega))
 have hcq := CapOk.of_own ho
 obtain ⟨a1, k1, hvq, -⟩ := (RowR.of_own ho).2
 subst hvq
 have HCQ := Lib.hid hcq
 have HO6 := Lib.hid (show w6.ownsRow (w.heap.size + 3) 49 14 (.slice a1 1 k1) 1 (nCells [exE]) from own_lower ho (by have := (Array.getElem?_eq_some_iff.1 HZ4.out).1; rw [HS5.out]; omega))
 clear hcq ho HCT HS5 HB5
 have HA6 := Lib.hid (row_keep hb1 HA4.out); have HE6 := Lib.hid (row_keep hb1 HE4.out); have HZ6 := Lib.hid (row_keep hb1 HZ4.out); have HB6 := Lib.hid (HB4.out.trans (hb1.mono HB4.out.size)); clear hb1 d0 d1 d2 d3 d4 ef0 ef1 ef2 ef3 ef4 n0 n1 n2 n3 n4 n5 n6 n7 n8 n9 n10 n11 n12 n13; obtain ⟨⟨d0, d1, d2, d3, d4⟩, -⟩ := row5 HA6.out; have ef0 := box_frozen HA6.out 0; have ef1 := box_frozen HA6.out 1; have ef2 := box_frozen HA6.out 2; have ef3 := box_frozen HA6.out 3; have ef4 := box_frozen HA6.out 4; obtain ⟨⟨n0, n1, n2, n3, n4, n5, n6⟩, n7, n8, n9, n10, n11, n12, n13⟩ := row14 HE6.out
 go_upto_region 13 with (fail)
 have hA8 : (w6.setCell ⟨w.heap.size, 4, none⟩ (.slice a1 1 k1)).heap[w.heap.size]? = some (.cells #[.slice none 0 0, .slice none 0 0, .int .i64 0, .int .i64 1, .slice a1 1 k1] 33 (0, 0)) := box_set HA6.out 4 (.slice a1 1 k1)
 have hZ8 : (w6.setCell ⟨w.heap.size, 4, none⟩ (.slice a1 1 k1)).heap[w.heap.size + 1 + 1]? = some (.cells #[.slice none 0 0, .slice none 0 0, .int .i64 0, .int .i64 0, .slice none 0 0] 33 (0, 0)) := (box_other (by omega) 4 (.slice a1 1 k1)).trans HZ6.out
 have hB8 : Below w.heap.size w (w6.setCell ⟨w.heap.size, 4, none⟩ (.slice a1 1 k1)) := HB6.out.setCell (p := ⟨w.heap.size, 4, none⟩) (Nat.le_refl _) _
 have hO8 := own_set HO6.out w.heap.size 4 (.slice a1 1 k1) (by omega)
 generalize w6.setCell ⟨w.heap.size, 4, none⟩ (.slice a1 1 k1) = w8 at hA8 hZ8 hB8 hO8 ⊢
 have HA8 := Lib.hid hA8
 have HZ8 := Lib.hid hZ8
 have HB8 := Lib.hid hB8
 have HO8 := Lib.hid hO8
 have HMY := Lib.hid (show Calls Tryz.prog 16 #[.agg #[.slice none 0 0, .slice none 0 0, .int .i64 0, .int .i64 1, .slice a1 1 k1]] w8 fun e w' => e = .returned (.bool true) ∧ Below w8.heap.size w8 w' from by
  have h := hmay_any (.slice none 0 0) (.slice none 0 0) (.slice a1 1 k1) 0 1 ⟨[], [], 0, 1, [exE]⟩ w8 (exE_hist w8 _ _ HO8.out) (exE_fit w8 _ (hT.below HB8.out) HCQ.out) rfl rfl
  rw [exE_may] at h
  exact h)
 clear hA8 hZ8 hB8 hO8 d0 d1 d2 d3 d4 ef0 ef1 ef2 ef3 ef4 n0 n1 n2 n3 n4 n5 n6 n7 n8 n9 n10 n11 n12 n13 HO6
 obtain ⟨⟨d0, d1, d2, d3, d4⟩, -⟩ := row5 HA8.out
 go_wp2_with fail
 refine HMY.out.mono ?_
 rintro e w9 ⟨rfl, hb1⟩
 have HA9 := Lib.hid (row_keep hb1 HA8.out)
 have HZ9 := Lib.hid (row_keep hb1 HZ8.out)
 have HB9 := Lib.hid (HB8.out.trans (hb1.mono HB8.out.size))
 have HO9 := Lib.hid (own_up HO8.out hb1)
 have HOW := Lib.hid (show Calls Tryz.prog 31 #[.agg #[.slice none 0 0, .slice none 0 0, .int .i64 0, .int .i64 1, .slice a1 1 k1]] w9 (OwnHistPost ⟨[], [], 0, 1, [exE]⟩ 0 1 w9) from ownHist_any (.slice none 0 0) (.slice none 0 0) (.slice a1 1 k1) 0 1 ⟨[], [], 0, 1, [exE]⟩ w9 (exE_hist w9 _ _ HO9.out) (fun x hx => by rw [List.mem_singleton.1 hx]; exact ⟨by decide, Nat.zero_le _, by decide⟩) (by decide) (by decide) (by decide))
 clear hb1 d0 d1 d2 d3 d4 HMY
 obtain ⟨⟨d0, d1, d2, d3, d4⟩, -⟩ := row5 HA9.out
 go_wp2_with fail
 refine HOW.out.mono ?_
 rintro e wa ⟨b9, v9, l9, rs, rfl, hRr, hrs, hb1⟩
 obtain ⟨q1, q2, hb9, -, -⟩ := hRr.base.shape
 obtain ⟨q3, q4, hv9, -⟩ := id hRr.vec
 obtain ⟨q5, q6, hl9⟩ := hRr.list.shape
 have hlen : rs.length = 1 := by have := congrArg List.length hrs; simpa using this
 dsimp only at hb9 hv9 hl9
 rw [hlen] at hl9
 subst hb9 hv9 hl9
 have HZA := Lib.hid (row_keep hb1 HZ9.out)
 have HBA := Lib.hid (HB9.out.trans (hb1.mono HB9.out.size))
 clear hb1 d0 d1 d2 d3 d4 hRr hrs hlen HOW
 obtain ⟨⟨z0, z1, z2, z3, z4⟩, -⟩ := row5 HZA.out; have zf0 := box_frozen HZA.out 0; have zf1 := box_frozen HZA.out 1; have zf2 := box_frozen HZA.out 2; have zf3 := box_frozen HZA.out 3; have zf4 := box_frozen HZA.out 4
 unfold hiV
 go_wp2
 have hZf : ((((((wa).setCell ⟨w.heap.size + 1 + 1, 0, none⟩ (.slice q1 0 q2)).setCell ⟨w.heap.size + 1 + 1, 1, none⟩ (.slice q3 0 q4)).setCell ⟨w.heap.size + 1 + 1, 2, none⟩ (.int .i64 0)).setCell ⟨w.heap.size + 1 + 1, 3, none⟩ (.int .i64 1)).setCell ⟨w.heap.size + 1 + 1, 4, none⟩ (.slice q5 1 q6)).heap[w.heap.size + 1 + 1]? = some (.cells #[.slice q1 0 q2, .slice q3 0 q4, .int .i64 0, .int .i64 1, .slice q5 1 q6] 33 (0, 0)) := box_set (box_set (box_set (box_set (box_set (HZA.out) 0 (.slice q1 0 q2)) 1 (.slice q3 0 q4)) 2 (.int .i64 0)) 3 (.int .i64 1)) 4 (.slice q5 1 q6)
 have hBf : Below w.heap.size w ((((((wa).setCell ⟨w.heap.size + 1 + 1, 0, none⟩ (.slice q1 0 q2)).setCell ⟨w.heap.size + 1 + 1, 1, none⟩ (.slice q3 0 q4)).setCell ⟨w.heap.size + 1 + 1, 2, none⟩ (.int .i64 0)).setCell ⟨w.heap.size + 1 + 1, 3, none⟩ (.int .i64 1)).setCell ⟨w.heap.size + 1 + 1, 4, none⟩ (.slice q5 1 q6)) := (((((HBA.out).setCell (p := ⟨w.heap.size + 1 + 1, 0, none⟩) (by show w.heap.size ≤ w.heap.size + 1 + 1; omega) (.slice q1 0 q2)).setCell (p := ⟨w.heap.size + 1 + 1, 1, none⟩) (by show w.heap.size ≤ w.heap.size + 1 + 1; omega) (.slice q3 0 q4)).setCell (p := ⟨w.heap.size + 1 + 1, 2, none⟩) (by show w.heap.size ≤ w.heap.size + 1 + 1; omega) (.int .i64 0)).setCell (p := ⟨w.heap.size + 1 + 1, 3, none⟩) (by show w.heap.size ≤ w.heap.size + 1 + 1; omega) (.int .i64 1)).setCell (p := ⟨w.heap.size + 1 + 1, 4, none⟩) (by show w.heap.size ≤ w.heap.size + 1 + 1; omega) (.slice q5 1 q6)
 exact bodyPost_ret (hist_result2 (fn := Tryz.f12) (p := 4) (u := 5) rfl _ _ (w.heap.size + 1 + 1) (.int .i64 0) _ rfl rfl hZf rfl) rfl ⟨⟨_, _, _, _, _, _, rfl⟩, hBf⟩
end Go.Proofs.YthekkjfaaedamaaGreatDoor

namespace Go.Proofs.YthekkjfaaedamaaGreatDoor
open Go.RowKit

set_option maxRecDepth 100000 in
set_option maxHeartbeats 8000000 in
theorem pass_zero (w : World) (hT : TabW w) : Calls Tryz.prog 14 #[.agg #[.slice none 0 0, .slice none 0 0, .int .i64 0, .int .i64 0, .slice none 0 0]] w fun e w' => (∃ q1 q2 q3 q4 q5 q6, e = .returned (.tuple #[.agg #[.slice q1 0 q2, .slice q3 0 q4, .int .i64 0, .int .i64 1, .slice q5 0 q6], .int .i64 0])) ∧ Below w.heap.size w w' := by
 have HM0 := Lib.hid (fun W (z : Below w.heap.size w W) => may_zero 0 W (hT.below z) (by decide))
 have hA := hrow_al (heap_alloc_new w (.cells #[.slice none 0 0, .slice none 0 0, .int .i64 0, .int .i64 0, .slice none 0 0] 33)) (.cells #[.slice none 0 0, .slice none 0 0, .int .i64 0, .int .i64 0, .slice none 0 0] 33)
 have hZ : ((w.alloc (.cells #[.slice none 0 0, .slice none 0 0, .int .i64 0, .int .i64 0, .slice none 0 0] 33)).alloc (.cells #[.slice none 0 0, .slice none 0 0, .int .i64 0, .int .i64 0, .slice none 0 0] 33)).heap[w.heap.size + 1]? = some (.cells #[.slice none 0 0, .slice none 0 0, .int .i64 0, .int .i64 0, .slice none 0 0] 33 (0, 0)) := by
  have h := heap_alloc_new (w.alloc (.cells #[.slice none 0 0, .slice none 0 0, .int .i64 0, .int .i64 0, .slice none 0 0] 33)) (.cells #[.slice none 0 0, .slice none 0 0, .int .i64 0, .int .i64 0, .slice none 0 0] 33)
  rwa [show (w.alloc (.cells #[.slice none 0 0, .slice none 0 0, .int .i64 0, .int .i64 0, .slice none 0 0] 33)).heap.size = w.heap.size + 1 by simp] at h
 have hB : Below w.heap.size w ((w.alloc (.cells #[.slice none 0 0, .slice none 0 0, .int .i64 0, .int .i64 0, .slice none 0 0] 33)).alloc (.cells #[.slice none 0 0, .slice none 0 0, .int .i64 0, .int .i64 0, .slice none 0 0] 33)) := ((Below.refl _ w).alloc (Nat.le_refl _) _).alloc (by simp) _
 have HA0 := Lib.hid hA
 have HZ0 := Lib.hid hZ
 have HB0 := Lib.hid hB
 clear hA hZ hB
 obtain ⟨⟨d0, d1, d2, d3, d4⟩, -⟩ := row5 HA0.out
 unfold hiV at HM0
 go_enter Tryz.func14, Tryz.ntmps14
 go_wp2_with fail
 refine (HM0.out _ HB0.out).mono ?_
 rintro e w1 ⟨rfl, hb1⟩
 have HA1 := Lib.hid (row_keep hb1 HA0.out)
 have HZ1 := Lib.hid (row_keep hb1 HZ0.out)
 have HB1 := Lib.hid (HB0.out.trans (hb1.mono HB0.out.size))
 clear hb1 d0 d1 d2 d3 d4
 obtain ⟨⟨d0, d1, d2, d3, d4⟩, -⟩ := row5 HA1.out
 have ef0 := box_frozen HA1.out 0; have ef1 := box_frozen HA1.out 1; have ef2 := box_frozen HA1.out 2; have ef3 := box_frozen HA1.out 3; have ef4 := box_frozen HA1.out 4
 go_upto_region 6 with (fail)
 have hA2 : (w1.setCell ⟨w.heap.size, 3, none⟩ (.int .i64 1)).heap[w.heap.size]? = some (.cells #[.slice none 0 0, .slice none 0 0, .int .i64 0, .int .i64 1, .slice none 0 0] 33 (0, 0)) := box_set HA1.out 3 (.int .i64 1)
 have hZ2 : (w1.setCell ⟨w.heap.size, 3, none⟩ (.int .i64 1)).heap[w.heap.size + 1]? = some (.cells #[.slice none 0 0, .slice none 0 0, .int .i64 0, .int .i64 0, .slice none 0 0] 33 (0, 0)) := (box_other (by omega) 3 (.int .i64 1)).trans HZ1.out
 have hB2 : Below w.heap.size w (w1.setCell ⟨w.heap.size, 3, none⟩ (.int .i64 1)) := HB1.out.setCell (p := ⟨w.heap.size, 3, none⟩) (Nat.le_refl _) _
 generalize w1.setCell ⟨w.heap.size, 3, none⟩ (.int .i64 1) = w2 at hA2 hZ2 hB2 ⊢
 have HA2 := Lib.hid hA2
 have HZ2 := Lib.hid hZ2
 have HB2 := Lib.hid hB2
 have HOW := Lib.hid (show Calls Tryz.prog 31 #[.agg #[.slice none 0 0, .slice none 0 0, .int .i64 0, .int .i64 1, .slice none 0 0]] w2 (OwnHistPost ⟨[], [], 0, 1, []⟩ 0 1 w2) from ownHist_any (.slice none 0 0) (.slice none 0 0) (.slice none 0 0) 0 1 ⟨[], [], 0, 1, []⟩ w2 ⟨CAt.nil _, Reads64.nil _, EntsR.nilAny _ none 0⟩ (fun x hx => by cases hx) (by decide) (by decide) (by decide))
 clear hA2 hZ2 hB2 d0 d1 d2 d3 d4 ef0 ef1 ef2 ef3 ef4
 obtain ⟨⟨d0, d1, d2, d3, d4⟩, -⟩ := row5 HA2.out
 go_wp2_with fail
 refine HOW.out.mono ?_
 rintro e wa ⟨b9, v9, l9, rs, rfl, hRr, hrs, hb1⟩
 obtain ⟨q1, q2, hb9, -, -⟩ := hRr.base.shape
 obtain ⟨q3, q4, hv9, -⟩ := id hRr.vec
 obtain ⟨q5, q6, hl9⟩ := hRr.list.shape
 have hlen : rs.length = 0 := by have := congrArg List.length hrs; simpa using this
 dsimp only at hb9 hv9 hl9
 rw [hlen] at hl9
 subst hb9 hv9 hl9
 have HZA := Lib.hid (row_keep hb1 HZ2.out)
 have HBA := Lib.hid (HB2.out.trans (hb1.mono HB2.out.size))
 clear hb1 d0 d1 d2 d3 d4 hRr hrs hlen HOW
 obtain ⟨⟨z0, z1, z2, z3, z4⟩, -⟩ := row5 HZA.out; have zf0 := box_frozen HZA.out 0; have zf1 := box_frozen HZA.out 1; have zf2 := box_frozen HZA.out 2; have zf3 := box_frozen HZA.out 3; have zf4 := box_frozen HZA.out 4
 unfold hiV
 go_wp2
 have hZf : ((((((wa).setCell ⟨w.heap.size + 1, 0, none⟩ (.slice q1 0 q2)).setCell ⟨w.heap.size + 1, 1, none⟩ (.slice q3 0 q4)).setCell ⟨w.heap.size + 1, 2, none⟩ (.int .i64 0)).setCell ⟨w.heap.size + 1, 3, none⟩ (.int .i64 1)).setCell ⟨w.heap.size + 1, 4, none⟩ (.slice q5 0 q6)).heap[w.heap.size + 1]? = some (.cells #[.slice q1 0 q2, .slice q3 0 q4, .int .i64 0, .int .i64 1, .slice q5 0 q6] 33 (0, 0)) := box_set (box_set (box_set (box_set (box_set (HZA.out) 0 (.slice q1 0 q2)) 1 (.slice q3 0 q4)) 2 (.int .i64 0)) 3 (.int .i64 1)) 4 (.slice q5 0 q6)
 have hBf : Below w.heap.size w ((((((wa).setCell ⟨w.heap.size + 1, 0, none⟩ (.slice q1 0 q2)).setCell ⟨w.heap.size + 1, 1, none⟩ (.slice q3 0 q4)).setCell ⟨w.heap.size + 1, 2, none⟩ (.int .i64 0)).setCell ⟨w.heap.size + 1, 3, none⟩ (.int .i64 1)).setCell ⟨w.heap.size + 1, 4, none⟩ (.slice q5 0 q6)) := (((((HBA.out).setCell (p := ⟨w.heap.size + 1, 0, none⟩) (by show w.heap.size ≤ w.heap.size + 1; omega) (.slice q1 0 q2)).setCell (p := ⟨w.heap.size + 1, 1, none⟩) (by show w.heap.size ≤ w.heap.size + 1; omega) (.slice q3 0 q4)).setCell (p := ⟨w.heap.size + 1, 2, none⟩) (by show w.heap.size ≤ w.heap.size + 1; omega) (.int .i64 0)).setCell (p := ⟨w.heap.size + 1, 3, none⟩) (by show w.heap.size ≤ w.heap.size + 1; omega) (.int .i64 1)).setCell (p := ⟨w.heap.size + 1, 4, none⟩) (by show w.heap.size ≤ w.heap.size + 1; omega) (.slice q5 0 q6)
 exact bodyPost_ret (hist_result2 (fn := Tryz.f14) (p := 2) (u := 3) rfl _ _ (w.heap.size + 1) (.int .i64 0) _ rfl rfl hZf rfl) rfl ⟨⟨_, _, _, _, _, _, rfl⟩, hBf⟩
end Go.Proofs.YthekkjfaaedamaaGreatDoor

namespace Go.Proofs.YthekkjfaaedamaaGreatDoor
open Go.RowKit

set_option maxRecDepth 100000 in
set_option maxHeartbeats 4000000 in
theorem entry_any (n : Int) (w : World) : Calls Tryz.prog 13 #[.int .i64 n] w fun e w' => e = .returned (.agg #[.int .i64 1, .int .i64 1, .int .i64 n, .int .i64 1, .int .i64 0, .string ⟨#[97]⟩, .slice none 0 0, .int .i64 1, .int .i64 1, .int .i64 0, .int .i64 1, .int .i64 0, .int .i64 0, .string ⟨#[97]⟩]) ∧ Below w.heap.size w w' := by
 go_enter Tryz.func13, Tryz.ntmps13
 have HB := Lib.hid (((Below.refl w.heap.size w).alloc (Nat.le_refl _) (.cells #[.int .i64 0, .int .i64 0, .int .i64 0, .int .i64 0, .int .i64 0, .string ⟨#[]⟩, .slice none 0 0, .int .i64 0, .int .i64 0, .int .i64 0, .int .i64 0, .int .i64 0, .int .i64 0, .string ⟨#[]⟩] 49)).alloc (by simp) (.cells #[.int .i64 1, .int .i64 1] 42))
 have hE := hrow_al (heap_alloc_new w (.cells #[.int .i64 0, .int .i64 0, .int .i64 0, .int .i64 0, .int .i64 0, .string ⟨#[]⟩, .slice none 0 0, .int .i64 0, .int .i64 0, .int .i64 0, .int .i64 0, .int .i64 0, .int .i64 0, .string ⟨#[]⟩] 49)) (.cells #[.int .i64 1, .int .i64 1] 42)
 have hN : ((w.alloc (.cells #[.int .i64 0, .int .i64 0, .int .i64 0, .int .i64 0, .int .i64 0, .string ⟨#[]⟩, .slice none 0 0, .int .i64 0, .int .i64 0, .int .i64 0, .int .i64 0, .int .i64 0, .int .i64 0, .string ⟨#[]⟩] 49)).alloc (.cells #[.int .i64 1, .int .i64 1] 42)).heap[w.heap.size + 1]? = some (.cells #[.int .i64 1, .int .i64 1] 42 (0, 0)) := by
  have h := heap_alloc_new (w.alloc (.cells #[.int .i64 0, .int .i64 0, .int .i64 0, .int .i64 0, .int .i64 0, .string ⟨#[]⟩, .slice none 0 0, .int .i64 0, .int .i64 0, .int .i64 0, .int .i64 0, .int .i64 0, .int .i64 0, .string ⟨#[]⟩] 49)) (.cells #[.int .i64 1, .int .i64 1] 42)
  rwa [show (w.alloc (.cells #[.int .i64 0, .int .i64 0, .int .i64 0, .int .i64 0, .int .i64 0, .string ⟨#[]⟩, .slice none 0 0, .int .i64 0, .int .i64 0, .int .i64 0, .int .i64 0, .int .i64 0, .int .i64 0, .string ⟨#[]⟩] 49)).heap.size = w.heap.size + 1 by simp] at h
 have HE := Lib.hid hE
 have HN := Lib.hid hN
 clear hE hN
 go_upto_region 2 with (fail)
 generalize (w.alloc (.cells #[.int .i64 0, .int .i64 0, .int .i64 0, .int .i64 0, .int .i64 0, .string ⟨#[]⟩, .slice none 0 0, .int .i64 0, .int .i64 0, .int .i64 0, .int .i64 0, .int .i64 0, .int .i64 0, .string ⟨#[]⟩] 49)).alloc (.cells #[.int .i64 1, .int .i64 1] 42) = W2 at HE HN HB ⊢
 obtain ⟨zs, hzs⟩ : ∃ zs : Array Value, (#[.int .i64 0, .int .i64 0, .int .i64 0, .int .i64 0, .int .i64 0, .string ⟨#[]⟩, .slice none 0 0, .int .i64 0, .int .i64 0, .int .i64 0, .int .i64 0, .int .i64 0, .int .i64 0, .string ⟨#[]⟩] : Array Value) = zs := ⟨_, rfl⟩
 have hzz : zs.size = 14 := by rw [← hzs]; rfl
 rw [hzs] at HE
 have nm0 := cell_of_row _ _ 0 _ _ _ HN.out
 have nm1 := cell_of_row _ _ 1 _ _ _ HN.out
 replace nm0 : W2.cell? ⟨w.heap.size + 1, 0, none⟩ = some (.int .i64 1) := nm0
 replace nm1 : W2.cell? ⟨w.heap.size + 1, 1, none⟩ = some (.int .i64 1) := nm1
 have h1c : (#[.int .i64 1, .int .i64 1, .int .i64 n, .int .i64 1, .int .i64 0, .string ⟨#[97]⟩, .slice none 0 0, .int .i64 1, .int .i64 1, .int .i64 0, .int .i64 1, .int .i64 0, .int .i64 0, .string ⟨#[97]⟩] : Array Value).all (·.oneCell') = true := by simp [Value.oneCell']
 have HS := Lib.hid (fun (op : Oper) (ops : Array Oper) (rest : List Oper) (Q : Exit → Act → World → Prop) (a : Act) (h1 : op.guard = none) (h2 : op.op = .store 49 (.tmp 2) (.tmp 10)) (h3 : a.eval (.tmp 2) = .pointer (some ⟨w.heap.size, 0, none⟩)) (h4 : a.eval (.tmp 10) = .agg #[.int .i64 1, .int .i64 1, .int .i64 n, .int .i64 1, .int .i64 0, .string ⟨#[97]⟩, .slice none 0 0, .int .i64 1, .int .i64 1, .int .i64 0, .int .i64 1, .int .i64 0, .int .i64 0, .string ⟨#[97]⟩]) (h5 : wpList Tryz.prog ops Q rest (a.put op.dst undef) (W2.setRow w.heap.size #[.int .i64 1, .int .i64 1, .int .i64 n, .int .i64 1, .int .i64 0, .string ⟨#[97]⟩, .slice none 0 0, .int .i64 1, .int .i64 1, .int .i64 0, .int .i64 1, .int .i64 0, .int .i64 0, .string ⟨#[97]⟩])) => (show wpList Tryz.prog ops Q (op :: rest) a W2 from wpList_store_row h1 49 _ _ h2 w.heap.size _ h3 h4 49 zs HE.out infoEnA hzz h1c h5))
 have HZF := Lib.hid (setRow_heap W2 w.heap.size zs #[.int .i64 1, .int .i64 1, .int .i64 n, .int .i64 1, .int .i64 0, .string ⟨#[97]⟩, .slice none 0 0, .int .i64 1, .int .i64 1, .int .i64 0, .int .i64 1, .int .i64 0, .int .i64 0, .string ⟨#[97]⟩] 49 (0, 0) HE.out)
 have HBF := Lib.hid (below_setRow HB.out (Nat.le_refl _) #[.int .i64 1, .int .i64 1, .int .i64 n, .int .i64 1, .int .i64 0, .string ⟨#[97]⟩, .slice none 0 0, .int .i64 1, .int .i64 1, .int .i64 0, .int .i64 1, .int .i64 0, .int .i64 0, .string ⟨#[97]⟩])
 clear hzs hzz h1c HE
 go_wp2_with (refine HS.out _ _ _ _ _ rfl rfl rfl rfl ?_)
 exact bodyPost_ret (entry_result1 (fn := Tryz.f13) (p := 2) rfl _ _ w.heap.size _ rfl HZF.out rfl) rfl ⟨rfl, HBF.out⟩
set_option maxRecDepth 100000 in
set_option maxHeartbeats 8000000 in
theorem halive_any (w : World) (hT : TabW w) : Calls Tryz.prog 4 #[] w fun e w' => e = .returned (.bool true) ∧ Below w.heap.size w w' := by
 have HA1 := Lib.hid (fun W (z : Below w.heap.size w W) => add_one W (hT.below z))
 have HA2 := Lib.hid (fun W (z : Below w.heap.size w W) => add_two W (hT.below z))
 have HPS := Lib.hid (fun W (z : Below w.heap.size w W) => pass_zero W (hT.below z))
 go_enter Tryz.func4, Tryz.ntmps4
 go_wp2_with fail
 refine (entry_any 1 w).mono ?_
 rintro e w1 ⟨rfl, hb1⟩
 have HB1 := Lib.hid hb1
 clear hb1
 go_wp2_with fail
 refine (HA1.out _ HB1.out).mono ?_
 rintro e w2 ⟨⟨q1, q2, q3, q4, a, k, rfl⟩, hb2⟩
 have HB2 := Lib.hid (HB1.out.trans (hb2.mono HB1.out.size))
 clear hb2
 go_wp2_with fail
 refine (entry_any 2 _).mono ?_
 rintro e w3 ⟨rfl, hb3⟩
 have HB3 := Lib.hid ((HB2.out.alloc HB2.out.size (.cells #[.slice q1 0 q2, .slice q3 0 q4, .int .i64 0, .int .i64 1, .slice a 1 k] 33)).trans (hb3.mono (by have := HB2.out.size; simp; omega)))
 have HX3 := Lib.hid (row_keep hb3 (heap_alloc_new w2 (.cells #[.slice q1 0 q2, .slice q3 0 q4, .int .i64 0, .int .i64 1, .slice a 1 k] 33)))
 clear hb3
 go_wp2_with fail
 refine (HA2.out _ HB3.out).mono ?_
 rintro e w4 ⟨rfl, hb4⟩
 have HB4 := Lib.hid (HB3.out.trans (hb4.mono HB3.out.size))
 have HX4 := Lib.hid (row_keep hb4 HX3.out)
 clear hb4
 go_wp2_with fail
 refine (HPS.out _ (HB4.out.alloc HB4.out.size _)).mono ?_
 rintro e w5 ⟨⟨p1, p2, p3, p4, p5, p6, rfl⟩, hb5⟩
 have HB5 := Lib.hid ((HB4.out.alloc HB4.out.size (.cells #[.slice none 0 0, .slice none 0 0, .int .i64 0, .int .i64 0, .slice none 0 0] 33)).trans (hb5.mono (by have := HB4.out.size; simp; omega)))
 have HX5 := Lib.hid (row_keep hb5 (hrow_al HX4.out (.cells #[.slice none 0 0, .slice none 0 0, .int .i64 0, .int .i64 0, .slice none 0 0] 33)))
 clear hb5
 obtain ⟨⟨-, -, -, d3, d4⟩, -⟩ := row5 (hrow_al HX5.out (.cells #[.slice p1 0 p2, .slice p3 0 p4, .int .i64 0, .int .i64 1, .slice p5 0 p6] 33))
 obtain ⟨⟨-, -, -, e3, -⟩, -⟩ := row5 (heap_alloc_new w5 (.cells #[.slice p1 0 p2, .slice p3 0 p4, .int .i64 0, .int .i64 1, .slice p5 0 p6] 33))
 have HB6 := Lib.hid (HB5.out.alloc HB5.out.size (.cells #[.slice p1 0 p2, .slice p3 0 p4, .int .i64 0, .int .i64 1, .slice p5 0 p6] 33))
 go_wp2
 go_ret
 exact ⟨rfl, HB6.out⟩
end Go.Proofs.YthekkjfaaedamaaGreatDoor

namespace Go.Proofs.YthekkjfaaedamaaGreatDoor
open Go.RowKit

theorem doc_low {W W' : World} {p : Value} {L : List PCell} {n : Nat} (q : ∃ S, DocD W p L S ∧ ∀ b, S b → n ≤ b) (hb : Below W.heap.size W W') : ∃ S, DocD W' p L S ∧ ∀ b, S b → n ≤ b := by
 obtain ⟨S, q1, q2⟩ := q
 exact ⟨S, q1.keep (fun b h => hb.block b (q1.low b h)), q2⟩
theorem run_of_may {h : RHist} (hm : mayH h.hist = true) : ∃ m, runO (h.list.map fun x => x.op.op) h.base.length = some m := by
 obtain ⟨-, -, -, -, -, -, h7, -⟩ := may_parts8 hm
 unfold c7H at h7
 obtain ⟨m, hr⟩ := Option.isSome_iff_exists.1 h7
 unfold lRun at hr
 split at hr
 ·rw [opsR_ops] at hr
  exact ⟨m, hr⟩
 ·cases hr
set_option maxRecDepth 100000 in
set_option maxHeartbeats 16000000 in
theorem lawHistReplays_any (b v u : Value) (fr num k : Int) (h : RHist) (w : World) (hT : TabW w) (hR : HistR w b v u h) (hc : CapOk u) (hw : CWf h.base) (hn : ∀ x ∈ h.list, NWf x.op.site x.op.seq x.op.num x.op.kind x.op.pl ∧ sWf x.op.xs) (hfr : fr = h.fr) (hnum : num = h.num) :
  Calls Tryz.prog 3 #[hiV b v fr num u, .int .i64 k] w fun e w' => e = .returned (.bool true) ∧ Below w.heap.size w w' := by
 have HAL := Lib.hid (fun W (z : Below w.heap.size w W) => halive_any W (hT.below z))
 have HGR := Lib.hid (fun W (z : Below w.heap.size w W) => hGreat_any b v u fr num h W (hR.below z))
 have HNO := Lib.hid (fun (W : World) (z : Below w.heap.size w W) (F : HFit w u h) (m : mayH h.hist = false) => replay_no b v u fr num k h W (hR.below z) (F.below z) hfr hnum m)
 have HYS := Lib.hid (fun (W : World) (z : Below w.heap.size w W) (F : ReplayFit w u h) (m : mayH h.hist = true) => replay_yes b v u fr num k h W (hR.below z) ⟨F.fit.below z, F.tab.below z, F.nw, F.few⟩ hfr hnum m)
 have HMR := Lib.hid (fun (W : World) (z : Below w.heap.size w W) (F : h.Fit) => rHMay_any b v u fr num h W (hR.below z) F hfr hnum)
 have HRP := Lib.hid (fun (W : World) (z : Below w.heap.size w W) (i : Nat) (h1 : h.list.length ≤ 1000000) (h2 : i ≤ h.list.length) (h3 : ∀ x ∈ h.list, x.op.text.size ≤ 1000000 ∧ x.op.xs.length ≤ 1000000) (m : mayH h.hist = true) => rReplay_any b v u fr num h i W (hR.below z) h1 h2 h3 (run_of_may m).choose_spec)
 have HFT := Lib.hid (fun (hg : hGreat h = false) => (show ReplayFit w u h ∧ h.Fit from by
  obtain ⟨g1, g2, g3, g4⟩ := hGreat_no hg
  have fz : ∀ x ∈ h.list, x.op.Fit w := fun x hx => ⟨⟨(hn x hx).1.s, (hn x hx).1.q⟩, (hn x hx).2, by have := g4 x hx; omega, (g4 x hx).2.1, LenAt.tabs hT (by have := g4 x hx; unfold maxLen; omega)⟩
  refine ⟨⟨⟨by omega, by omega, by omega, hc, hw, fz, fun x hx => LenAt.tabs hT (by have := g4 x hx; unfold maxLen; omega)⟩, hT, fun x hx => (hn x hx).1, fun x hx => by have := g4 x hx; omega⟩, ⟨by omega, by omega, by omega, fun c hc => (hw c hc).1, fun x hx => ⟨(hn x hx).1.s, (hn x hx).1.q⟩, fun x hx => ⟨by have := g4 x hx; omega, by have := g4 x hx; omega, (hn x hx).1.a⟩, fun x hx => by have := g4 x hx; omega⟩⟩))
 have HLN := Lib.hid (fun (hg : hGreat h = false) => hGreat_no hg)
 obtain ⟨bo, bc, hb0, -, -⟩ := hR.base.shape
 obtain ⟨vo, vc, hv0, -⟩ := id hR.vec
 obtain ⟨ao, cap, hu0⟩ := hR.list.shape
 obtain ⟨M, hM⟩ : ∃ M, h.base.length = M := ⟨_, rfl⟩
 obtain ⟨V, hV⟩ : ∃ V, h.vec.length = V := ⟨_, rfl⟩
 obtain ⟨N, hN⟩ : ∃ N, h.list.length = N := ⟨_, rfl⟩
 rw [hM] at hb0
 rw [hV] at hv0
 rw [hN] at hu0
 have HN := Lib.hid hN
 subst hb0 hv0 hu0
 obtain ⟨g, hg⟩ : ∃ g, hGreat h = g := ⟨_, rfl⟩
 have hgr := HGR.out
 simp only [hg] at hgr
 replace HGR := Lib.hid hgr
 have HG := Lib.hid hg
 have HX := Lib.hid (heap_alloc_new w (.cells #[.slice bo M bc, .slice vo V vc, .int .i64 fr, .int .i64 num, .slice ao N cap] 26))
 have HB := Lib.hid ((Below.refl w.heap.size w).alloc (Nat.le_refl _) (.cells #[.slice bo M bc, .slice vo V vc, .int .i64 fr, .int .i64 num, .slice ao N cap] 26))
 clear hgr hg hM hV hN hR hc hw hn hfr hnum hT
 unfold hiV at HGR HNO HYS HMR HRP ⊢
 have HOF := Lib.hid (fun W => of_any bo vo ao M V N bc vc cap fr num W)
 obtain ⟨⟨d0, d1, d2, d3, d4⟩, -⟩ := row5 HX.out
 go_enter Tryz.func3, Tryz.ntmps3
 go_wp2_with fail
 refine (HAL.out _ HB.out).mono ?_
 rintro e w1 ⟨rfl, hb1⟩
 have HB1S := Lib.hid hb1.size
 have HX1 := Lib.hid (row_keep hb1 HX.out)
 have HB1 := Lib.hid (HB.out.trans (hb1.mono HB.out.size))
 clear hb1 d0 d1 d2 d3 d4
 obtain ⟨⟨d0, d1, d2, d3, d4⟩, -⟩ := row5 HX1.out
 go_wp2_with fail
 refine (HGR.out _ HB1.out).mono ?_
 rintro e w2 ⟨rfl, hb1⟩
 have HB2S := Lib.hid hb1.size
 have HX2 := Lib.hid (row_keep hb1 HX1.out)
 have HB2 := Lib.hid (HB1.out.trans (hb1.mono HB1.out.size))
 clear hb1 d0 d1 d2 d3 d4
 obtain ⟨⟨d0, d1, d2, d3, d4⟩, -⟩ := row5 HX2.out
 cases g with
 | true =>
  go_wp2
  go_ret
  exact ⟨rfl, HB2.out⟩
 | false =>
 have HF := Lib.hid (HFT.out HG.out)
 have HLL := Lib.hid (HLN.out HG.out)
 clear HFT HLN
 go_wp2_with fail
 refine (HOF.out _).mono ?_
 rintro e w3 ⟨rfl, hb1⟩
 have HB3S := Lib.hid hb1.size
 have HX3 := Lib.hid (row_keep hb1 HX2.out)
 have HB3 := Lib.hid (HB2.out.trans (hb1.mono HB2.out.size))
 clear hb1 d0 d1 d2 d3 d4
 obtain ⟨⟨d0, d1, d2, d3, d4⟩, -⟩ := row5 HX3.out
 cases hm : mayH h.hist with
 | false =>
  have HR1 := Lib.hid (HNO.out w3 HB3.out HF.out.1.fit hm)
  have hmr : ∀ W, Below w.heap.size w W → Calls Tryz.prog 8 #[.agg #[.slice bo M bc, .slice vo V vc, .int .i64 fr, .int .i64 num, .slice ao N cap]] W (MayPost (mayH h.hist) W) := fun W z => HMR.out W z HF.out.2
  rw [hm] at hmr
  have HM1 := Lib.hid hmr
  clear hmr hm
  go_wp2_with fail
  refine HR1.out.mono ?_
  rintro e w4 ⟨rfl, hb1⟩
  have HX4 := Lib.hid (row_keep hb1 HX3.out)
  have HB4 := Lib.hid (HB3.out.trans (hb1.mono HB3.out.size))
  clear hb1 d0 d1 d2 d3 d4
  obtain ⟨⟨d0, d1, d2, d3, d4⟩, -⟩ := row5 HX4.out
  go_wp2_with fail
  refine (HM1.out _ HB4.out).mono ?_
  rintro e w5 ⟨rfl, hb1⟩
  have HB5 := Lib.hid (HB4.out.trans (hb1.mono HB4.out.size))
  clear hb1 d0 d1 d2 d3 d4
  go_wp2
  go_ret
  exact ⟨rfl, HB5.out⟩
 | true =>
  have hr1 := HYS.out w3 HB3.out HF.out.1 hm
  have hmr : ∀ W, Below w.heap.size w W → Calls Tryz.prog 8 #[.agg #[.slice bo M bc, .slice vo V vc, .int .i64 fr, .int .i64 num, .slice ao N cap]] W (MayPost (mayH h.hist) W) := fun W z => HMR.out W z HF.out.2
  rw [hm] at hmr
  have HM1 := Lib.hid hmr
  have HRQ := Lib.hid (fun (W : World) (z : Below w.heap.size w W) (i : Nat) (h2 : i ≤ h.list.length) => HRP.out W z i (by have := HLL.out; omega) h2 (fun x hx => by have := HLL.out.2.2.2 x hx; omega) hm)
  by_cases hk : 0 ≤ k ∧ k ≤ h.list.length
  ·replace hr1 := hr1.mono (fun e w' q => (show ∃ p S, e = .returned (.tuple #[p, .int .i64 0]) ∧ DocD w' p (replayC h.base ((opsR h.list).take k.toNat)) S ∧ (∀ b, S b → w3.heap.size ≤ b) ∧ Below w3.heap.size w3 w' from by unfold ReplayPost at q; rwa [if_pos ⟨hm, hk⟩] at q))
   obtain ⟨i, rfl⟩ : ∃ i : Nat, k = i := ⟨k.toNat, by omega⟩
   have hi : i ≤ h.list.length := by omega
   rw [Int.toNat_natCast] at hr1
   have HR1 := Lib.hid hr1
   have HRR := Lib.hid (fun W z => HRQ.out W z i hi)
   have hlen : (replayC h.base ((opsR h.list).take i)).length ≤ 1000000000 := by
    obtain ⟨m, hm2⟩ := run_of_may hm
    obtain ⟨p, hp⟩ := runO_some_take hm2 i
    have := replayC_length _ h.base p hp
    have hbm := HLL.out.1
    have := (runO_room _ _ _ (by omega) hp).2
    show (replayC h.base ((h.list.map fun x => x.op.op).take i)).length ≤ _
    omega
   have k0 : ¬ (i : Int) < 0 := by omega
   have k1 : ¬ (N : Int) < (i : Int) := by have := HN.out; omega
   obtain ⟨L, hL⟩ : ∃ L, replayC h.base ((opsR h.list).take i) = L := ⟨_, rfl⟩
   have hrr := HRR.out
   replace hrr : ∀ W, Below w.heap.size w W → Calls Tryz.prog 11 #[.agg #[.slice bo M bc, .slice vo V vc, .int .i64 fr, .int .i64 num, .slice ao N cap], .int .i64 (i : Int)] W (CellsAPost L W) := by rw [← hL]; exact hrr
   replace HRR := Lib.hid hrr
   rw [hL] at hlen HR1
   have HSM := Lib.hid (fun (x y : Value) W (h1 : CAt W x L) (h2 : CAt W y L) => cSame_any x y L L W h1 h2 hlen)
   rw [show decide (L = L) = true from decide_eq_true rfl] at HSM
   clear hr1 hmr hm hk hi hlen hrr hL HRQ
   go_wp2_with fail
   refine HR1.out.mono ?_
   rintro e w4 ⟨p, S, rfl, hD, hlow, hb1⟩
   obtain ⟨PB, hp⟩ := docD_ptr hD
   subst hp
   have HW4 := Lib.hid hb1
   have HX4 := Lib.hid (row_keep hb1 HX3.out)
   have HB4 := Lib.hid (HB3.out.trans (hb1.mono HB3.out.size))
   have HD4 := Lib.hid hD
   have HLOW := Lib.hid hlow
   clear hb1 d0 d1 d2 d3 d4 hD hlow
   obtain ⟨⟨d0, d1, d2, d3, d4⟩, -⟩ := row5 HX4.out
   go_wp2_with fail
   refine (HM1.out _ HB4.out).mono ?_
   rintro e w5 ⟨rfl, hb1⟩
   have HX5 := Lib.hid (row_keep hb1 HX4.out)
   have HB5 := Lib.hid (HB4.out.trans (hb1.mono HB4.out.size))
   have HW5 := Lib.hid hb1
   have HD5 := Lib.hid (HD4.out.keep fun b q => hb1.block b (HD4.out.low b q))
   clear hb1 d0 d1 d2 d3 d4
   obtain ⟨⟨d0, d1, d2, d3, d4⟩, -⟩ := row5 HX5.out
   have HCL := Lib.hid (fun W (z : Below w3.heap.size w3 W) (q : ∃ S, DocD W (.pointer (some ⟨PB, 0, none⟩)) L S ∧ ∀ b, S b → w3.heap.size ≤ b) => (show Calls Tryz.prog 10 #[.pointer (some ⟨PB, 0, none⟩)] W (fun e W' => ∃ cv, e = .returned cv ∧ CAt W' cv L ∧ (Below w3.heap.size W W' ∧ ∃ S, DocD W' (.pointer (some ⟨PB, 0, none⟩)) L S ∧ ∀ b, S b → w3.heap.size ≤ b)) from by
    obtain ⟨S0, q1, q2⟩ := q
    refine (dD_cells _ L S0 W q1).mono ?_
    rintro e W' ⟨cv, S', r1, ⟨r2, r3, r4⟩, r5, -⟩
    exact ⟨cv, r1, r5, r4.below z.size q2, S', r2, fun b hb => (r3 b hb).elim (q2 b) (fun g => Nat.le_trans z.size g)⟩))
   have HLT := Lib.hid (show w.heap.size < w3.heap.size from Nat.lt_of_lt_of_le (Array.getElem?_eq_some_iff.1 HX.out).1 (Nat.le_trans HB1S.out (Nat.le_trans HB2S.out HB3S.out)))
   have HBX := Lib.hid (show Below w3.heap.size w3 w5 from HW4.out.trans (HW5.out.mono HW4.out.size))
   go_wp2_with fail
   refine wp_region_held_drew (S := fun X => X.heap[w.heap.size]? = some (.cells #[.slice bo M bc, .slice vo V vc, .int .i64 fr, .int .i64 num, .slice ao N cap] 26 (0, 0)) ∧ Below w3.heap.size w3 X ∧ ∃ S, DocD X (.pointer (some ⟨PB, 0, none⟩)) L S ∧ ∀ b, S b → w3.heap.size ≤ b) (by kernel_rfl) ?h0 (fun hHeld => ?_)
   case h0 => exact ⟨HX5.out, HBX.out.drew, S, HD5.out.keep (fun _ _ => rfl), HLOW.out⟩
   clear d0 d1 d2 d3 d4
   refine tk (i := 0) (v := ?_) rfl (Or.inl ⟨rfl, ?hy1⟩) ?_
   case hy1 =>
    intro W hS
    go_simp
    try with_reducible rfl
   try simp only [Act.put, List.getElem_toArray, List.getElem_cons_zero, List.setIfInBounds_toArray, List.set_cons_zero, List.set_cons_succ]
   refine tk (i := 1) (v := ?_) rfl (Or.inl ⟨rfl, ?hy2⟩) ?_
   case hy2 =>
    intro W hS
    go_simp
    try with_reducible rfl
   try simp only [Act.put, List.getElem_toArray, List.getElem_cons_succ, List.getElem_cons_zero, List.setIfInBounds_toArray, List.set_cons_zero, List.set_cons_succ]
   refine tk (i := 2) (v := ?_) rfl (Or.inl ⟨rfl, ?hy3⟩) ?_
   case hy3 =>
    intro W hS
    go_simp
    try with_reducible rfl
   try simp only [Act.put, List.getElem_toArray, List.getElem_cons_succ, List.getElem_cons_zero, List.setIfInBounds_toArray, List.set_cons_zero, List.set_cons_succ]
   refine tk (i := 3) (v := ?_) rfl (Or.inl ⟨rfl, ?hy4⟩) ?_
   case hy4 =>
    intro W hS
    go_simp
    try with_reducible rfl
   try simp only [Act.put, List.getElem_toArray, List.getElem_cons_succ, List.getElem_cons_zero, List.setIfInBounds_toArray, List.set_cons_zero, List.set_cons_succ]
   refine tk (i := 4) (v := ?_) rfl (Or.inl ⟨rfl, ?hy5⟩) ?_
   case hy5 =>
    intro W hS
    go_simp
    try with_reducible rfl
   try simp only [Act.put, List.getElem_toArray, List.getElem_cons_succ, List.getElem_cons_zero, List.setIfInBounds_toArray, List.set_cons_zero, List.set_cons_succ]
   refine tk (i := 5) (v := ?_) rfl (Or.inl ⟨rfl, ?hy6⟩) ?_
   case hy6 =>
    intro W hS
    go_simp
    try with_reducible rfl
   try simp only [Act.put, List.getElem_toArray, List.getElem_cons_succ, List.getElem_cons_zero, List.setIfInBounds_toArray, List.set_cons_zero, List.set_cons_succ]
   refine tk (i := 6) (v := ?_) rfl (Or.inl ⟨rfl, ?hy7⟩) ?_
   case hy7 =>
    intro W hS
    go_simp
    try with_reducible rfl
   try simp only [Act.put, List.getElem_toArray, List.getElem_cons_succ, List.getElem_cons_zero, List.setIfInBounds_toArray, List.set_cons_zero, List.set_cons_succ]
   refine tk (i := 7) (v := ?_) rfl (Or.inl ⟨rfl, ?hy8⟩) ?_
   case hy8 =>
    intro W hS
    go_simp
    try with_reducible rfl
   try simp only [Act.put, List.getElem_toArray, List.getElem_cons_succ, List.getElem_cons_zero, List.setIfInBounds_toArray, List.set_cons_zero, List.set_cons_succ]
   refine tk (i := 9) (v := ?_) rfl (Or.inl ⟨rfl, ?hy9⟩) ?_
   case hy9 =>
    intro W hS
    obtain ⟨⟨e0, e1, e2, e3, e4⟩, -⟩ := row5 hS.1
    go_simp
    try with_reducible rfl
   try simp only [Act.put, List.getElem_toArray, List.getElem_cons_succ, List.getElem_cons_zero, List.setIfInBounds_toArray, List.set_cons_zero, List.set_cons_succ]
   refine tk (i := 10) (v := ?_) rfl (Or.inl ⟨rfl, ?hy10⟩) ?_
   case hy10 =>
    intro W hS
    go_simp
    try with_reducible rfl
   try simp only [Act.put, List.getElem_toArray, List.getElem_cons_succ, List.getElem_cons_zero, List.setIfInBounds_toArray, List.set_cons_zero, List.set_cons_succ]
   refine wpAnyH_ready (rs := [8]) (by kernel_rfl) (by simp) (AllReadyH.cons rfl (fun K hK => ?_) AllReadyH.nil)
   go_simp
   go_wp2_with (go_at_call 10; refine (HCL.out _ hHeld.2.1 hHeld.2.2).mono ?_; rintro e wq ⟨cv, rfl, hcv, hb⟩)
   refine hK.out _ _ (⟨(hb.1.block _ HLT.out).trans hHeld.1, hHeld.2.1.trans hb.1, hb.2⟩) (fun hX => ?_)
   clear hK K hHeld
   have hHeld := hX
   clear hX
   refine wpAnyH_ready (rs := [11]) (by kernel_rfl) (by simp) (AllReadyH.cons rfl (fun K hK => ?_) AllReadyH.nil)
   go_simp
   go_wp2_with (go_at_call 11; refine (HRR.out _ (HB3.out.trans (hHeld.2.1.mono HB3.out.size))).mono ?_; rintro e wq ⟨rv, rfl, hrv, hb⟩)
   have hcv2 := hcv.below hb
   refine hK.out _ _ (⟨row_keep hb hHeld.1, hHeld.2.1.trans (hb.mono hHeld.2.1.size), doc_low hHeld.2.2 hb⟩) (fun hX => ?_)
   clear hK K hHeld
   have hHeld := hX
   clear hX
   refine wpAnyH_ready (rs := [12]) (by kernel_rfl) (by simp) (AllReadyH.cons rfl (fun K hK => ?_) AllReadyH.nil)
   go_simp
   go_wp2_with (go_at_call 9; refine (HSM.out _ _ _ hcv2 hrv).mono ?_; rintro e wq ⟨rfl, hb⟩)
   refine hK.out _ _ (⟨row_keep hb hHeld.1, hHeld.2.1.trans (hb.mono hHeld.2.1.size), doc_low hHeld.2.2 hb⟩) (fun hX => ?_)
   clear hK K hHeld
   have hHeld := hX
   clear hX
   refine tk (i := 13) (v := ?_) rfl (Or.inl ⟨rfl, ?hy11⟩) ?_
   case hy11 =>
    intro W hS
    go_simp
    try with_reducible rfl
   try simp only [Act.put, List.getElem_toArray, List.getElem_cons_succ, List.getElem_cons_zero, List.setIfInBounds_toArray, List.set_cons_zero, List.set_cons_succ]
   refine tk (i := 14) (v := ?_) rfl (Or.inl ⟨rfl, ?hy12⟩) ?_
   case hy12 =>
    intro W hS
    go_simp
    try with_reducible rfl
   try simp only [Act.put, List.getElem_toArray, List.getElem_cons_succ, List.getElem_cons_zero, List.setIfInBounds_toArray, List.set_cons_zero, List.set_cons_succ]
   refine wpAnyH_done (by kernel_rfl) ?_ _
   have HBE := Lib.hid (HB3.out.trans (hHeld.2.1.mono HB3.out.size))
   go_wp2
   go_ret
   exact ⟨rfl, HBE.out⟩
  ·replace hr1 := hr1.mono (fun e w' q => (show e = .returned (.tuple #[.pointer none, .int .i64 3]) ∧ Below w3.heap.size w3 w' from by unfold ReplayPost at q; rwa [if_neg (fun z => hk z.2), if_pos hm] at q))
   have HR1 := Lib.hid hr1
   have HKK := Lib.hid hk
   clear hr1 hmr hm hk HRQ
   go_wp2_with fail
   refine HR1.out.mono ?_
   rintro e w4 ⟨rfl, hb1⟩
   have HX4 := Lib.hid (row_keep hb1 HX3.out)
   have HB4 := Lib.hid (HB3.out.trans (hb1.mono HB3.out.size))
   clear hb1 d0 d1 d2 d3 d4
   obtain ⟨⟨d0, d1, d2, d3, d4⟩, -⟩ := row5 HX4.out
   go_wp2_with fail
   refine (HM1.out _ HB4.out).mono ?_
   rintro e w5 ⟨rfl, hb1⟩
   have HX5 := Lib.hid (row_keep hb1 HX4.out)
   have HB5 := Lib.hid (HB4.out.trans (hb1.mono HB4.out.size))
   clear hb1 d0 d1 d2 d3 d4
   obtain ⟨⟨d0, d1, d2, d3, d4⟩, -⟩ := row5 HX5.out
   by_cases k0 : k < 0
   ·clear HKK
    go_wp2
    go_ret
    exact ⟨rfl, HB5.out⟩
   ·have k1 : (N : Int) < k := by have := HKK.out; have := HN.out; omega
    clear HKK
    go_wp2
    go_ret
    exact ⟨rfl, HB5.out⟩
end Go.Proofs.YthekkjfaaedamaaGreatDoor
