/- Texts of this proof, joined. -/
import Derived.Test.YtmedickofiielaaGPlain
import Derived.Test.YtmedickofiielaaGNameEq
import Derived.Test.YtmedickofiielaaGReads64
import Derived.Deep.CutRange
import Derived.Deep.DeepCutAuto
import Derived.Deep.Cut
import Derived.Deep.AppendLies
import Derived.Shelf.Abstract
import Derived.Deep.RegionHeld
import Derived.Test.YtmedickofiielaaGSpansPlain
namespace Go.Proofs.Ytmedickofiielaa
open Go.RowKit

theorem sMay_spOk {xs : List Sp} (h : sMay xs = true) : xs.all spOk = true := by
 have hg := (sMay_good xs).1 h
 rw [List.all_eq_true]
 intro s hs
 have := hg.1 s hs
 unfold spOk
 exact decide_eq_true (by omega)
def MBox (B : Nat) (s a t : Int) (W : World) : Prop := W.cell? ⟨B, 0, none⟩ = some (.int .i64 s) ∧ W.cell? ⟨B, 1, none⟩ = some (.int .i64 a) ∧ W.cell? ⟨B, 2, none⟩ = some (.int .i64 t)
theorem MBox.below {B : Nat} {s a t : Int} {W W' : World} (h : MBox B s a t W) (hb : Below W.heap.size W W') : MBox B s a t W' := ⟨cell_stays hb h.1, cell_stays hb h.2.1, cell_stays hb h.2.2⟩
theorem MBox.new (s a t : Int) (w : World) (ty : TypeId) : MBox w.heap.size s a t (w.alloc (.cells #[.int .i64 s, .int .i64 a, .int .i64 t] ty)) := by
 have h := heap_alloc_new w (.cells #[.int .i64 s, .int .i64 a, .int .i64 t] ty)
 exact ⟨cell_of_row _ _ 0 _ _ _ h, cell_of_row _ _ 1 _ _ _ h, cell_of_row _ _ 2 _ _ _ h⟩
set_option maxRecDepth 100000 in
set_option maxHeartbeats 2000000 in
theorem rKMay_any (s a t size : Int) (w : World) :
  Calls Try.prog 18 #[mkA s a t, .int .i64 size] w fun e w' => e = .returned (.bool (kMay s a t size)) ∧ Below w.heap.size w w' := by
 have hB := (Below.refl w.heap.size w).alloc (Nat.le_refl _) (.cells #[.int .i64 s, .int .i64 a, .int .i64 t] 23)
 have fin : ∀ b, kMay s a t size = b → (Ending.returned (.bool b) = .returned (.bool (kMay s a t size)) ∧ Below w.heap.size w (w.alloc (.cells #[.int .i64 s, .int .i64 a, .int .i64 t] 23))) := fun b h => ⟨ret_bool h.symm, hB⟩
 have no : ¬ (0 ≤ size ∧ size ≤ 20000 ∧ 1 ≤ s ∧ s ≤ 16 ∧ 0 ≤ a ∧ a ≤ size ∧ 0 ≤ t ∧ t ≤ size) → kMay s a t size = false := fun h => by cases hz : kMay s a t size with | false => rfl | true => exact absurd ((kMay_iff _ _ _ _).1 hz) h
 have HF := Lib.hid fin
 have HN := Lib.hid no
 clear fin no hB
 unfold mkA
 by_cases p1 : 0 ≤ size
 by_cases p2 : size ≤ 20000
 by_cases p3 : 1 ≤ s
 by_cases p4 : s ≤ 16
 by_cases p5 : 0 ≤ a
 by_cases p6 : a ≤ size
 by_cases p7 : 0 ≤ t
 by_cases p8 : t ≤ size
 all_goals
  go_enter Try.func18, Try.ntmps18
  go_wp2
  go_ret
 ·exact HF.out true ((kMay_iff _ _ _ _).2 ⟨p1, p2, p3, p4, p5, p6, p7, p8⟩)
 all_goals exact HF.out false (HN.out (by omega))
theorem infoMark : (Try.prog.info? 23).map (·.size) = some 3 := by kernel_rfl
theorem mk_result {fn : Func} {p u : Tmp} (hfn : fn.results = #[.cell p 23, .tmp u]) (tmps : Array Value) (W : World) (g : Nat) (s a t : Int) (c : Value) (hp : tmps.getD p undef = .pointer (some ⟨g, 0, none⟩)) (hc : tmps.getD u undef = c)
  (hg : W.heap[g]? = some (.cells #[.int .i64 s, .int .i64 a, .int .i64 t] 23 (0, 0))) : (results fn tmps).run Try.prog W = .ok (.tuple #[mkA s a t, c]) W := by
 rw [results_cell_tmp hfn, hp, hc]
 have hl := run_loadVar_row (P := Try.prog) W g 23 23 #[.int .i64 s, .int .i64 a, .int .i64 t] (0, 0) _ hg Try.underlying23 rfl infoMark
 simp [asAddr, Result.andThen, hl, mkA]
theorem three_set {W : World} {g : Nat} {a b c : Value} {ty : TypeId} (h : W.heap[g]? = some (.cells #[a, b, c] ty (0, 0))) (x y z : Int) : (((W.setCell ⟨g, 0, none⟩ (.int .i64 x)).setCell ⟨g, 1, none⟩ (.int .i64 y)).setCell ⟨g, 2, none⟩ (.int .i64 z)).heap[g]? = some (.cells #[.int .i64 x, .int .i64 y, .int .i64 z] ty (0, 0)) :=
 heap_setCell_same _ g 2 _ _ (Value.int .i64 z) (heap_setCell_same _ g 1 _ _ (Value.int .i64 y) (heap_setCell_same W g 0 _ _ (Value.int .i64 x) h))
theorem three_below {N g : Nat} {W w : World} (h : Below N w W) (hg : N ≤ g) (x y z : Int) : Below N w (((W.setCell ⟨g, 0, none⟩ (.int .i64 x)).setCell ⟨g, 1, none⟩ (.int .i64 y)).setCell ⟨g, 2, none⟩ (.int .i64 z)) :=
 ((h.setCell (p := ⟨g, 0, none⟩) hg _).setCell (p := ⟨g, 1, none⟩) hg _).setCell (p := ⟨g, 2, none⟩) hg _
set_option maxRecDepth 100000 in
set_option maxHeartbeats 4000000 in
theorem rKDrop_any (s a t : Int) (sp : Value) (xs : List Sp) (w : World) (h : SpAt w sp xs) (hx : xs.length ≤ 1000000000) :
  Calls Try.prog 8 #[mkA s a t, sp] w fun e w' => e = .returned (mkV (kDrop s a t xs)) ∧ Below w.heap.size w w' := by
 have hM := fun W => rKMay_any s a t 20000 W
 have hb0 := ((Below.refl w.heap.size w).alloc (Nat.le_refl _) (.cells #[.int .i64 s, .int .i64 a, .int .i64 t] 23))
 have hS := fun W (hb : Below w.heap.size w W) => rSpMay_any sp xs W (h.below hb) hx
 have hA := fun W p (hb : Below w.heap.size w W) hok => rSpAhead_any sp xs p W (h.below hb) hx hok
 have HS := Lib.hid hS
 have HA := Lib.hid hA
 obtain ⟨ao, cap, rfl, _⟩ := h
 have K0 := hb0.alloc hb0.size (.cells #[.int .i64 0, .int .i64 0, .int .i64 0] 23)
 have R0 := Lib.hid ((Below.heap_alloc (w.alloc (.cells #[.int .i64 s, .int .i64 a, .int .i64 t] 23)) (.cells #[.int .i64 0, .int .i64 0, .int .i64 0] 23) w.heap.size (by simp)).trans (heap_alloc_new w (.cells #[.int .i64 s, .int .i64 a, .int .i64 t] 23)))
 have Z0 : RowKit.Hid (((w.alloc (.cells #[.int .i64 s, .int .i64 a, .int .i64 t] 23)).alloc (.cells #[.int .i64 0, .int .i64 0, .int .i64 0] 23)).heap[w.heap.size + 1]? = some (.cells #[.int .i64 0, .int .i64 0, .int .i64 0] 23 (0, 0))) := Lib.hid (by
  have := heap_alloc_new (w.alloc (.cells #[.int .i64 s, .int .i64 a, .int .i64 t] 23)) (.cells #[.int .i64 0, .int .i64 0, .int .i64 0] 23)
  rwa [show (w.alloc (.cells #[.int .i64 s, .int .i64 a, .int .i64 t] 23)).heap.size = w.heap.size + 1 by simp] at this)
 have K0 := Lib.hid K0
 clear hS hA hb0
 unfold mkA at hM
 rw [show mkA s a t = .agg #[.int .i64 s, .int .i64 a, .int .i64 t] from rfl]
 have key : ∀ (b : Bool), kMay s a t 20000 = b → b = false ∨ (b = true ∧ 0 ≤ a ∧ a ≤ 20000 ∧ 0 ≤ t ∧ t ≤ 20000) := fun b hb => by
  cases b with
  | false => exact .inl rfl
  | true => have := (kMay_iff _ _ _ _).1 hb; exact .inr ⟨rfl, by omega⟩
 have HKEY := Lib.hid key
 have HF := Lib.hid (show ∀ (e : Ending) (w' : World) x, kDrop s a t xs = x → e = .returned (mkV x) → Below w.heap.size w w' → (e = .returned (mkV (kDrop s a t xs)) ∧ Below w.heap.size w w') from fun e w' x h1 h2 h3 => ⟨by rw [h1]; exact h2, h3⟩)
 clear key
 go_enter Try.func8, Try.ntmps8
 go_wp2_with fail
 refine (hM _).mono ?_
 clear hM
 rintro e w1 ⟨rfl, hb⟩
 have R := Lib.hid ((hb.block w.heap.size (Array.getElem?_eq_some_iff.1 R0.out).1).trans R0.out)
 have Z := Lib.hid ((hb.block (w.heap.size + 1) (Array.getElem?_eq_some_iff.1 Z0.out).1).trans Z0.out)
 have K := Lib.hid (K0.out.trans (hb.mono K0.out.size))
 clear hb R0 Z0 K0
 cases hm : kMay s a t 20000 with
 | false =>
  have HV := Lib.hid (show kDrop s a t xs = (0, 0, 0, 1) by unfold kDrop; rw [hm]; rfl)
  clear hm
  have z0 := box_cell Z.out 0
  have z1 := box_cell Z.out 1
  have z2 := box_cell Z.out 2
  have y0 := box_frozen Z.out 0
  have y1 := box_frozen Z.out 1
  have y2 := box_frozen Z.out 2
  go_wp2
  refine bodyPost_ret (mk_result (fn := Try.f8) (p := 4) (u := 5) rfl _ _ (w.heap.size + 1) 0 0 0 (.int .i64 1) rfl rfl (three_set Z.out 0 0 0)) rfl ?_
  exact HF.out _ _ (0, 0, 0, 1) HV.out rfl (three_below K.out (Nat.le_succ _) 0 0 0)
 | true =>
  have hS := HS.out w1 K.out
  have HM := Lib.hid hm
  have hka := (HKEY.out _ rfl)
  rw [hm] at hka
  obtain ⟨_, ha⟩ : true = true ∧ 0 ≤ a ∧ a ≤ 20000 ∧ 0 ≤ t ∧ t ≤ 20000 := hka.resolve_left (by decide)
  clear hka hm HKEY
  cases hs : sMay xs with
  | false =>
   rw [hs] at hS
   have HV := Lib.hid (show kDrop s a t xs = (0, 0, 0, 1) by unfold kDrop; rw [HM.out, hs]; rfl)
   clear hs
   go_wp2_with fail
   refine hS.mono ?_
   clear hS
   rintro e w2 ⟨rfl, hb⟩
   have Z2 := (hb.block (w.heap.size + 1) (Array.getElem?_eq_some_iff.1 Z.out).1).trans Z.out
   have K2 := Lib.hid (K.out.trans (hb.mono K.out.size))
   have Z3 := Lib.hid Z2
   clear hb
   have z0 := box_cell Z3.out 0
   have z1 := box_cell Z3.out 1
   have z2 := box_cell Z3.out 2
   have y0 := box_frozen Z3.out 0
   have y1 := box_frozen Z3.out 1
   have y2 := box_frozen Z3.out 2
   go_wp2
   refine bodyPost_ret (mk_result (fn := Try.f8) (p := 4) (u := 5) rfl _ _ (w.heap.size + 1) 0 0 0 (.int .i64 1) rfl rfl (three_set Z3.out 0 0 0)) rfl ?_
   exact HF.out _ _ (0, 0, 0, 1) HV.out rfl (three_below K2.out (Nat.le_succ _) 0 0 0)
  | true =>
  rw [hs] at hS
  have HV := Lib.hid (show kDrop s a t xs = (s, kLess xs a, kLess xs t, 0) by unfold kDrop; rw [HM.out, hs]; rfl)
  have Hok := Lib.hid (sMay_spOk hs)
  clear hs
  go_wp2_with fail
  refine hS.mono ?_
  clear hS
  rintro e w2 ⟨rfl, hb⟩
  have R2 := (hb.block w.heap.size (Array.getElem?_eq_some_iff.1 R.out).1).trans R.out
  have Z2 := (hb.block (w.heap.size + 1) (Array.getElem?_eq_some_iff.1 Z.out).1).trans Z.out
  have K2 := K.out.trans (hb.mono K.out.size)
  clear R Z K hb
  have R := Lib.hid R2
  have Z := Lib.hid Z2
  have K := Lib.hid K2
  clear R2 Z2 K2
  have hc1 : IntKind.i64.wrap (a - (cntTo (sMark xs) a.toNat : Nat)) = kLess xs a := by unfold kLess; rw [Nat.min_eq_right (by omega)]; have := cntTo_le (sMark xs) a.toNat; simp only [IntKind.wrap_i64]; omega
  have hc2 : IntKind.i64.wrap (t - (cntTo (sMark xs) t.toNat : Nat)) = kLess xs t := by unfold kLess; rw [Nat.min_eq_right (by omega)]; have := cntTo_le (sMark xs) t.toNat; simp only [IntKind.wrap_i64]; omega
  go_wp2
  go_cut [] (fun W => W.heap[w.heap.size]? = some (.cells #[.int .i64 s, .int .i64 (kLess xs a), .int .i64 t] 23 (0, 0)) ∧ W.heap[w.heap.size + 1]? = some (.cells #[.int .i64 0, .int .i64 0, .int .i64 0] 23 (0, 0)) ∧ Below w.heap.size w W)
  case first =>
   have c0 := box_cell R.out 1
   go_region_law ((go_simp; go_at_call 20; refine (HA.out _ a (by first | exact K.out | exact K.out.drew) Hok.out).mono ?_; rintro e wq ⟨rfl, hbq⟩; have Rq := (hbq.block w.heap.size (Array.getElem?_eq_some_iff.1 R.out).1).trans R.out; have Zq := (hbq.block (w.heap.size + 1) (Array.getElem?_eq_some_iff.1 Z.out).1).trans Z.out; have Kq := Lib.hid (K.out.drew.trans (hbq.mono K.out.size)); have cq := box_cell Rq 1; have fq := box_frozen Rq 1; have Rn := Lib.hid (box_set Rq 1 (.int .i64 (kLess xs a))); have Zn := Lib.hid ((box_other (w := wq) (B := w.heap.size) (k := w.heap.size + 1) (by omega) 1 (.int .i64 (kLess xs a))).trans Zq); clear Rq Zq hbq))
   all_goals go_wp2_with fail
   all_goals go_meet
   all_goals exact ⟨Rn.out, Zn.out, Kq.out.setCell (p := ⟨w.heap.size, 1, none⟩) (Nat.le_refl _) _⟩
  case rest =>
   obtain ⟨R2, Z2, K2⟩ := hcut
   clear R Z K
   have R := Lib.hid R2
   have Z := Lib.hid Z2
   have K := Lib.hid K2
   clear R2 Z2 K2
   go_wp2
   go_cut [] (fun W => W.heap[w.heap.size]? = some (.cells #[.int .i64 s, .int .i64 (kLess xs a), .int .i64 (kLess xs t)] 23 (0, 0)) ∧ W.heap[w.heap.size + 1]? = some (.cells #[.int .i64 0, .int .i64 0, .int .i64 0] 23 (0, 0)) ∧ Below w.heap.size w W)
   case first =>
    have c0 := box_cell R.out 2
    go_region_law ((go_simp; go_at_call 20; refine (HA.out _ t (by first | exact K.out | exact K.out.drew) Hok.out).mono ?_; rintro e wq ⟨rfl, hbq⟩; have Rq := (hbq.block w.heap.size (Array.getElem?_eq_some_iff.1 R.out).1).trans R.out; have Zq := (hbq.block (w.heap.size + 1) (Array.getElem?_eq_some_iff.1 Z.out).1).trans Z.out; have Kq := Lib.hid (K.out.drew.trans (hbq.mono K.out.size)); have cq := box_cell Rq 2; have fq := box_frozen Rq 2; have Rn := Lib.hid (box_set Rq 2 (.int .i64 (kLess xs t))); have Zn := Lib.hid ((box_other (w := wq) (B := w.heap.size) (k := w.heap.size + 1) (by omega) 2 (.int .i64 (kLess xs t))).trans Zq); clear Rq Zq hbq))
    all_goals go_wp2_with fail
    all_goals go_meet
    all_goals exact ⟨Rn.out, Zn.out, Kq.out.setCell (p := ⟨w.heap.size, 2, none⟩) (Nat.le_refl _) _⟩
   case rest =>
    obtain ⟨R3, Z3, K3⟩ := hcut
    have R := Lib.hid R3
    have Z := Lib.hid Z3
    have K := Lib.hid K3
    have x0 := box_cell R.out 0
    have x1 := box_cell R.out 1
    have x2 := box_cell R.out 2
    have z0 := box_cell Z.out 0
    have z1 := box_cell Z.out 1
    have z2 := box_cell Z.out 2
    have y0 := box_frozen Z.out 0
    have y1 := box_frozen Z.out 1
    have y2 := box_frozen Z.out 2
    clear R3 Z3 K3
    go_wp2
    refine bodyPost_ret (mk_result (fn := Try.f8) (p := 4) (u := 5) rfl _ _ (w.heap.size + 1) s (kLess xs a) (kLess xs t) (.int .i64 0) rfl rfl (three_set Z.out _ _ _)) rfl ?_
    exact HF.out _ _ (s, kLess xs a, kLess xs t, 0) HV.out rfl (three_below K.out (Nat.le_succ _) _ _ _)
end Go.Proofs.Ytmedickofiielaa

namespace Go.Proofs.Ytmedickofiielaa
open Go.RowKit

theorem infoMarkB : (Try.prog.info? 27).map (·.size) = some 3 := by kernel_rfl
theorem mkb_result {fn : Func} {p u : Tmp} (hfn : fn.results = #[.cell p 27, .tmp u]) (tmps : Array Value) (W : World) (g : Nat) (s a t : Int) (c : Value) (hp : tmps.getD p undef = .pointer (some ⟨g, 0, none⟩)) (hc : tmps.getD u undef = c)
  (hg : W.heap[g]? = some (.cells #[.int .i64 s, .int .i64 a, .int .i64 t] 27 (0, 0))) : (results fn tmps).run Try.prog W = .ok (.tuple #[mkA s a t, c]) W := by
 rw [results_cell_tmp hfn, hp, hc]
 have hl := run_loadVar_row (P := Try.prog) W g 27 27 #[.int .i64 s, .int .i64 a, .int .i64 t] (0, 0) _ hg Try.underlying27 rfl infoMarkB
 simp [asAddr, Result.andThen, hl, mkA]
set_option maxRecDepth 100000 in
set_option maxHeartbeats 8000000 in
theorem both_doc (F : FB) (g : Nat) (hent : ∀ (args : Array Value) (W : World), (callFunc g args).run Try.prog W = .ok (.enter g args) W) (v : Value) (r : Int → Int × Int)
  (hway : ∀ (p : Int) (bx : Nat → Option Obj) (W : World), F.I bx W → (Lit.int .i64 p).wf = true → Calls Try.prog g #[v, .int .i64 p] W fun e W' => e = .returned (erV (r p)) ∧ F.I bx W')
  (s a t : Int) (wa : (Lit.int .i64 a).wf = true) (wt : (Lit.int .i64 t).wf = true) (bx : Nat → Option Obj) (W : World) (h : F.I bx W) :
  Calls Try.prog 25 #[mkA s a t, v, .func (.func g) #[] #[]] W fun e W' => e = .returned (mkV (kBoth r s a t)) ∧ F.I bx W' := by
 have h3 := F.new (F.new (F.new h #[.int .i64 s, .int .i64 a, .int .i64 t] 27) #[.int .i64 0, .int .i64 0, .int .i64 0] 27) #[.int .i64 a, .int .i64 t] 73
 have h2 := F.new (F.new h #[.int .i64 s, .int .i64 a, .int .i64 t] 27) #[.int .i64 0, .int .i64 0, .int .i64 0] 27
 have z1 : (W.alloc (.cells #[.int .i64 s, .int .i64 a, .int .i64 t] 27)).heap.size = W.heap.size + 1 := by simp
 have z3 : ((W.alloc (.cells #[.int .i64 s, .int .i64 a, .int .i64 t] 27)).alloc (.cells #[.int .i64 0, .int .i64 0, .int .i64 0] 27)).heap.size = W.heap.size + 1 + 1 := by simp
 rw [z1] at h2
 rw [z1, z3] at h3
 clear z1
 obtain ⟨B, hB⟩ : ∃ B, W.heap.size = B := ⟨_, rfl⟩
 rw [hB] at h2 h3 z3
 have HFIN := Lib.hid (show ∀ (bz : Nat → Option Obj) (W' : World), F.I bz W' → (∀ b, b < B → bz b = bx b) → F.I bx W' from fun bz W' hz hk => F.drop h hz fun b hb => hk b (by omega))
 have H2 := Lib.hid h2
 have H3 := Lib.hid h3
 have HW := Lib.hid hway
 have HA := Lib.hid wa
 have HT := Lib.hid wt
 clear h h2 h3 hway wa wt
 unfold mkA
 go_enter Try.func25, Try.ntmps25
 go_upto_region 1 with fail
 generalize ((W.alloc (.cells #[.int .i64 s, .int .i64 a, .int .i64 t] 27)).alloc (.cells #[.int .i64 0, .int .i64 0, .int .i64 0] 27)) = w0 at H2 H3 z3 ⊢
 clear hB
 have m0 := (F.at H2.out (B := B) (cs := #[.int .i64 s, .int .i64 a, .int .i64 t]) (t := 27) ((boxAt_other (by omega) _ _).trans (boxAt_same _ _ _)) 1).1
 have m1 := (F.at H2.out (B := B) (cs := #[.int .i64 s, .int .i64 a, .int .i64 t]) (t := 27) ((boxAt_other (by omega) _ _).trans (boxAt_same _ _ _)) 2).1
 go_upto_region 2 with fail
 generalize w0.alloc (.cells #[.int .i64 a, .int .i64 t] 73) = w1 at H3 ⊢
 clear m0 m1 z3 H2
 go_wp2_with fail
 go_loopw [17] (fun ix wr => ∃ (k : Nat) (x y : Int), ix = .int .i64 k ∧ k ≤ 2 ∧ RowKit.Hid (BothSt r a t k x y) ∧ RowKit.Hid (F.I (boxAt (B + 1 + 1) (.cells #[.int .i64 x, .int .i64 y] 73 (0, 0)) (boxAt (B + 1) (.cells #[.int .i64 0, .int .i64 0, .int .i64 0] 27 (0, 0)) (boxAt B (.cells #[.int .i64 s, .int .i64 a, .int .i64 t] 27 (0, 0)) bx))) wr)) (fun ix _ => 2 - (intOf ix).toNat)
 case atStart => exact ⟨0, a, t, rfl, by omega, Lib.hid (.inl ⟨rfl, rfl, rfl⟩), H3⟩
 case round =>
  obtain ⟨k, x, y, rfl, hk, hst, hkb⟩ := hrel
  clear H3
  rcases hst.out with ⟨rfl, hx, hy⟩ | ⟨rfl, g1, hx, hy⟩ | ⟨rfl, g1, hx, g2, hy⟩
  all_goals subst x
  all_goals subst y
  ·as_aux_lemma =>
   have a0 := (F.at hkb.out (B := (B + 1 + 1)) (cs := #[.int .i64 a, .int .i64 t]) (t := 73) (boxAt_same _ _ _) 0).1
   have c1 := HW.out a _ wr hkb.out HA.out
   obtain ⟨rp, hrp⟩ : ∃ rp, r a = rp := ⟨_, rfl⟩
   obtain ⟨v0, v1⟩ := rp
   rw [hrp] at c1
   have HRP := Lib.hid hrp
   clear hrp hst
   go_wp2_with fail
   refine c1.mono ?_
   clear c1 a0
   rintro e w3 ⟨rfl, hI⟩
   unfold erV
   by_cases g : v1 = 0
   ·obtain rfl : v1 = 0 := g
    have hne : ((0 : Int) != 0) = false := rfl
    have a0 := (F.at hI (B := (B + 1 + 1)) (cs := #[.int .i64 a, .int .i64 t]) (t := 73) (boxAt_same _ _ _) 0).1
    have f0 := (F.at hI (B := (B + 1 + 1)) (cs := #[.int .i64 a, .int .i64 t]) (t := 73) (boxAt_same _ _ _) 0).2
    have HK := Lib.hid (show F.I (boxAt (B + 1 + 1) (.cells #[.int .i64 v0, .int .i64 t] 73 (0, 0)) (boxAt (B + 1) (.cells #[.int .i64 0, .int .i64 0, .int .i64 0] 27 (0, 0)) (boxAt B (.cells #[.int .i64 s, .int .i64 a, .int .i64 t] 27 (0, 0)) bx))) (w3.setCell ⟨(B + 1 + 1), 0, none⟩ (.int .i64 v0)) from F.less (F.set hI (boxAt_same _ _ _) 0 (.int .i64 v0)) fun b o ho => (boxAt_twice b).trans ho)
    have HST := Lib.hid (show BothSt r a t 1 v0 t from .inr (.inl ⟨rfl, by rw [HRP.out], by rw [HRP.out], rfl⟩))
    clear hI
    go_wp2
    exact ⟨⟨1, _, _, by rfl, by omega, HST, HK⟩, by simp [intOf]⟩
   ·have hne : (v1 != 0) = true := bne_iff_ne.2 g
    have HV := Lib.hid (show kBoth r s a t = (0, 0, 0, v1) by unfold kBoth; rw [HRP.out]; exact if_neg g)
    have z0 := (F.at hI (B := (B + 1)) (cs := #[.int .i64 0, .int .i64 0, .int .i64 0]) (t := 27) ((boxAt_other (by omega) _ _).trans (boxAt_same _ _ _)) 0).1
    have y0 := (F.at hI (B := (B + 1)) (cs := #[.int .i64 0, .int .i64 0, .int .i64 0]) (t := 27) ((boxAt_other (by omega) _ _).trans (boxAt_same _ _ _)) 0).2
    have z1 := (F.at hI (B := (B + 1)) (cs := #[.int .i64 0, .int .i64 0, .int .i64 0]) (t := 27) ((boxAt_other (by omega) _ _).trans (boxAt_same _ _ _)) 1).1
    have y1 := (F.at hI (B := (B + 1)) (cs := #[.int .i64 0, .int .i64 0, .int .i64 0]) (t := 27) ((boxAt_other (by omega) _ _).trans (boxAt_same _ _ _)) 1).2
    have z2 := (F.at hI (B := (B + 1)) (cs := #[.int .i64 0, .int .i64 0, .int .i64 0]) (t := 27) ((boxAt_other (by omega) _ _).trans (boxAt_same _ _ _)) 2).1
    have y2 := (F.at hI (B := (B + 1)) (cs := #[.int .i64 0, .int .i64 0, .int .i64 0]) (t := 27) ((boxAt_other (by omega) _ _).trans (boxAt_same _ _ _)) 2).2
    have HK := Lib.hid (F.mark hI (M := (B + 1)) ((boxAt_other (by omega) _ _).trans (boxAt_same _ _ _)) 0 0 0)
    clear hI
    go_wp2
    refine bodyPost_ret (mkb_result (fn := Try.f25) (p := 6) (u := 7) rfl _ _ (B + 1) 0 0 0 (.int .i64 v1) rfl rfl (F.box HK.out _ _ (boxAt_same _ _ _))) rfl ?_
    exact ⟨by rw [HV.out]; rfl, HFIN.out _ _ HK.out fun b hb => (boxAt_other (by omega) _ _).trans ((boxAt_other (by omega) _ _).trans ((boxAt_other (by omega) _ _).trans (boxAt_other (by omega) _ _)))⟩
  ·as_aux_lemma =>
   have a0 := (F.at hkb.out (B := (B + 1 + 1)) (cs := #[.int .i64 (r a).1, .int .i64 t]) (t := 73) (boxAt_same _ _ _) 1).1
   have c1 := HW.out t _ wr hkb.out HT.out
   obtain ⟨rp, hrp⟩ : ∃ rp, r t = rp := ⟨_, rfl⟩
   obtain ⟨v0, v1⟩ := rp
   rw [hrp] at c1
   have HRP := Lib.hid hrp
   clear hrp hst
   go_wp2_with fail
   refine c1.mono ?_
   clear c1 a0
   rintro e w3 ⟨rfl, hI⟩
   unfold erV
   by_cases g : v1 = 0
   ·obtain rfl : v1 = 0 := g
    have hne : ((0 : Int) != 0) = false := rfl
    have a0 := (F.at hI (B := (B + 1 + 1)) (cs := #[.int .i64 (r a).1, .int .i64 t]) (t := 73) (boxAt_same _ _ _) 1).1
    have f0 := (F.at hI (B := (B + 1 + 1)) (cs := #[.int .i64 (r a).1, .int .i64 t]) (t := 73) (boxAt_same _ _ _) 1).2
    have HK := Lib.hid (show F.I (boxAt (B + 1 + 1) (.cells #[.int .i64 (r a).1, .int .i64 v0] 73 (0, 0)) (boxAt (B + 1) (.cells #[.int .i64 0, .int .i64 0, .int .i64 0] 27 (0, 0)) (boxAt B (.cells #[.int .i64 s, .int .i64 a, .int .i64 t] 27 (0, 0)) bx))) (w3.setCell ⟨(B + 1 + 1), 1, none⟩ (.int .i64 v0)) from F.less (F.set hI (boxAt_same _ _ _) 1 (.int .i64 v0)) fun b o ho => (boxAt_twice b).trans ho)
    have HST := Lib.hid (show BothSt r a t 2 (r a).1 v0 from .inr (.inr ⟨rfl, g1, rfl, by rw [HRP.out], by rw [HRP.out]⟩))
    clear hI
    go_wp2
    exact ⟨⟨2, _, _, by rfl, by omega, HST, HK⟩, by simp [intOf]⟩
   ·have hne : (v1 != 0) = true := bne_iff_ne.2 g
    have HV := Lib.hid (show kBoth r s a t = (0, 0, 0, v1) by unfold kBoth; rw [if_pos g1, HRP.out]; exact if_neg g)
    have z0 := (F.at hI (B := (B + 1)) (cs := #[.int .i64 0, .int .i64 0, .int .i64 0]) (t := 27) ((boxAt_other (by omega) _ _).trans (boxAt_same _ _ _)) 0).1
    have y0 := (F.at hI (B := (B + 1)) (cs := #[.int .i64 0, .int .i64 0, .int .i64 0]) (t := 27) ((boxAt_other (by omega) _ _).trans (boxAt_same _ _ _)) 0).2
    have z1 := (F.at hI (B := (B + 1)) (cs := #[.int .i64 0, .int .i64 0, .int .i64 0]) (t := 27) ((boxAt_other (by omega) _ _).trans (boxAt_same _ _ _)) 1).1
    have y1 := (F.at hI (B := (B + 1)) (cs := #[.int .i64 0, .int .i64 0, .int .i64 0]) (t := 27) ((boxAt_other (by omega) _ _).trans (boxAt_same _ _ _)) 1).2
    have z2 := (F.at hI (B := (B + 1)) (cs := #[.int .i64 0, .int .i64 0, .int .i64 0]) (t := 27) ((boxAt_other (by omega) _ _).trans (boxAt_same _ _ _)) 2).1
    have y2 := (F.at hI (B := (B + 1)) (cs := #[.int .i64 0, .int .i64 0, .int .i64 0]) (t := 27) ((boxAt_other (by omega) _ _).trans (boxAt_same _ _ _)) 2).2
    have HK := Lib.hid (F.mark hI (M := (B + 1)) ((boxAt_other (by omega) _ _).trans (boxAt_same _ _ _)) 0 0 0)
    clear hI
    go_wp2
    refine bodyPost_ret (mkb_result (fn := Try.f25) (p := 6) (u := 7) rfl _ _ (B + 1) 0 0 0 (.int .i64 v1) rfl rfl (F.box HK.out _ _ (boxAt_same _ _ _))) rfl ?_
    exact ⟨by rw [HV.out]; rfl, HFIN.out _ _ HK.out fun b hb => (boxAt_other (by omega) _ _).trans ((boxAt_other (by omega) _ _).trans ((boxAt_other (by omega) _ _).trans (boxAt_other (by omega) _ _)))⟩
  ·as_aux_lemma =>
   have HV := Lib.hid (show kBoth r s a t = (s, (r a).1, (r t).1, 0) by unfold kBoth; rw [if_pos g1, if_pos g2])
   have a0 := (F.at hkb.out (B := (B + 1 + 1)) (cs := #[.int .i64 (r a).1, .int .i64 (r t).1]) (t := 73) (boxAt_same _ _ _) 0).1
   have a1 := (F.at hkb.out (B := (B + 1 + 1)) (cs := #[.int .i64 (r a).1, .int .i64 (r t).1]) (t := 73) (boxAt_same _ _ _) 1).1
   have z0 := (F.at hkb.out (B := (B + 1)) (cs := #[.int .i64 0, .int .i64 0, .int .i64 0]) (t := 27) ((boxAt_other (by omega) _ _).trans (boxAt_same _ _ _)) 0).1
   have y0 := (F.at hkb.out (B := (B + 1)) (cs := #[.int .i64 0, .int .i64 0, .int .i64 0]) (t := 27) ((boxAt_other (by omega) _ _).trans (boxAt_same _ _ _)) 0).2
   have z1 := (F.at hkb.out (B := (B + 1)) (cs := #[.int .i64 0, .int .i64 0, .int .i64 0]) (t := 27) ((boxAt_other (by omega) _ _).trans (boxAt_same _ _ _)) 1).1
   have y1 := (F.at hkb.out (B := (B + 1)) (cs := #[.int .i64 0, .int .i64 0, .int .i64 0]) (t := 27) ((boxAt_other (by omega) _ _).trans (boxAt_same _ _ _)) 1).2
   have z2 := (F.at hkb.out (B := (B + 1)) (cs := #[.int .i64 0, .int .i64 0, .int .i64 0]) (t := 27) ((boxAt_other (by omega) _ _).trans (boxAt_same _ _ _)) 2).1
   have y2 := (F.at hkb.out (B := (B + 1)) (cs := #[.int .i64 0, .int .i64 0, .int .i64 0]) (t := 27) ((boxAt_other (by omega) _ _).trans (boxAt_same _ _ _)) 2).2
   have m0 := (F.at hkb.out (B := B) (cs := #[.int .i64 s, .int .i64 a, .int .i64 t]) (t := 27) ((boxAt_other (by omega) _ _).trans ((boxAt_other (by omega) _ _).trans (boxAt_same _ _ _))) 0).1
   have HK := Lib.hid (F.mark hkb.out (M := (B + 1)) ((boxAt_other (by omega) _ _).trans (boxAt_same _ _ _)) s (r a).1 (r t).1)
   clear hst
   go_wp2
   refine bodyPost_ret (mkb_result (fn := Try.f25) (p := 6) (u := 7) rfl _ _ (B + 1) s (r a).1 (r t).1 (.int .i64 0) rfl rfl (F.box HK.out _ _ (boxAt_same _ _ _))) rfl ?_
   exact ⟨by rw [HV.out]; rfl, HFIN.out _ _ HK.out fun b hb => (boxAt_other (by omega) _ _).trans ((boxAt_other (by omega) _ _).trans ((boxAt_other (by omega) _ _).trans (boxAt_other (by omega) _ _)))⟩
set_option maxRecDepth 100000 in
set_option maxHeartbeats 8000000 in
theorem both_dropped (F : FB) (g : Nat) (hent : ∀ (args : Array Value) (W : World), (callFunc g args).run Try.prog W = .ok (.enter g args) W) (v : Value) (r : Int → Int × Int)
  (hway : ∀ (p : Int) (bx : Nat → Option Obj) (W : World), F.I bx W → (Lit.int .i64 p).wf = true → Calls Try.prog g #[v, .int .i64 p] W fun e W' => e = .returned (erV (r p)) ∧ F.I bx W')
  (s a t : Int) (wa : (Lit.int .i64 a).wf = true) (wt : (Lit.int .i64 t).wf = true) (bx : Nat → Option Obj) (W : World) (h : F.I bx W) :
  Calls Try.prog 16 #[mkA s a t, v, .func (.func g) #[] #[]] W fun e W' => e = .returned (mkV (kBoth r s a t)) ∧ F.I bx W' := by
 have h3 := F.new (F.new (F.new h #[.int .i64 s, .int .i64 a, .int .i64 t] 27) #[.int .i64 0, .int .i64 0, .int .i64 0] 27) #[.int .i64 a, .int .i64 t] 73
 have h2 := F.new (F.new h #[.int .i64 s, .int .i64 a, .int .i64 t] 27) #[.int .i64 0, .int .i64 0, .int .i64 0] 27
 have z1 : (W.alloc (.cells #[.int .i64 s, .int .i64 a, .int .i64 t] 27)).heap.size = W.heap.size + 1 := by simp
 have z3 : ((W.alloc (.cells #[.int .i64 s, .int .i64 a, .int .i64 t] 27)).alloc (.cells #[.int .i64 0, .int .i64 0, .int .i64 0] 27)).heap.size = W.heap.size + 1 + 1 := by simp
 rw [z1] at h2
 rw [z1, z3] at h3
 clear z1
 obtain ⟨B, hB⟩ : ∃ B, W.heap.size = B := ⟨_, rfl⟩
 rw [hB] at h2 h3 z3
 have HFIN := Lib.hid (show ∀ (bz : Nat → Option Obj) (W' : World), F.I bz W' → (∀ b, b < B → bz b = bx b) → F.I bx W' from fun bz W' hz hk => F.drop h hz fun b hb => hk b (by omega))
 have H2 := Lib.hid h2
 have H3 := Lib.hid h3
 have HW := Lib.hid hway
 have HA := Lib.hid wa
 have HT := Lib.hid wt
 clear h h2 h3 hway wa wt
 unfold mkA
 go_enter Try.func16, Try.ntmps16
 go_upto_region 1 with fail
 generalize ((W.alloc (.cells #[.int .i64 s, .int .i64 a, .int .i64 t] 27)).alloc (.cells #[.int .i64 0, .int .i64 0, .int .i64 0] 27)) = w0 at H2 H3 z3 ⊢
 clear hB
 have m0 := (F.at H2.out (B := B) (cs := #[.int .i64 s, .int .i64 a, .int .i64 t]) (t := 27) ((boxAt_other (by omega) _ _).trans (boxAt_same _ _ _)) 1).1
 have m1 := (F.at H2.out (B := B) (cs := #[.int .i64 s, .int .i64 a, .int .i64 t]) (t := 27) ((boxAt_other (by omega) _ _).trans (boxAt_same _ _ _)) 2).1
 go_upto_region 2 with fail
 generalize w0.alloc (.cells #[.int .i64 a, .int .i64 t] 73) = w1 at H3 ⊢
 clear m0 m1 z3 H2
 go_wp2_with fail
 go_loopw [17] (fun ix wr => ∃ (k : Nat) (x y : Int), ix = .int .i64 k ∧ k ≤ 2 ∧ RowKit.Hid (BothSt r a t k x y) ∧ RowKit.Hid (F.I (boxAt (B + 1 + 1) (.cells #[.int .i64 x, .int .i64 y] 73 (0, 0)) (boxAt (B + 1) (.cells #[.int .i64 0, .int .i64 0, .int .i64 0] 27 (0, 0)) (boxAt B (.cells #[.int .i64 s, .int .i64 a, .int .i64 t] 27 (0, 0)) bx))) wr)) (fun ix _ => 2 - (intOf ix).toNat)
 case atStart => exact ⟨0, a, t, rfl, by omega, Lib.hid (.inl ⟨rfl, rfl, rfl⟩), H3⟩
 case round =>
  obtain ⟨k, x, y, rfl, hk, hst, hkb⟩ := hrel
  clear H3
  rcases hst.out with ⟨rfl, hx, hy⟩ | ⟨rfl, g1, hx, hy⟩ | ⟨rfl, g1, hx, g2, hy⟩
  all_goals subst x
  all_goals subst y
  ·as_aux_lemma =>
   have a0 := (F.at hkb.out (B := (B + 1 + 1)) (cs := #[.int .i64 a, .int .i64 t]) (t := 73) (boxAt_same _ _ _) 0).1
   have c1 := HW.out a _ wr hkb.out HA.out
   obtain ⟨rp, hrp⟩ : ∃ rp, r a = rp := ⟨_, rfl⟩
   obtain ⟨v0, v1⟩ := rp
   rw [hrp] at c1
   have HRP := Lib.hid hrp
   clear hrp hst
   go_wp2_with fail
   refine c1.mono ?_
   clear c1 a0
   rintro e w3 ⟨rfl, hI⟩
   unfold erV
   by_cases g : v1 = 0
   ·obtain rfl : v1 = 0 := g
    have hne : ((0 : Int) != 0) = false := rfl
    have a0 := (F.at hI (B := (B + 1 + 1)) (cs := #[.int .i64 a, .int .i64 t]) (t := 73) (boxAt_same _ _ _) 0).1
    have f0 := (F.at hI (B := (B + 1 + 1)) (cs := #[.int .i64 a, .int .i64 t]) (t := 73) (boxAt_same _ _ _) 0).2
    have HK := Lib.hid (show F.I (boxAt (B + 1 + 1) (.cells #[.int .i64 v0, .int .i64 t] 73 (0, 0)) (boxAt (B + 1) (.cells #[.int .i64 0, .int .i64 0, .int .i64 0] 27 (0, 0)) (boxAt B (.cells #[.int .i64 s, .int .i64 a, .int .i64 t] 27 (0, 0)) bx))) (w3.setCell ⟨(B + 1 + 1), 0, none⟩ (.int .i64 v0)) from F.less (F.set hI (boxAt_same _ _ _) 0 (.int .i64 v0)) fun b o ho => (boxAt_twice b).trans ho)
    have HST := Lib.hid (show BothSt r a t 1 v0 t from .inr (.inl ⟨rfl, by rw [HRP.out], by rw [HRP.out], rfl⟩))
    clear hI
    go_wp2
    exact ⟨⟨1, _, _, by rfl, by omega, HST, HK⟩, by simp [intOf]⟩
   ·have hne : (v1 != 0) = true := bne_iff_ne.2 g
    have HV := Lib.hid (show kBoth r s a t = (0, 0, 0, v1) by unfold kBoth; rw [HRP.out]; exact if_neg g)
    have z0 := (F.at hI (B := (B + 1)) (cs := #[.int .i64 0, .int .i64 0, .int .i64 0]) (t := 27) ((boxAt_other (by omega) _ _).trans (boxAt_same _ _ _)) 0).1
    have y0 := (F.at hI (B := (B + 1)) (cs := #[.int .i64 0, .int .i64 0, .int .i64 0]) (t := 27) ((boxAt_other (by omega) _ _).trans (boxAt_same _ _ _)) 0).2
    have z1 := (F.at hI (B := (B + 1)) (cs := #[.int .i64 0, .int .i64 0, .int .i64 0]) (t := 27) ((boxAt_other (by omega) _ _).trans (boxAt_same _ _ _)) 1).1
    have y1 := (F.at hI (B := (B + 1)) (cs := #[.int .i64 0, .int .i64 0, .int .i64 0]) (t := 27) ((boxAt_other (by omega) _ _).trans (boxAt_same _ _ _)) 1).2
    have z2 := (F.at hI (B := (B + 1)) (cs := #[.int .i64 0, .int .i64 0, .int .i64 0]) (t := 27) ((boxAt_other (by omega) _ _).trans (boxAt_same _ _ _)) 2).1
    have y2 := (F.at hI (B := (B + 1)) (cs := #[.int .i64 0, .int .i64 0, .int .i64 0]) (t := 27) ((boxAt_other (by omega) _ _).trans (boxAt_same _ _ _)) 2).2
    have HK := Lib.hid (F.mark hI (M := (B + 1)) ((boxAt_other (by omega) _ _).trans (boxAt_same _ _ _)) 0 0 0)
    clear hI
    go_wp2
    refine bodyPost_ret (mkb_result (fn := Try.f16) (p := 6) (u := 7) rfl _ _ (B + 1) 0 0 0 (.int .i64 v1) rfl rfl (F.box HK.out _ _ (boxAt_same _ _ _))) rfl ?_
    exact ⟨by rw [HV.out]; rfl, HFIN.out _ _ HK.out fun b hb => (boxAt_other (by omega) _ _).trans ((boxAt_other (by omega) _ _).trans ((boxAt_other (by omega) _ _).trans (boxAt_other (by omega) _ _)))⟩
  ·as_aux_lemma =>
   have a0 := (F.at hkb.out (B := (B + 1 + 1)) (cs := #[.int .i64 (r a).1, .int .i64 t]) (t := 73) (boxAt_same _ _ _) 1).1
   have c1 := HW.out t _ wr hkb.out HT.out
   obtain ⟨rp, hrp⟩ : ∃ rp, r t = rp := ⟨_, rfl⟩
   obtain ⟨v0, v1⟩ := rp
   rw [hrp] at c1
   have HRP := Lib.hid hrp
   clear hrp hst
   go_wp2_with fail
   refine c1.mono ?_
   clear c1 a0
   rintro e w3 ⟨rfl, hI⟩
   unfold erV
   by_cases g : v1 = 0
   ·obtain rfl : v1 = 0 := g
    have hne : ((0 : Int) != 0) = false := rfl
    have a0 := (F.at hI (B := (B + 1 + 1)) (cs := #[.int .i64 (r a).1, .int .i64 t]) (t := 73) (boxAt_same _ _ _) 1).1
    have f0 := (F.at hI (B := (B + 1 + 1)) (cs := #[.int .i64 (r a).1, .int .i64 t]) (t := 73) (boxAt_same _ _ _) 1).2
    have HK := Lib.hid (show F.I (boxAt (B + 1 + 1) (.cells #[.int .i64 (r a).1, .int .i64 v0] 73 (0, 0)) (boxAt (B + 1) (.cells #[.int .i64 0, .int .i64 0, .int .i64 0] 27 (0, 0)) (boxAt B (.cells #[.int .i64 s, .int .i64 a, .int .i64 t] 27 (0, 0)) bx))) (w3.setCell ⟨(B + 1 + 1), 1, none⟩ (.int .i64 v0)) from F.less (F.set hI (boxAt_same _ _ _) 1 (.int .i64 v0)) fun b o ho => (boxAt_twice b).trans ho)
    have HST := Lib.hid (show BothSt r a t 2 (r a).1 v0 from .inr (.inr ⟨rfl, g1, rfl, by rw [HRP.out], by rw [HRP.out]⟩))
    clear hI
    go_wp2
    exact ⟨⟨2, _, _, by rfl, by omega, HST, HK⟩, by simp [intOf]⟩
   ·have hne : (v1 != 0) = true := bne_iff_ne.2 g
    have HV := Lib.hid (show kBoth r s a t = (0, 0, 0, v1) by unfold kBoth; rw [if_pos g1, HRP.out]; exact if_neg g)
    have z0 := (F.at hI (B := (B + 1)) (cs := #[.int .i64 0, .int .i64 0, .int .i64 0]) (t := 27) ((boxAt_other (by omega) _ _).trans (boxAt_same _ _ _)) 0).1
    have y0 := (F.at hI (B := (B + 1)) (cs := #[.int .i64 0, .int .i64 0, .int .i64 0]) (t := 27) ((boxAt_other (by omega) _ _).trans (boxAt_same _ _ _)) 0).2
    have z1 := (F.at hI (B := (B + 1)) (cs := #[.int .i64 0, .int .i64 0, .int .i64 0]) (t := 27) ((boxAt_other (by omega) _ _).trans (boxAt_same _ _ _)) 1).1
    have y1 := (F.at hI (B := (B + 1)) (cs := #[.int .i64 0, .int .i64 0, .int .i64 0]) (t := 27) ((boxAt_other (by omega) _ _).trans (boxAt_same _ _ _)) 1).2
    have z2 := (F.at hI (B := (B + 1)) (cs := #[.int .i64 0, .int .i64 0, .int .i64 0]) (t := 27) ((boxAt_other (by omega) _ _).trans (boxAt_same _ _ _)) 2).1
    have y2 := (F.at hI (B := (B + 1)) (cs := #[.int .i64 0, .int .i64 0, .int .i64 0]) (t := 27) ((boxAt_other (by omega) _ _).trans (boxAt_same _ _ _)) 2).2
    have HK := Lib.hid (F.mark hI (M := (B + 1)) ((boxAt_other (by omega) _ _).trans (boxAt_same _ _ _)) 0 0 0)
    clear hI
    go_wp2
    refine bodyPost_ret (mkb_result (fn := Try.f16) (p := 6) (u := 7) rfl _ _ (B + 1) 0 0 0 (.int .i64 v1) rfl rfl (F.box HK.out _ _ (boxAt_same _ _ _))) rfl ?_
    exact ⟨by rw [HV.out]; rfl, HFIN.out _ _ HK.out fun b hb => (boxAt_other (by omega) _ _).trans ((boxAt_other (by omega) _ _).trans ((boxAt_other (by omega) _ _).trans (boxAt_other (by omega) _ _)))⟩
  ·as_aux_lemma =>
   have HV := Lib.hid (show kBoth r s a t = (s, (r a).1, (r t).1, 0) by unfold kBoth; rw [if_pos g1, if_pos g2])
   have a0 := (F.at hkb.out (B := (B + 1 + 1)) (cs := #[.int .i64 (r a).1, .int .i64 (r t).1]) (t := 73) (boxAt_same _ _ _) 0).1
   have a1 := (F.at hkb.out (B := (B + 1 + 1)) (cs := #[.int .i64 (r a).1, .int .i64 (r t).1]) (t := 73) (boxAt_same _ _ _) 1).1
   have z0 := (F.at hkb.out (B := (B + 1)) (cs := #[.int .i64 0, .int .i64 0, .int .i64 0]) (t := 27) ((boxAt_other (by omega) _ _).trans (boxAt_same _ _ _)) 0).1
   have y0 := (F.at hkb.out (B := (B + 1)) (cs := #[.int .i64 0, .int .i64 0, .int .i64 0]) (t := 27) ((boxAt_other (by omega) _ _).trans (boxAt_same _ _ _)) 0).2
   have z1 := (F.at hkb.out (B := (B + 1)) (cs := #[.int .i64 0, .int .i64 0, .int .i64 0]) (t := 27) ((boxAt_other (by omega) _ _).trans (boxAt_same _ _ _)) 1).1
   have y1 := (F.at hkb.out (B := (B + 1)) (cs := #[.int .i64 0, .int .i64 0, .int .i64 0]) (t := 27) ((boxAt_other (by omega) _ _).trans (boxAt_same _ _ _)) 1).2
   have z2 := (F.at hkb.out (B := (B + 1)) (cs := #[.int .i64 0, .int .i64 0, .int .i64 0]) (t := 27) ((boxAt_other (by omega) _ _).trans (boxAt_same _ _ _)) 2).1
   have y2 := (F.at hkb.out (B := (B + 1)) (cs := #[.int .i64 0, .int .i64 0, .int .i64 0]) (t := 27) ((boxAt_other (by omega) _ _).trans (boxAt_same _ _ _)) 2).2
   have m0 := (F.at hkb.out (B := B) (cs := #[.int .i64 s, .int .i64 a, .int .i64 t]) (t := 27) ((boxAt_other (by omega) _ _).trans ((boxAt_other (by omega) _ _).trans (boxAt_same _ _ _))) 0).1
   have HK := Lib.hid (F.mark hkb.out (M := (B + 1)) ((boxAt_other (by omega) _ _).trans (boxAt_same _ _ _)) s (r a).1 (r t).1)
   clear hst
   go_wp2
   refine bodyPost_ret (mkb_result (fn := Try.f16) (p := 6) (u := 7) rfl _ _ (B + 1) s (r a).1 (r t).1 (.int .i64 0) rfl rfl (F.box HK.out _ _ (boxAt_same _ _ _))) rfl ?_
   exact ⟨by rw [HV.out]; rfl, HFIN.out _ _ HK.out fun b hb => (boxAt_other (by omega) _ _).trans ((boxAt_other (by omega) _ _).trans ((boxAt_other (by omega) _ _).trans (boxAt_other (by omega) _ _)))⟩
set_option maxRecDepth 100000 in
set_option maxHeartbeats 8000000 in
theorem both_deed (F : FB) (g : Nat) (hent : ∀ (args : Array Value) (W : World), (callFunc g args).run Try.prog W = .ok (.enter g args) W) (d0 d1 d2 d3 d4 : Int) (d5 : ByteArray) (d6 : Value) (d7 : Int) (d8 : Bool) (r : Int → Int × Int)
  (hway : ∀ (p : Int) (bx : Nat → Option Obj) (W : World), F.I bx W → (Lit.int .i64 p).wf = true → Calls Try.prog g #[(.agg #[.int .i64 d0, .int .i64 d1, .int .i64 d2, .int .i64 d3, .int .i64 d4, .string d5, d6, .int .i64 d7, .bool d8]), .int .i64 p] W fun e W' => e = .returned (erV (r p)) ∧ F.I bx W')
  (s a t : Int) (wa : (Lit.int .i64 a).wf = true) (wt : (Lit.int .i64 t).wf = true) (bx : Nat → Option Obj) (W : World) (h : F.I bx W) :
  Calls Try.prog 27 #[mkA s a t, (.agg #[.int .i64 d0, .int .i64 d1, .int .i64 d2, .int .i64 d3, .int .i64 d4, .string d5, d6, .int .i64 d7, .bool d8]), .func (.func g) #[] #[]] W fun e W' => e = .returned (mkV (kBoth r s a t)) ∧ F.I bx W' := by
 have h3 := F.new (F.new (F.new (F.new h #[.int .i64 s, .int .i64 a, .int .i64 t] 27) #[.int .i64 d0, .int .i64 d1, .int .i64 d2, .int .i64 d3, .int .i64 d4, .string d5, d6, .int .i64 d7, .bool d8] 67) #[.int .i64 0, .int .i64 0, .int .i64 0] 27) #[.int .i64 a, .int .i64 t] 73
 have h2 := F.new (F.new (F.new h #[.int .i64 s, .int .i64 a, .int .i64 t] 27) #[.int .i64 d0, .int .i64 d1, .int .i64 d2, .int .i64 d3, .int .i64 d4, .string d5, d6, .int .i64 d7, .bool d8] 67) #[.int .i64 0, .int .i64 0, .int .i64 0] 27
 have z1 : (W.alloc (.cells #[.int .i64 s, .int .i64 a, .int .i64 t] 27)).heap.size = W.heap.size + 1 := by simp
 have z2 : ((W.alloc (.cells #[.int .i64 s, .int .i64 a, .int .i64 t] 27)).alloc (.cells #[.int .i64 d0, .int .i64 d1, .int .i64 d2, .int .i64 d3, .int .i64 d4, .string d5, d6, .int .i64 d7, .bool d8] 67)).heap.size = W.heap.size + 1 + 1 := by simp
 have z3 : (((W.alloc (.cells #[.int .i64 s, .int .i64 a, .int .i64 t] 27)).alloc (.cells #[.int .i64 d0, .int .i64 d1, .int .i64 d2, .int .i64 d3, .int .i64 d4, .string d5, d6, .int .i64 d7, .bool d8] 67)).alloc (.cells #[.int .i64 0, .int .i64 0, .int .i64 0] 27)).heap.size = W.heap.size + 1 + 1 + 1 := by simp
 rw [z1, z2] at h2
 rw [z1, z2, z3] at h3
 clear z1 z2
 obtain ⟨B, hB⟩ : ∃ B, W.heap.size = B := ⟨_, rfl⟩
 rw [hB] at h2 h3 z3
 have HFIN := Lib.hid (show ∀ (bz : Nat → Option Obj) (W' : World), F.I bz W' → (∀ b, b < B → bz b = bx b) → F.I bx W' from fun bz W' hz hk => F.drop h hz fun b hb => hk b (by omega))
 have H2 := Lib.hid h2
 have H3 := Lib.hid h3
 have HW := Lib.hid hway
 have HA := Lib.hid wa
 have HT := Lib.hid wt
 clear h h2 h3 hway wa wt
 unfold mkA
 go_enter Try.func27, Try.ntmps27
 go_upto_region 1 with fail
 generalize (((W.alloc (.cells #[.int .i64 s, .int .i64 a, .int .i64 t] 27)).alloc (.cells #[.int .i64 d0, .int .i64 d1, .int .i64 d2, .int .i64 d3, .int .i64 d4, .string d5, d6, .int .i64 d7, .bool d8] 67)).alloc (.cells #[.int .i64 0, .int .i64 0, .int .i64 0] 27)) = w0 at H2 H3 z3 ⊢
 clear hB
 have m0 := (F.at H2.out (B := B) (cs := #[.int .i64 s, .int .i64 a, .int .i64 t]) (t := 27) ((boxAt_other (by omega) _ _).trans ((boxAt_other (by omega) _ _).trans (boxAt_same _ _ _))) 1).1
 have m1 := (F.at H2.out (B := B) (cs := #[.int .i64 s, .int .i64 a, .int .i64 t]) (t := 27) ((boxAt_other (by omega) _ _).trans ((boxAt_other (by omega) _ _).trans (boxAt_same _ _ _))) 2).1
 go_upto_region 2 with fail
 generalize w0.alloc (.cells #[.int .i64 a, .int .i64 t] 73) = w1 at H3 ⊢
 clear m0 m1 z3 H2
 go_wp2_with fail
 go_loopw [17] (fun ix wr => ∃ (k : Nat) (x y : Int), ix = .int .i64 k ∧ k ≤ 2 ∧ RowKit.Hid (BothSt r a t k x y) ∧ RowKit.Hid (F.I (boxAt (B + 1 + 1 + 1) (.cells #[.int .i64 x, .int .i64 y] 73 (0, 0)) (boxAt (B + 1 + 1) (.cells #[.int .i64 0, .int .i64 0, .int .i64 0] 27 (0, 0)) (boxAt (B + 1) (.cells #[.int .i64 d0, .int .i64 d1, .int .i64 d2, .int .i64 d3, .int .i64 d4, .string d5, d6, .int .i64 d7, .bool d8] 67 (0, 0)) (boxAt B (.cells #[.int .i64 s, .int .i64 a, .int .i64 t] 27 (0, 0)) bx)))) wr)) (fun ix _ => 2 - (intOf ix).toNat)
 case atStart => exact ⟨0, a, t, rfl, by omega, Lib.hid (.inl ⟨rfl, rfl, rfl⟩), H3⟩
 case round =>
  obtain ⟨k, x, y, rfl, hk, hst, hkb⟩ := hrel
  clear H3
  rcases hst.out with ⟨rfl, hx, hy⟩ | ⟨rfl, g1, hx, hy⟩ | ⟨rfl, g1, hx, g2, hy⟩
  all_goals subst x
  all_goals subst y
  ·as_aux_lemma =>
   have c1 := fun W (hI : F.I (boxAt (B + 1 + 1 + 1) (.cells #[.int .i64 a, .int .i64 t] 73 (0, 0)) (boxAt (B + 1 + 1) (.cells #[.int .i64 0, .int .i64 0, .int .i64 0] 27 (0, 0)) (boxAt (B + 1) (.cells #[.int .i64 d0, .int .i64 d1, .int .i64 d2, .int .i64 d3, .int .i64 d4, .string d5, d6, .int .i64 d7, .bool d8] 67 (0, 0)) (boxAt B (.cells #[.int .i64 s, .int .i64 a, .int .i64 t] 27 (0, 0)) bx)))) W) => HW.out a _ W hI HA.out
   obtain ⟨rp, hrp⟩ : ∃ rp, r a = rp := ⟨_, rfl⟩
   obtain ⟨v0, v1⟩ := rp
   simp only [hrp] at c1
   unfold erV at c1
   have HRP := Lib.hid hrp
   clear hrp hst
   go_wp2_with fail
   refine wp_region_held_drew (S := fun X => F.I (boxAt (B + 1 + 1 + 1) (.cells #[.int .i64 a, .int .i64 t] 73 (0, 0)) (boxAt (B + 1 + 1) (.cells #[.int .i64 0, .int .i64 0, .int .i64 0] 27 (0, 0)) (boxAt (B + 1) (.cells #[.int .i64 d0, .int .i64 d1, .int .i64 d2, .int .i64 d3, .int .i64 d4, .string d5, d6, .int .i64 d7, .bool d8] 67 (0, 0)) (boxAt B (.cells #[.int .i64 s, .int .i64 a, .int .i64 t] 27 (0, 0)) bx)))) X) (by kernel_rfl) (F.drew hkb.out) (fun hHeld => ?_)
   refine tk0 (i := 0) rfl ?_
   try simp only [td]
   refine tk (i := 1) (v := ?_) rfl (Or.inl ⟨rfl, ?hy2⟩) ?_
   case hy2 =>
    intro W hS
    have a0 := (F.at hS (B := (B + 1 + 1 + 1)) (cs := #[.int .i64 a, .int .i64 t]) (t := 73) (boxAt_same _ _ _) 0).1
    have d_0 := (F.at hS (B := B + 1) (cs := #[.int .i64 d0, .int .i64 d1, .int .i64 d2, .int .i64 d3, .int .i64 d4, .string d5, d6, .int .i64 d7, .bool d8]) (t := 67) ((boxAt_other (by omega) _ _).trans ((boxAt_other (by omega) _ _).trans (boxAt_same _ _ _))) 0).1
    have d_1 := (F.at hS (B := B + 1) (cs := #[.int .i64 d0, .int .i64 d1, .int .i64 d2, .int .i64 d3, .int .i64 d4, .string d5, d6, .int .i64 d7, .bool d8]) (t := 67) ((boxAt_other (by omega) _ _).trans ((boxAt_other (by omega) _ _).trans (boxAt_same _ _ _))) 1).1
    have d_2 := (F.at hS (B := B + 1) (cs := #[.int .i64 d0, .int .i64 d1, .int .i64 d2, .int .i64 d3, .int .i64 d4, .string d5, d6, .int .i64 d7, .bool d8]) (t := 67) ((boxAt_other (by omega) _ _).trans ((boxAt_other (by omega) _ _).trans (boxAt_same _ _ _))) 2).1
    have d_3 := (F.at hS (B := B + 1) (cs := #[.int .i64 d0, .int .i64 d1, .int .i64 d2, .int .i64 d3, .int .i64 d4, .string d5, d6, .int .i64 d7, .bool d8]) (t := 67) ((boxAt_other (by omega) _ _).trans ((boxAt_other (by omega) _ _).trans (boxAt_same _ _ _))) 3).1
    have d_4 := (F.at hS (B := B + 1) (cs := #[.int .i64 d0, .int .i64 d1, .int .i64 d2, .int .i64 d3, .int .i64 d4, .string d5, d6, .int .i64 d7, .bool d8]) (t := 67) ((boxAt_other (by omega) _ _).trans ((boxAt_other (by omega) _ _).trans (boxAt_same _ _ _))) 4).1
    have d_5 := (F.at hS (B := B + 1) (cs := #[.int .i64 d0, .int .i64 d1, .int .i64 d2, .int .i64 d3, .int .i64 d4, .string d5, d6, .int .i64 d7, .bool d8]) (t := 67) ((boxAt_other (by omega) _ _).trans ((boxAt_other (by omega) _ _).trans (boxAt_same _ _ _))) 5).1
    have d_6 := (F.at hS (B := B + 1) (cs := #[.int .i64 d0, .int .i64 d1, .int .i64 d2, .int .i64 d3, .int .i64 d4, .string d5, d6, .int .i64 d7, .bool d8]) (t := 67) ((boxAt_other (by omega) _ _).trans ((boxAt_other (by omega) _ _).trans (boxAt_same _ _ _))) 6).1
    have d_7 := (F.at hS (B := B + 1) (cs := #[.int .i64 d0, .int .i64 d1, .int .i64 d2, .int .i64 d3, .int .i64 d4, .string d5, d6, .int .i64 d7, .bool d8]) (t := 67) ((boxAt_other (by omega) _ _).trans ((boxAt_other (by omega) _ _).trans (boxAt_same _ _ _))) 7).1
    have d_8 := (F.at hS (B := B + 1) (cs := #[.int .i64 d0, .int .i64 d1, .int .i64 d2, .int .i64 d3, .int .i64 d4, .string d5, d6, .int .i64 d7, .bool d8]) (t := 67) ((boxAt_other (by omega) _ _).trans ((boxAt_other (by omega) _ _).trans (boxAt_same _ _ _))) 8).1
    go_simp
    try with_reducible rfl
   try simp only [td]
   refine tk0 (i := 2) rfl ?_
   try simp only [td]
   refine tk0 (i := 3) rfl ?_
   try simp only [td]
   refine tk (i := 4) (v := ?_) rfl (Or.inl ⟨rfl, ?hy5⟩) ?_
   case hy5 =>
    intro W hS
    have a0 := (F.at hS (B := (B + 1 + 1 + 1)) (cs := #[.int .i64 a, .int .i64 t]) (t := 73) (boxAt_same _ _ _) 0).1
    have d_0 := (F.at hS (B := B + 1) (cs := #[.int .i64 d0, .int .i64 d1, .int .i64 d2, .int .i64 d3, .int .i64 d4, .string d5, d6, .int .i64 d7, .bool d8]) (t := 67) ((boxAt_other (by omega) _ _).trans ((boxAt_other (by omega) _ _).trans (boxAt_same _ _ _))) 0).1
    have d_1 := (F.at hS (B := B + 1) (cs := #[.int .i64 d0, .int .i64 d1, .int .i64 d2, .int .i64 d3, .int .i64 d4, .string d5, d6, .int .i64 d7, .bool d8]) (t := 67) ((boxAt_other (by omega) _ _).trans ((boxAt_other (by omega) _ _).trans (boxAt_same _ _ _))) 1).1
    have d_2 := (F.at hS (B := B + 1) (cs := #[.int .i64 d0, .int .i64 d1, .int .i64 d2, .int .i64 d3, .int .i64 d4, .string d5, d6, .int .i64 d7, .bool d8]) (t := 67) ((boxAt_other (by omega) _ _).trans ((boxAt_other (by omega) _ _).trans (boxAt_same _ _ _))) 2).1
    have d_3 := (F.at hS (B := B + 1) (cs := #[.int .i64 d0, .int .i64 d1, .int .i64 d2, .int .i64 d3, .int .i64 d4, .string d5, d6, .int .i64 d7, .bool d8]) (t := 67) ((boxAt_other (by omega) _ _).trans ((boxAt_other (by omega) _ _).trans (boxAt_same _ _ _))) 3).1
    have d_4 := (F.at hS (B := B + 1) (cs := #[.int .i64 d0, .int .i64 d1, .int .i64 d2, .int .i64 d3, .int .i64 d4, .string d5, d6, .int .i64 d7, .bool d8]) (t := 67) ((boxAt_other (by omega) _ _).trans ((boxAt_other (by omega) _ _).trans (boxAt_same _ _ _))) 4).1
    have d_5 := (F.at hS (B := B + 1) (cs := #[.int .i64 d0, .int .i64 d1, .int .i64 d2, .int .i64 d3, .int .i64 d4, .string d5, d6, .int .i64 d7, .bool d8]) (t := 67) ((boxAt_other (by omega) _ _).trans ((boxAt_other (by omega) _ _).trans (boxAt_same _ _ _))) 5).1
    have d_6 := (F.at hS (B := B + 1) (cs := #[.int .i64 d0, .int .i64 d1, .int .i64 d2, .int .i64 d3, .int .i64 d4, .string d5, d6, .int .i64 d7, .bool d8]) (t := 67) ((boxAt_other (by omega) _ _).trans ((boxAt_other (by omega) _ _).trans (boxAt_same _ _ _))) 6).1
    have d_7 := (F.at hS (B := B + 1) (cs := #[.int .i64 d0, .int .i64 d1, .int .i64 d2, .int .i64 d3, .int .i64 d4, .string d5, d6, .int .i64 d7, .bool d8]) (t := 67) ((boxAt_other (by omega) _ _).trans ((boxAt_other (by omega) _ _).trans (boxAt_same _ _ _))) 7).1
    have d_8 := (F.at hS (B := B + 1) (cs := #[.int .i64 d0, .int .i64 d1, .int .i64 d2, .int .i64 d3, .int .i64 d4, .string d5, d6, .int .i64 d7, .bool d8]) (t := 67) ((boxAt_other (by omega) _ _).trans ((boxAt_other (by omega) _ _).trans (boxAt_same _ _ _))) 8).1
    go_simp
    try with_reducible rfl
   try simp only [td]
   refine rd 5 rfl fun K hK => ?_
   go_simp
   go_wp2_with (go_at_fn g; refine (c1 _ hHeld).mono ?_; rintro e wq ⟨rfl, hq⟩)
   refine hK.out _ _ (hq) (fun hX => ?_)
   clear hK K hHeld
   have hHeld := hX
   clear hX
   refine tk0 (i := 6) rfl ?_
   try simp only [td]
   refine tk0 (i := 7) rfl ?_
   try simp only [td]
   refine tk0 (i := 8) rfl ?_
   try simp only [td]
   refine tk0 (i := 9) rfl ?_
   try simp only [td]
   refine tk0 (i := 10) rfl ?_
   try simp only [td]
   refine wpAnyH_done (by kernel_rfl) ?_ _
   have hI := hHeld
   by_cases g : v1 = 0
   ·obtain rfl : v1 = 0 := g
    have hne : ((0 : Int) != 0) = false := rfl
    have a0 := (F.at hI (B := (B + 1 + 1 + 1)) (cs := #[.int .i64 a, .int .i64 t]) (t := 73) (boxAt_same _ _ _) 0).1
    have f0 := (F.at hI (B := (B + 1 + 1 + 1)) (cs := #[.int .i64 a, .int .i64 t]) (t := 73) (boxAt_same _ _ _) 0).2
    have HK := Lib.hid (show F.I (boxAt (B + 1 + 1 + 1) (.cells #[.int .i64 v0, .int .i64 t] 73 (0, 0)) (boxAt (B + 1 + 1) (.cells #[.int .i64 0, .int .i64 0, .int .i64 0] 27 (0, 0)) (boxAt (B + 1) (.cells #[.int .i64 d0, .int .i64 d1, .int .i64 d2, .int .i64 d3, .int .i64 d4, .string d5, d6, .int .i64 d7, .bool d8] 67 (0, 0)) (boxAt B (.cells #[.int .i64 s, .int .i64 a, .int .i64 t] 27 (0, 0)) bx)))) (wq.setCell ⟨(B + 1 + 1 + 1), 0, none⟩ (.int .i64 v0)) from F.less (F.set hI (boxAt_same _ _ _) 0 (.int .i64 v0)) fun b o ho => (boxAt_twice b).trans ho)
    have HST := Lib.hid (show BothSt r a t 1 v0 t from .inr (.inl ⟨rfl, by rw [HRP.out], by rw [HRP.out], rfl⟩))
    clear hI
    go_wp2
    exact ⟨⟨1, _, _, by rfl, by omega, HST, HK⟩, by simp [intOf]⟩
   ·have hne : (v1 != 0) = true := bne_iff_ne.2 g
    have HV := Lib.hid (show kBoth r s a t = (0, 0, 0, v1) by unfold kBoth; rw [HRP.out]; exact if_neg g)
    have z0 := (F.at hI (B := (B + 1 + 1)) (cs := #[.int .i64 0, .int .i64 0, .int .i64 0]) (t := 27) ((boxAt_other (by omega) _ _).trans (boxAt_same _ _ _)) 0).1
    have y0 := (F.at hI (B := (B + 1 + 1)) (cs := #[.int .i64 0, .int .i64 0, .int .i64 0]) (t := 27) ((boxAt_other (by omega) _ _).trans (boxAt_same _ _ _)) 0).2
    have z1 := (F.at hI (B := (B + 1 + 1)) (cs := #[.int .i64 0, .int .i64 0, .int .i64 0]) (t := 27) ((boxAt_other (by omega) _ _).trans (boxAt_same _ _ _)) 1).1
    have y1 := (F.at hI (B := (B + 1 + 1)) (cs := #[.int .i64 0, .int .i64 0, .int .i64 0]) (t := 27) ((boxAt_other (by omega) _ _).trans (boxAt_same _ _ _)) 1).2
    have z2 := (F.at hI (B := (B + 1 + 1)) (cs := #[.int .i64 0, .int .i64 0, .int .i64 0]) (t := 27) ((boxAt_other (by omega) _ _).trans (boxAt_same _ _ _)) 2).1
    have y2 := (F.at hI (B := (B + 1 + 1)) (cs := #[.int .i64 0, .int .i64 0, .int .i64 0]) (t := 27) ((boxAt_other (by omega) _ _).trans (boxAt_same _ _ _)) 2).2
    have HK := Lib.hid (F.mark hI (M := (B + 1 + 1)) ((boxAt_other (by omega) _ _).trans (boxAt_same _ _ _)) 0 0 0)
    clear hI
    go_wp2
    refine bodyPost_ret (mkb_result (fn := Try.f27) (p := 6) (u := 7) rfl _ _ (B + 1 + 1) 0 0 0 (.int .i64 v1) rfl rfl (F.box HK.out _ _ (boxAt_same _ _ _))) rfl ?_
    exact ⟨by rw [HV.out]; rfl, HFIN.out _ _ HK.out fun b hb => (boxAt_other (by omega) _ _).trans ((boxAt_other (by omega) _ _).trans ((boxAt_other (by omega) _ _).trans ((boxAt_other (by omega) _ _).trans (boxAt_other (by omega) _ _))))⟩
  ·as_aux_lemma =>
   have c1 := fun W (hI : F.I (boxAt (B + 1 + 1 + 1) (.cells #[.int .i64 (r a).1, .int .i64 t] 73 (0, 0)) (boxAt (B + 1 + 1) (.cells #[.int .i64 0, .int .i64 0, .int .i64 0] 27 (0, 0)) (boxAt (B + 1) (.cells #[.int .i64 d0, .int .i64 d1, .int .i64 d2, .int .i64 d3, .int .i64 d4, .string d5, d6, .int .i64 d7, .bool d8] 67 (0, 0)) (boxAt B (.cells #[.int .i64 s, .int .i64 a, .int .i64 t] 27 (0, 0)) bx)))) W) => HW.out t _ W hI HT.out
   obtain ⟨rp, hrp⟩ : ∃ rp, r t = rp := ⟨_, rfl⟩
   obtain ⟨v0, v1⟩ := rp
   simp only [hrp] at c1
   unfold erV at c1
   have HRP := Lib.hid hrp
   clear hrp hst
   go_wp2_with fail
   refine wp_region_held_drew (S := fun X => F.I (boxAt (B + 1 + 1 + 1) (.cells #[.int .i64 (r a).1, .int .i64 t] 73 (0, 0)) (boxAt (B + 1 + 1) (.cells #[.int .i64 0, .int .i64 0, .int .i64 0] 27 (0, 0)) (boxAt (B + 1) (.cells #[.int .i64 d0, .int .i64 d1, .int .i64 d2, .int .i64 d3, .int .i64 d4, .string d5, d6, .int .i64 d7, .bool d8] 67 (0, 0)) (boxAt B (.cells #[.int .i64 s, .int .i64 a, .int .i64 t] 27 (0, 0)) bx)))) X) (by kernel_rfl) (F.drew hkb.out) (fun hHeld => ?_)
   refine tk0 (i := 0) rfl ?_
   try simp only [td]
   refine tk (i := 1) (v := ?_) rfl (Or.inl ⟨rfl, ?hy12⟩) ?_
   case hy12 =>
    intro W hS
    have a0 := (F.at hS (B := (B + 1 + 1 + 1)) (cs := #[.int .i64 (r a).1, .int .i64 t]) (t := 73) (boxAt_same _ _ _) 1).1
    have d_0 := (F.at hS (B := B + 1) (cs := #[.int .i64 d0, .int .i64 d1, .int .i64 d2, .int .i64 d3, .int .i64 d4, .string d5, d6, .int .i64 d7, .bool d8]) (t := 67) ((boxAt_other (by omega) _ _).trans ((boxAt_other (by omega) _ _).trans (boxAt_same _ _ _))) 0).1
    have d_1 := (F.at hS (B := B + 1) (cs := #[.int .i64 d0, .int .i64 d1, .int .i64 d2, .int .i64 d3, .int .i64 d4, .string d5, d6, .int .i64 d7, .bool d8]) (t := 67) ((boxAt_other (by omega) _ _).trans ((boxAt_other (by omega) _ _).trans (boxAt_same _ _ _))) 1).1
    have d_2 := (F.at hS (B := B + 1) (cs := #[.int .i64 d0, .int .i64 d1, .int .i64 d2, .int .i64 d3, .int .i64 d4, .string d5, d6, .int .i64 d7, .bool d8]) (t := 67) ((boxAt_other (by omega) _ _).trans ((boxAt_other (by omega) _ _).trans (boxAt_same _ _ _))) 2).1
    have d_3 := (F.at hS (B := B + 1) (cs := #[.int .i64 d0, .int .i64 d1, .int .i64 d2, .int .i64 d3, .int .i64 d4, .string d5, d6, .int .i64 d7, .bool d8]) (t := 67) ((boxAt_other (by omega) _ _).trans ((boxAt_other (by omega) _ _).trans (boxAt_same _ _ _))) 3).1
    have d_4 := (F.at hS (B := B + 1) (cs := #[.int .i64 d0, .int .i64 d1, .int .i64 d2, .int .i64 d3, .int .i64 d4, .string d5, d6, .int .i64 d7, .bool d8]) (t := 67) ((boxAt_other (by omega) _ _).trans ((boxAt_other (by omega) _ _).trans (boxAt_same _ _ _))) 4).1
    have d_5 := (F.at hS (B := B + 1) (cs := #[.int .i64 d0, .int .i64 d1, .int .i64 d2, .int .i64 d3, .int .i64 d4, .string d5, d6, .int .i64 d7, .bool d8]) (t := 67) ((boxAt_other (by omega) _ _).trans ((boxAt_other (by omega) _ _).trans (boxAt_same _ _ _))) 5).1
    have d_6 := (F.at hS (B := B + 1) (cs := #[.int .i64 d0, .int .i64 d1, .int .i64 d2, .int .i64 d3, .int .i64 d4, .string d5, d6, .int .i64 d7, .bool d8]) (t := 67) ((boxAt_other (by omega) _ _).trans ((boxAt_other (by omega) _ _).trans (boxAt_same _ _ _))) 6).1
    have d_7 := (F.at hS (B := B + 1) (cs := #[.int .i64 d0, .int .i64 d1, .int .i64 d2, .int .i64 d3, .int .i64 d4, .string d5, d6, .int .i64 d7, .bool d8]) (t := 67) ((boxAt_other (by omega) _ _).trans ((boxAt_other (by omega) _ _).trans (boxAt_same _ _ _))) 7).1
    have d_8 := (F.at hS (B := B + 1) (cs := #[.int .i64 d0, .int .i64 d1, .int .i64 d2, .int .i64 d3, .int .i64 d4, .string d5, d6, .int .i64 d7, .bool d8]) (t := 67) ((boxAt_other (by omega) _ _).trans ((boxAt_other (by omega) _ _).trans (boxAt_same _ _ _))) 8).1
    go_simp
    try with_reducible rfl
   try simp only [td]
   refine tk0 (i := 2) rfl ?_
   try simp only [td]
   refine tk0 (i := 3) rfl ?_
   try simp only [td]
   refine tk (i := 4) (v := ?_) rfl (Or.inl ⟨rfl, ?hy15⟩) ?_
   case hy15 =>
    intro W hS
    have a0 := (F.at hS (B := (B + 1 + 1 + 1)) (cs := #[.int .i64 (r a).1, .int .i64 t]) (t := 73) (boxAt_same _ _ _) 1).1
    have d_0 := (F.at hS (B := B + 1) (cs := #[.int .i64 d0, .int .i64 d1, .int .i64 d2, .int .i64 d3, .int .i64 d4, .string d5, d6, .int .i64 d7, .bool d8]) (t := 67) ((boxAt_other (by omega) _ _).trans ((boxAt_other (by omega) _ _).trans (boxAt_same _ _ _))) 0).1
    have d_1 := (F.at hS (B := B + 1) (cs := #[.int .i64 d0, .int .i64 d1, .int .i64 d2, .int .i64 d3, .int .i64 d4, .string d5, d6, .int .i64 d7, .bool d8]) (t := 67) ((boxAt_other (by omega) _ _).trans ((boxAt_other (by omega) _ _).trans (boxAt_same _ _ _))) 1).1
    have d_2 := (F.at hS (B := B + 1) (cs := #[.int .i64 d0, .int .i64 d1, .int .i64 d2, .int .i64 d3, .int .i64 d4, .string d5, d6, .int .i64 d7, .bool d8]) (t := 67) ((boxAt_other (by omega) _ _).trans ((boxAt_other (by omega) _ _).trans (boxAt_same _ _ _))) 2).1
    have d_3 := (F.at hS (B := B + 1) (cs := #[.int .i64 d0, .int .i64 d1, .int .i64 d2, .int .i64 d3, .int .i64 d4, .string d5, d6, .int .i64 d7, .bool d8]) (t := 67) ((boxAt_other (by omega) _ _).trans ((boxAt_other (by omega) _ _).trans (boxAt_same _ _ _))) 3).1
    have d_4 := (F.at hS (B := B + 1) (cs := #[.int .i64 d0, .int .i64 d1, .int .i64 d2, .int .i64 d3, .int .i64 d4, .string d5, d6, .int .i64 d7, .bool d8]) (t := 67) ((boxAt_other (by omega) _ _).trans ((boxAt_other (by omega) _ _).trans (boxAt_same _ _ _))) 4).1
    have d_5 := (F.at hS (B := B + 1) (cs := #[.int .i64 d0, .int .i64 d1, .int .i64 d2, .int .i64 d3, .int .i64 d4, .string d5, d6, .int .i64 d7, .bool d8]) (t := 67) ((boxAt_other (by omega) _ _).trans ((boxAt_other (by omega) _ _).trans (boxAt_same _ _ _))) 5).1
    have d_6 := (F.at hS (B := B + 1) (cs := #[.int .i64 d0, .int .i64 d1, .int .i64 d2, .int .i64 d3, .int .i64 d4, .string d5, d6, .int .i64 d7, .bool d8]) (t := 67) ((boxAt_other (by omega) _ _).trans ((boxAt_other (by omega) _ _).trans (boxAt_same _ _ _))) 6).1
    have d_7 := (F.at hS (B := B + 1) (cs := #[.int .i64 d0, .int .i64 d1, .int .i64 d2, .int .i64 d3, .int .i64 d4, .string d5, d6, .int .i64 d7, .bool d8]) (t := 67) ((boxAt_other (by omega) _ _).trans ((boxAt_other (by omega) _ _).trans (boxAt_same _ _ _))) 7).1
    have d_8 := (F.at hS (B := B + 1) (cs := #[.int .i64 d0, .int .i64 d1, .int .i64 d2, .int .i64 d3, .int .i64 d4, .string d5, d6, .int .i64 d7, .bool d8]) (t := 67) ((boxAt_other (by omega) _ _).trans ((boxAt_other (by omega) _ _).trans (boxAt_same _ _ _))) 8).1
    go_simp
    try with_reducible rfl
   try simp only [td]
   refine rd 5 rfl fun K hK => ?_
   go_simp
   go_wp2_with (go_at_fn g; refine (c1 _ hHeld).mono ?_; rintro e wq ⟨rfl, hq⟩)
   refine hK.out _ _ (hq) (fun hX => ?_)
   clear hK K hHeld
   have hHeld := hX
   clear hX
   refine tk0 (i := 6) rfl ?_
   try simp only [td]
   refine tk0 (i := 7) rfl ?_
   try simp only [td]
   refine tk0 (i := 8) rfl ?_
   try simp only [td]
   refine tk0 (i := 9) rfl ?_
   try simp only [td]
   refine tk0 (i := 10) rfl ?_
   try simp only [td]
   refine wpAnyH_done (by kernel_rfl) ?_ _
   have hI := hHeld
   by_cases g : v1 = 0
   ·obtain rfl : v1 = 0 := g
    have hne : ((0 : Int) != 0) = false := rfl
    have a0 := (F.at hI (B := (B + 1 + 1 + 1)) (cs := #[.int .i64 (r a).1, .int .i64 t]) (t := 73) (boxAt_same _ _ _) 1).1
    have f0 := (F.at hI (B := (B + 1 + 1 + 1)) (cs := #[.int .i64 (r a).1, .int .i64 t]) (t := 73) (boxAt_same _ _ _) 1).2
    have HK := Lib.hid (show F.I (boxAt (B + 1 + 1 + 1) (.cells #[.int .i64 (r a).1, .int .i64 v0] 73 (0, 0)) (boxAt (B + 1 + 1) (.cells #[.int .i64 0, .int .i64 0, .int .i64 0] 27 (0, 0)) (boxAt (B + 1) (.cells #[.int .i64 d0, .int .i64 d1, .int .i64 d2, .int .i64 d3, .int .i64 d4, .string d5, d6, .int .i64 d7, .bool d8] 67 (0, 0)) (boxAt B (.cells #[.int .i64 s, .int .i64 a, .int .i64 t] 27 (0, 0)) bx)))) (wq.setCell ⟨(B + 1 + 1 + 1), 1, none⟩ (.int .i64 v0)) from F.less (F.set hI (boxAt_same _ _ _) 1 (.int .i64 v0)) fun b o ho => (boxAt_twice b).trans ho)
    have HST := Lib.hid (show BothSt r a t 2 (r a).1 v0 from .inr (.inr ⟨rfl, g1, rfl, by rw [HRP.out], by rw [HRP.out]⟩))
    clear hI
    go_wp2
    exact ⟨⟨2, _, _, by rfl, by omega, HST, HK⟩, by simp [intOf]⟩
   ·have hne : (v1 != 0) = true := bne_iff_ne.2 g
    have HV := Lib.hid (show kBoth r s a t = (0, 0, 0, v1) by unfold kBoth; rw [if_pos g1, HRP.out]; exact if_neg g)
    have z0 := (F.at hI (B := (B + 1 + 1)) (cs := #[.int .i64 0, .int .i64 0, .int .i64 0]) (t := 27) ((boxAt_other (by omega) _ _).trans (boxAt_same _ _ _)) 0).1
    have y0 := (F.at hI (B := (B + 1 + 1)) (cs := #[.int .i64 0, .int .i64 0, .int .i64 0]) (t := 27) ((boxAt_other (by omega) _ _).trans (boxAt_same _ _ _)) 0).2
    have z1 := (F.at hI (B := (B + 1 + 1)) (cs := #[.int .i64 0, .int .i64 0, .int .i64 0]) (t := 27) ((boxAt_other (by omega) _ _).trans (boxAt_same _ _ _)) 1).1
    have y1 := (F.at hI (B := (B + 1 + 1)) (cs := #[.int .i64 0, .int .i64 0, .int .i64 0]) (t := 27) ((boxAt_other (by omega) _ _).trans (boxAt_same _ _ _)) 1).2
    have z2 := (F.at hI (B := (B + 1 + 1)) (cs := #[.int .i64 0, .int .i64 0, .int .i64 0]) (t := 27) ((boxAt_other (by omega) _ _).trans (boxAt_same _ _ _)) 2).1
    have y2 := (F.at hI (B := (B + 1 + 1)) (cs := #[.int .i64 0, .int .i64 0, .int .i64 0]) (t := 27) ((boxAt_other (by omega) _ _).trans (boxAt_same _ _ _)) 2).2
    have HK := Lib.hid (F.mark hI (M := (B + 1 + 1)) ((boxAt_other (by omega) _ _).trans (boxAt_same _ _ _)) 0 0 0)
    clear hI
    go_wp2
    refine bodyPost_ret (mkb_result (fn := Try.f27) (p := 6) (u := 7) rfl _ _ (B + 1 + 1) 0 0 0 (.int .i64 v1) rfl rfl (F.box HK.out _ _ (boxAt_same _ _ _))) rfl ?_
    exact ⟨by rw [HV.out]; rfl, HFIN.out _ _ HK.out fun b hb => (boxAt_other (by omega) _ _).trans ((boxAt_other (by omega) _ _).trans ((boxAt_other (by omega) _ _).trans ((boxAt_other (by omega) _ _).trans (boxAt_other (by omega) _ _))))⟩
  ·as_aux_lemma =>
   have HV := Lib.hid (show kBoth r s a t = (s, (r a).1, (r t).1, 0) by unfold kBoth; rw [if_pos g1, if_pos g2])
   have a0 := (F.at hkb.out (B := (B + 1 + 1 + 1)) (cs := #[.int .i64 (r a).1, .int .i64 (r t).1]) (t := 73) (boxAt_same _ _ _) 0).1
   have a1 := (F.at hkb.out (B := (B + 1 + 1 + 1)) (cs := #[.int .i64 (r a).1, .int .i64 (r t).1]) (t := 73) (boxAt_same _ _ _) 1).1
   have z0 := (F.at hkb.out (B := (B + 1 + 1)) (cs := #[.int .i64 0, .int .i64 0, .int .i64 0]) (t := 27) ((boxAt_other (by omega) _ _).trans (boxAt_same _ _ _)) 0).1
   have y0 := (F.at hkb.out (B := (B + 1 + 1)) (cs := #[.int .i64 0, .int .i64 0, .int .i64 0]) (t := 27) ((boxAt_other (by omega) _ _).trans (boxAt_same _ _ _)) 0).2
   have z1 := (F.at hkb.out (B := (B + 1 + 1)) (cs := #[.int .i64 0, .int .i64 0, .int .i64 0]) (t := 27) ((boxAt_other (by omega) _ _).trans (boxAt_same _ _ _)) 1).1
   have y1 := (F.at hkb.out (B := (B + 1 + 1)) (cs := #[.int .i64 0, .int .i64 0, .int .i64 0]) (t := 27) ((boxAt_other (by omega) _ _).trans (boxAt_same _ _ _)) 1).2
   have z2 := (F.at hkb.out (B := (B + 1 + 1)) (cs := #[.int .i64 0, .int .i64 0, .int .i64 0]) (t := 27) ((boxAt_other (by omega) _ _).trans (boxAt_same _ _ _)) 2).1
   have y2 := (F.at hkb.out (B := (B + 1 + 1)) (cs := #[.int .i64 0, .int .i64 0, .int .i64 0]) (t := 27) ((boxAt_other (by omega) _ _).trans (boxAt_same _ _ _)) 2).2
   have m0 := (F.at hkb.out (B := B) (cs := #[.int .i64 s, .int .i64 a, .int .i64 t]) (t := 27) ((boxAt_other (by omega) _ _).trans ((boxAt_other (by omega) _ _).trans ((boxAt_other (by omega) _ _).trans (boxAt_same _ _ _)))) 0).1
   have HK := Lib.hid (F.mark hkb.out (M := (B + 1 + 1)) ((boxAt_other (by omega) _ _).trans (boxAt_same _ _ _)) s (r a).1 (r t).1)
   clear hst
   go_wp2
   refine bodyPost_ret (mkb_result (fn := Try.f27) (p := 6) (u := 7) rfl _ _ (B + 1 + 1) s (r a).1 (r t).1 (.int .i64 0) rfl rfl (F.box HK.out _ _ (boxAt_same _ _ _))) rfl ?_
   exact ⟨by rw [HV.out]; rfl, HFIN.out _ _ HK.out fun b hb => (boxAt_other (by omega) _ _).trans ((boxAt_other (by omega) _ _).trans ((boxAt_other (by omega) _ _).trans ((boxAt_other (by omega) _ _).trans (boxAt_other (by omega) _ _))))⟩
end Go.Proofs.Ytmedickofiielaa
