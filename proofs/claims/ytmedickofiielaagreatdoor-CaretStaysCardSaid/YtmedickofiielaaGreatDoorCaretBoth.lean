/- caret's 'both', on the program's side. -/
import Derived.Test.YtmedickofiielaaGreatDoorGReads64
import Derived.Deep.CutRange
import Derived.Shelf.Abstract
import Derived.Deep.RegionHeld
import Derived.Deep.DeepCutAuto
import Derived.Deep.Cut
import Derived.Test.YtmedickofiielaaGreatDoorGSpansPlain
namespace Go.Proofs.YtmedickofiielaaGreatDoor
open Go.RowKit

theorem infoMarkB : (Tryz.prog.info? 30).map (·.size) = some 3 := by kernel_rfl
theorem mkb_result {fn : Func} {p u : Tmp} (hfn : fn.results = #[.cell p 30, .tmp u]) (tmps : Array Value) (W : World) (g : Nat) (s a t : Int) (c : Value) (hp : tmps.getD p undef = .pointer (some ⟨g, 0, none⟩)) (hc : tmps.getD u undef = c)
  (hg : W.heap[g]? = some (.cells #[.int .i64 s, .int .i64 a, .int .i64 t] 30 (0, 0))) : (results fn tmps).run Tryz.prog W = .ok (.tuple #[mkA s a t, c]) W := by
 rw [results_cell_tmp hfn, hp, hc]
 have hl := run_loadVar_row (P := Tryz.prog) W g 30 30 #[.int .i64 s, .int .i64 a, .int .i64 t] (0, 0) _ hg Tryz.underlying30 rfl infoMarkB
 simp [asAddr, Result.andThen, hl, mkA]
set_option maxRecDepth 100000 in
set_option maxHeartbeats 8000000 in
theorem both_doc (F : FB) (g : Nat) (hent : ∀ (args : Array Value) (W : World), (callFunc g args).run Tryz.prog W = .ok (.enter g args) W) (v : Value) (r : Int → Int × Int)
  (hway : ∀ (p : Int) (bx : Nat → Option Obj) (W : World), F.I bx W → (Lit.int .i64 p).wf = true → Calls Tryz.prog g #[v, .int .i64 p] W fun e W' => e = .returned (erV (r p)) ∧ F.I bx W')
  (s a t : Int) (wa : (Lit.int .i64 a).wf = true) (wt : (Lit.int .i64 t).wf = true) (bx : Nat → Option Obj) (W : World) (h : F.I bx W) :
  Calls Tryz.prog 26 #[mkA s a t, v, .func (.func g) #[] #[]] W fun e W' => e = .returned (mkV (kBoth r s a t)) ∧ F.I bx W' := by
 have h3 := F.new (F.new (F.new h #[.int .i64 s, .int .i64 a, .int .i64 t] 30) #[.int .i64 0, .int .i64 0, .int .i64 0] 30) #[.int .i64 a, .int .i64 t] 114
 have h2 := F.new (F.new h #[.int .i64 s, .int .i64 a, .int .i64 t] 30) #[.int .i64 0, .int .i64 0, .int .i64 0] 30
 have z1 : (W.alloc (.cells #[.int .i64 s, .int .i64 a, .int .i64 t] 30)).heap.size = W.heap.size + 1 := by simp
 have z3 : ((W.alloc (.cells #[.int .i64 s, .int .i64 a, .int .i64 t] 30)).alloc (.cells #[.int .i64 0, .int .i64 0, .int .i64 0] 30)).heap.size = W.heap.size + 1 + 1 := by simp
 rw [z1] at h2
 rw [z1, z3] at h3
 clear z1
 obtain ⟨B, hB⟩ : ∃ B, W.heap.size = B := ⟨_, rfl⟩
 rw [hB] at h2 h3 z3
 have HFIN := Lib.hid (show ∀ (bz : Nat → Option Obj) (W' : World), F.I bz W' → (∀ b, b < B → bz b = bx b) → F.I bx W' from fun bz W' hz hk => F.drop h hz fun b hb => hk b (by omega))
 have H2 := Lib.hid h2
 have H3 := Lib.hid h3
 have HW := Lib.hid hway
 have HA := Lib.hid wa
 have HT := Lib.hid wt
 clear h h2 h3 hway wa wt
 unfold mkA
 go_enter Tryz.func26, Tryz.ntmps26
 go_upto_region 1 with fail
 generalize ((W.alloc (.cells #[.int .i64 s, .int .i64 a, .int .i64 t] 30)).alloc (.cells #[.int .i64 0, .int .i64 0, .int .i64 0] 30)) = w0 at H2 H3 z3 ⊢
 clear hB
 have m0 := (F.at H2.out (B := B) (cs := #[.int .i64 s, .int .i64 a, .int .i64 t]) (t := 30) ((boxAt_other (by omega) _ _).trans (boxAt_same _ _ _)) 1).1
 have m1 := (F.at H2.out (B := B) (cs := #[.int .i64 s, .int .i64 a, .int .i64 t]) (t := 30) ((boxAt_other (by omega) _ _).trans (boxAt_same _ _ _)) 2).1
 go_upto_region 2 with fail
 generalize w0.alloc (.cells #[.int .i64 a, .int .i64 t] 114) = w1 at H3 ⊢
 clear m0 m1 z3 H2
 go_wp2_with fail
 go_loopw [17] (fun ix wr => ∃ (k : Nat) (x y : Int), ix = .int .i64 k ∧ k ≤ 2 ∧ RowKit.Hid (BothSt r a t k x y) ∧ RowKit.Hid (F.I (boxAt (B + 1 + 1) (.cells #[.int .i64 x, .int .i64 y] 114 (0, 0)) (boxAt (B + 1) (.cells #[.int .i64 0, .int .i64 0, .int .i64 0] 30 (0, 0)) (boxAt B (.cells #[.int .i64 s, .int .i64 a, .int .i64 t] 30 (0, 0)) bx))) wr)) (fun ix _ => 2 - (intOf ix).toNat)
 case atStart => exact ⟨0, a, t, rfl, by omega, Lib.hid (.inl ⟨rfl, rfl, rfl⟩), H3⟩
 case round =>
  obtain ⟨k, x, y, rfl, hk, hst, hkb⟩ := hrel
  clear H3
  rcases hst.out with ⟨rfl, hx, hy⟩ | ⟨rfl, g1, hx, hy⟩ | ⟨rfl, g1, hx, g2, hy⟩
  all_goals subst x
  all_goals subst y
  ·as_aux_lemma =>
   have a0 := (F.at hkb.out (B := (B + 1 + 1)) (cs := #[.int .i64 a, .int .i64 t]) (t := 114) (boxAt_same _ _ _) 0).1
   have c1 := HW.out a _ wr hkb.out HA.out
   obtain ⟨rp, hrp⟩ : ∃ rp, r a = rp := ⟨_, rfl⟩
   obtain ⟨v0, v1⟩ := rp
   rw [hrp] at c1
   have HRP := Lib.hid hrp
   clear hrp hst
   go_wp2_with fail
   refine c1.mono ?_
   clear c1 a0
   rintro e w3 ⟨rfl, hI⟩
   unfold erV
   by_cases g : v1 = 0
   ·obtain rfl : v1 = 0 := g
    have hne : ((0 : Int) != 0) = false := rfl
    have a0 := (F.at hI (B := (B + 1 + 1)) (cs := #[.int .i64 a, .int .i64 t]) (t := 114) (boxAt_same _ _ _) 0).1
    have f0 := (F.at hI (B := (B + 1 + 1)) (cs := #[.int .i64 a, .int .i64 t]) (t := 114) (boxAt_same _ _ _) 0).2
    have HK := Lib.hid (show F.I (boxAt (B + 1 + 1) (.cells #[.int .i64 v0, .int .i64 t] 114 (0, 0)) (boxAt (B + 1) (.cells #[.int .i64 0, .int .i64 0, .int .i64 0] 30 (0, 0)) (boxAt B (.cells #[.int .i64 s, .int .i64 a, .int .i64 t] 30 (0, 0)) bx))) (w3.setCell ⟨(B + 1 + 1), 0, none⟩ (.int .i64 v0)) from F.less (F.set hI (boxAt_same _ _ _) 0 (.int .i64 v0)) fun b o ho => (boxAt_twice b).trans ho)
    have HST := Lib.hid (show BothSt r a t 1 v0 t from .inr (.inl ⟨rfl, by rw [HRP.out], by rw [HRP.out], rfl⟩))
    clear hI
    go_wp2
    exact ⟨⟨1, _, _, by rfl, by omega, HST, HK⟩, by simp [intOf]⟩
   ·have hne : (v1 != 0) = true := bne_iff_ne.2 g
    have HV := Lib.hid (show kBoth r s a t = (0, 0, 0, v1) by unfold kBoth; rw [HRP.out]; exact if_neg g)
    have z0 := (F.at hI (B := (B + 1)) (cs := #[.int .i64 0, .int .i64 0, .int .i64 0]) (t := 30) ((boxAt_other (by omega) _ _).trans (boxAt_same _ _ _)) 0).1
    have y0 := (F.at hI (B := (B + 1)) (cs := #[.int .i64 0, .int .i64 0, .int .i64 0]) (t := 30) ((boxAt_other (by omega) _ _).trans (boxAt_same _ _ _)) 0).2
    have z1 := (F.at hI (B := (B + 1)) (cs := #[.int .i64 0, .int .i64 0, .int .i64 0]) (t := 30) ((boxAt_other (by omega) _ _).trans (boxAt_same _ _ _)) 1).1
    have y1 := (F.at hI (B := (B + 1)) (cs := #[.int .i64 0, .int .i64 0, .int .i64 0]) (t := 30) ((boxAt_other (by omega) _ _).trans (boxAt_same _ _ _)) 1).2
    have z2 := (F.at hI (B := (B + 1)) (cs := #[.int .i64 0, .int .i64 0, .int .i64 0]) (t := 30) ((boxAt_other (by omega) _ _).trans (boxAt_same _ _ _)) 2).1
    have y2 := (F.at hI (B := (B + 1)) (cs := #[.int .i64 0, .int .i64 0, .int .i64 0]) (t := 30) ((boxAt_other (by omega) _ _).trans (boxAt_same _ _ _)) 2).2
    have HK := Lib.hid (F.mark hI (M := (B + 1)) ((boxAt_other (by omega) _ _).trans (boxAt_same _ _ _)) 0 0 0)
    clear hI
    go_wp2
    refine bodyPost_ret (mkb_result (fn := Tryz.f26) (p := 6) (u := 7) rfl _ _ (B + 1) 0 0 0 (.int .i64 v1) rfl rfl (F.box HK.out _ _ (boxAt_same _ _ _))) rfl ?_
    exact ⟨by rw [HV.out]; rfl, HFIN.out _ _ HK.out fun b hb => (boxAt_other (by omega) _ _).trans ((boxAt_other (by omega) _ _).trans ((boxAt_other (by omega) _ _).trans (boxAt_other (by omega) _ _)))⟩
  ·as_aux_lemma =>
   have a0 := (F.at hkb.out (B := (B + 1 + 1)) (cs := #[.int .i64 (r a).1, .int .i64 t]) (t := 114) (boxAt_same _ _ _) 1).1
   have c1 := HW.out t _ wr hkb.out HT.out
   obtain ⟨rp, hrp⟩ : ∃ rp, r t = rp := ⟨_, rfl⟩
   obtain ⟨v0, v1⟩ := rp
   rw [hrp] at c1
   have HRP := Lib.hid hrp
   clear hrp hst
   go_wp2_with fail
   refine c1.mono ?_
   clear c1 a0
   rintro e w3 ⟨rfl, hI⟩
   unfold erV
   by_cases g : v1 = 0
   ·obtain rfl : v1 = 0 := g
    have hne : ((0 : Int) != 0) = false := rfl
    have a0 := (F.at hI (B := (B + 1 + 1)) (cs := #[.int .i64 (r a).1, .int .i64 t]) (t := 114) (boxAt_same _ _ _) 1).1
    have f0 := (F.at hI (B := (B + 1 + 1)) (cs := #[.int .i64 (r a).1, .int .i64 t]) (t := 114) (boxAt_same _ _ _) 1).2
    have HK := Lib.hid (show F.I (boxAt (B + 1 + 1) (.cells #[.int .i64 (r a).1, .int .i64 v0] 114 (0, 0)) (boxAt (B + 1) (.cells #[.int .i64 0, .int .i64 0, .int .i64 0] 30 (0, 0)) (boxAt B (.cells #[.int .i64 s, .int .i64 a, .int .i64 t] 30 (0, 0)) bx))) (w3.setCell ⟨(B + 1 + 1), 1, none⟩ (.int .i64 v0)) from F.less (F.set hI (boxAt_same _ _ _) 1 (.int .i64 v0)) fun b o ho => (boxAt_twice b).trans ho)
    have HST := Lib.hid (show BothSt r a t 2 (r a).1 v0 from .inr (.inr ⟨rfl, g1, rfl, by rw [HRP.out], by rw [HRP.out]⟩))
    clear hI
    go_wp2
    exact ⟨⟨2, _, _, by rfl, by omega, HST, HK⟩, by simp [intOf]⟩
   ·have hne : (v1 != 0) = true := bne_iff_ne.2 g
    have HV := Lib.hid (show kBoth r s a t = (0, 0, 0, v1) by unfold kBoth; rw [if_pos g1, HRP.out]; exact if_neg g)
    have z0 := (F.at hI (B := (B + 1)) (cs := #[.int .i64 0, .int .i64 0, .int .i64 0]) (t := 30) ((boxAt_other (by omega) _ _).trans (boxAt_same _ _ _)) 0).1
    have y0 := (F.at hI (B := (B + 1)) (cs := #[.int .i64 0, .int .i64 0, .int .i64 0]) (t := 30) ((boxAt_other (by omega) _ _).trans (boxAt_same _ _ _)) 0).2
    have z1 := (F.at hI (B := (B + 1)) (cs := #[.int .i64 0, .int .i64 0, .int .i64 0]) (t := 30) ((boxAt_other (by omega) _ _).trans (boxAt_same _ _ _)) 1).1
    have y1 := (F.at hI (B := (B + 1)) (cs := #[.int .i64 0, .int .i64 0, .int .i64 0]) (t := 30) ((boxAt_other (by omega) _ _).trans (boxAt_same _ _ _)) 1).2
    have z2 := (F.at hI (B := (B + 1)) (cs := #[.int .i64 0, .int .i64 0, .int .i64 0]) (t := 30) ((boxAt_other (by omega) _ _).trans (boxAt_same _ _ _)) 2).1
    have y2 := (F.at hI (B := (B + 1)) (cs := #[.int .i64 0, .int .i64 0, .int .i64 0]) (t := 30) ((boxAt_other (by omega) _ _).trans (boxAt_same _ _ _)) 2).2
    have HK := Lib.hid (F.mark hI (M := (B + 1)) ((boxAt_other (by omega) _ _).trans (boxAt_same _ _ _)) 0 0 0)
    clear hI
    go_wp2
    refine bodyPost_ret (mkb_result (fn := Tryz.f26) (p := 6) (u := 7) rfl _ _ (B + 1) 0 0 0 (.int .i64 v1) rfl rfl (F.box HK.out _ _ (boxAt_same _ _ _))) rfl ?_
    exact ⟨by rw [HV.out]; rfl, HFIN.out _ _ HK.out fun b hb => (boxAt_other (by omega) _ _).trans ((boxAt_other (by omega) _ _).trans ((boxAt_other (by omega) _ _).trans (boxAt_other (by omega) _ _)))⟩
  ·as_aux_lemma =>
   have HV := Lib.hid (show kBoth r s a t = (s, (r a).1, (r t).1, 0) by unfold kBoth; rw [if_pos g1, if_pos g2])
   have a0 := (F.at hkb.out (B := (B + 1 + 1)) (cs := #[.int .i64 (r a).1, .int .i64 (r t).1]) (t := 114) (boxAt_same _ _ _) 0).1
   have a1 := (F.at hkb.out (B := (B + 1 + 1)) (cs := #[.int .i64 (r a).1, .int .i64 (r t).1]) (t := 114) (boxAt_same _ _ _) 1).1
   have z0 := (F.at hkb.out (B := (B + 1)) (cs := #[.int .i64 0, .int .i64 0, .int .i64 0]) (t := 30) ((boxAt_other (by omega) _ _).trans (boxAt_same _ _ _)) 0).1
   have y0 := (F.at hkb.out (B := (B + 1)) (cs := #[.int .i64 0, .int .i64 0, .int .i64 0]) (t := 30) ((boxAt_other (by omega) _ _).trans (boxAt_same _ _ _)) 0).2
   have z1 := (F.at hkb.out (B := (B + 1)) (cs := #[.int .i64 0, .int .i64 0, .int .i64 0]) (t := 30) ((boxAt_other (by omega) _ _).trans (boxAt_same _ _ _)) 1).1
   have y1 := (F.at hkb.out (B := (B + 1)) (cs := #[.int .i64 0, .int .i64 0, .int .i64 0]) (t := 30) ((boxAt_other (by omega) _ _).trans (boxAt_same _ _ _)) 1).2
   have z2 := (F.at hkb.out (B := (B + 1)) (cs := #[.int .i64 0, .int .i64 0, .int .i64 0]) (t := 30) ((boxAt_other (by omega) _ _).trans (boxAt_same _ _ _)) 2).1
   have y2 := (F.at hkb.out (B := (B + 1)) (cs := #[.int .i64 0, .int .i64 0, .int .i64 0]) (t := 30) ((boxAt_other (by omega) _ _).trans (boxAt_same _ _ _)) 2).2
   have m0 := (F.at hkb.out (B := B) (cs := #[.int .i64 s, .int .i64 a, .int .i64 t]) (t := 30) ((boxAt_other (by omega) _ _).trans ((boxAt_other (by omega) _ _).trans (boxAt_same _ _ _))) 0).1
   have HK := Lib.hid (F.mark hkb.out (M := (B + 1)) ((boxAt_other (by omega) _ _).trans (boxAt_same _ _ _)) s (r a).1 (r t).1)
   clear hst
   go_wp2
   refine bodyPost_ret (mkb_result (fn := Tryz.f26) (p := 6) (u := 7) rfl _ _ (B + 1) s (r a).1 (r t).1 (.int .i64 0) rfl rfl (F.box HK.out _ _ (boxAt_same _ _ _))) rfl ?_
   exact ⟨by rw [HV.out]; rfl, HFIN.out _ _ HK.out fun b hb => (boxAt_other (by omega) _ _).trans ((boxAt_other (by omega) _ _).trans ((boxAt_other (by omega) _ _).trans (boxAt_other (by omega) _ _)))⟩
set_option maxRecDepth 100000 in
set_option maxHeartbeats 8000000 in
theorem both_dropped (F : FB) (g : Nat) (hent : ∀ (args : Array Value) (W : World), (callFunc g args).run Tryz.prog W = .ok (.enter g args) W) (v : Value) (r : Int → Int × Int)
  (hway : ∀ (p : Int) (bx : Nat → Option Obj) (W : World), F.I bx W → (Lit.int .i64 p).wf = true → Calls Tryz.prog g #[v, .int .i64 p] W fun e W' => e = .returned (erV (r p)) ∧ F.I bx W')
  (s a t : Int) (wa : (Lit.int .i64 a).wf = true) (wt : (Lit.int .i64 t).wf = true) (bx : Nat → Option Obj) (W : World) (h : F.I bx W) :
  Calls Tryz.prog 34 #[mkA s a t, v, .func (.func g) #[] #[]] W fun e W' => e = .returned (mkV (kBoth r s a t)) ∧ F.I bx W' := by
 have h3 := F.new (F.new (F.new h #[.int .i64 s, .int .i64 a, .int .i64 t] 30) #[.int .i64 0, .int .i64 0, .int .i64 0] 30) #[.int .i64 a, .int .i64 t] 114
 have h2 := F.new (F.new h #[.int .i64 s, .int .i64 a, .int .i64 t] 30) #[.int .i64 0, .int .i64 0, .int .i64 0] 30
 have z1 : (W.alloc (.cells #[.int .i64 s, .int .i64 a, .int .i64 t] 30)).heap.size = W.heap.size + 1 := by simp
 have z3 : ((W.alloc (.cells #[.int .i64 s, .int .i64 a, .int .i64 t] 30)).alloc (.cells #[.int .i64 0, .int .i64 0, .int .i64 0] 30)).heap.size = W.heap.size + 1 + 1 := by simp
 rw [z1] at h2
 rw [z1, z3] at h3
 clear z1
 obtain ⟨B, hB⟩ : ∃ B, W.heap.size = B := ⟨_, rfl⟩
 rw [hB] at h2 h3 z3
 have HFIN := Lib.hid (show ∀ (bz : Nat → Option Obj) (W' : World), F.I bz W' → (∀ b, b < B → bz b = bx b) → F.I bx W' from fun bz W' hz hk => F.drop h hz fun b hb => hk b (by omega))
 have H2 := Lib.hid h2
 have H3 := Lib.hid h3
 have HW := Lib.hid hway
 have HA := Lib.hid wa
 have HT := Lib.hid wt
 clear h h2 h3 hway wa wt
 unfold mkA
 go_enter Tryz.func34, Tryz.ntmps34
 go_upto_region 1 with fail
 generalize ((W.alloc (.cells #[.int .i64 s, .int .i64 a, .int .i64 t] 30)).alloc (.cells #[.int .i64 0, .int .i64 0, .int .i64 0] 30)) = w0 at H2 H3 z3 ⊢
 clear hB
 have m0 := (F.at H2.out (B := B) (cs := #[.int .i64 s, .int .i64 a, .int .i64 t]) (t := 30) ((boxAt_other (by omega) _ _).trans (boxAt_same _ _ _)) 1).1
 have m1 := (F.at H2.out (B := B) (cs := #[.int .i64 s, .int .i64 a, .int .i64 t]) (t := 30) ((boxAt_other (by omega) _ _).trans (boxAt_same _ _ _)) 2).1
 go_upto_region 2 with fail
 generalize w0.alloc (.cells #[.int .i64 a, .int .i64 t] 114) = w1 at H3 ⊢
 clear m0 m1 z3 H2
 go_wp2_with fail
 go_loopw [17] (fun ix wr => ∃ (k : Nat) (x y : Int), ix = .int .i64 k ∧ k ≤ 2 ∧ RowKit.Hid (BothSt r a t k x y) ∧ RowKit.Hid (F.I (boxAt (B + 1 + 1) (.cells #[.int .i64 x, .int .i64 y] 114 (0, 0)) (boxAt (B + 1) (.cells #[.int .i64 0, .int .i64 0, .int .i64 0] 30 (0, 0)) (boxAt B (.cells #[.int .i64 s, .int .i64 a, .int .i64 t] 30 (0, 0)) bx))) wr)) (fun ix _ => 2 - (intOf ix).toNat)
 case atStart => exact ⟨0, a, t, rfl, by omega, Lib.hid (.inl ⟨rfl, rfl, rfl⟩), H3⟩
 case round =>
  obtain ⟨k, x, y, rfl, hk, hst, hkb⟩ := hrel
  clear H3
  rcases hst.out with ⟨rfl, hx, hy⟩ | ⟨rfl, g1, hx, hy⟩ | ⟨rfl, g1, hx, g2, hy⟩
  all_goals subst x
  all_goals subst y
  ·as_aux_lemma =>
   have a0 := (F.at hkb.out (B := (B + 1 + 1)) (cs := #[.int .i64 a, .int .i64 t]) (t := 114) (boxAt_same _ _ _) 0).1
   have c1 := HW.out a _ wr hkb.out HA.out
   obtain ⟨rp, hrp⟩ : ∃ rp, r a = rp := ⟨_, rfl⟩
   obtain ⟨v0, v1⟩ := rp
   rw [hrp] at c1
   have HRP := Lib.hid hrp
   clear hrp hst
   go_wp2_with fail
   refine c1.mono ?_
   clear c1 a0
   rintro e w3 ⟨rfl, hI⟩
   unfold erV
   by_cases g : v1 = 0
   ·obtain rfl : v1 = 0 := g
    have hne : ((0 : Int) != 0) = false := rfl
    have a0 := (F.at hI (B := (B + 1 + 1)) (cs := #[.int .i64 a, .int .i64 t]) (t := 114) (boxAt_same _ _ _) 0).1
    have f0 := (F.at hI (B := (B + 1 + 1)) (cs := #[.int .i64 a, .int .i64 t]) (t := 114) (boxAt_same _ _ _) 0).2
    have HK := Lib.hid (show F.I (boxAt (B + 1 + 1) (.cells #[.int .i64 v0, .int .i64 t] 114 (0, 0)) (boxAt (B + 1) (.cells #[.int .i64 0, .int .i64 0, .int .i64 0] 30 (0, 0)) (boxAt B (.cells #[.int .i64 s, .int .i64 a, .int .i64 t] 30 (0, 0)) bx))) (w3.setCell ⟨(B + 1 + 1), 0, none⟩ (.int .i64 v0)) from F.less (F.set hI (boxAt_same _ _ _) 0 (.int .i64 v0)) fun b o ho => (boxAt_twice b).trans ho)
    have HST := Lib.hid (show BothSt r a t 1 v0 t from .inr (.inl ⟨rfl, by rw [HRP.out], by rw [HRP.out], rfl⟩))
    clear hI
    go_wp2
    exact ⟨⟨1, _, _, by rfl, by omega, HST, HK⟩, by simp [intOf]⟩
   ·have hne : (v1 != 0) = true := bne_iff_ne.2 g
    have HV := Lib.hid (show kBoth r s a t = (0, 0, 0, v1) by unfold kBoth; rw [HRP.out]; exact if_neg g)
    have z0 := (F.at hI (B := (B + 1)) (cs := #[.int .i64 0, .int .i64 0, .int .i64 0]) (t := 30) ((boxAt_other (by omega) _ _).trans (boxAt_same _ _ _)) 0).1
    have y0 := (F.at hI (B := (B + 1)) (cs := #[.int .i64 0, .int .i64 0, .int .i64 0]) (t := 30) ((boxAt_other (by omega) _ _).trans (boxAt_same _ _ _)) 0).2
    have z1 := (F.at hI (B := (B + 1)) (cs := #[.int .i64 0, .int .i64 0, .int .i64 0]) (t := 30) ((boxAt_other (by omega) _ _).trans (boxAt_same _ _ _)) 1).1
    have y1 := (F.at hI (B := (B + 1)) (cs := #[.int .i64 0, .int .i64 0, .int .i64 0]) (t := 30) ((boxAt_other (by omega) _ _).trans (boxAt_same _ _ _)) 1).2
    have z2 := (F.at hI (B := (B + 1)) (cs := #[.int .i64 0, .int .i64 0, .int .i64 0]) (t := 30) ((boxAt_other (by omega) _ _).trans (boxAt_same _ _ _)) 2).1
    have y2 := (F.at hI (B := (B + 1)) (cs := #[.int .i64 0, .int .i64 0, .int .i64 0]) (t := 30) ((boxAt_other (by omega) _ _).trans (boxAt_same _ _ _)) 2).2
    have HK := Lib.hid (F.mark hI (M := (B + 1)) ((boxAt_other (by omega) _ _).trans (boxAt_same _ _ _)) 0 0 0)
    clear hI
    go_wp2
    refine bodyPost_ret (mkb_result (fn := Tryz.f34) (p := 6) (u := 7) rfl _ _ (B + 1) 0 0 0 (.int .i64 v1) rfl rfl (F.box HK.out _ _ (boxAt_same _ _ _))) rfl ?_
    exact ⟨by rw [HV.out]; rfl, HFIN.out _ _ HK.out fun b hb => (boxAt_other (by omega) _ _).trans ((boxAt_other (by omega) _ _).trans ((boxAt_other (by omega) _ _).trans (boxAt_other (by omega) _ _)))⟩
  ·as_aux_lemma =>
   have a0 := (F.at hkb.out (B := (B + 1 + 1)) (cs := #[.int .i64 (r a).1, .int .i64 t]) (t := 114) (boxAt_same _ _ _) 1).1
   have c1 := HW.out t _ wr hkb.out HT.out
   obtain ⟨rp, hrp⟩ : ∃ rp, r t = rp := ⟨_, rfl⟩
   obtain ⟨v0, v1⟩ := rp
   rw [hrp] at c1
   have HRP := Lib.hid hrp
   clear hrp hst
   go_wp2_with fail
   refine c1.mono ?_
   clear c1 a0
   rintro e w3 ⟨rfl, hI⟩
   unfold erV
   by_cases g : v1 = 0
   ·obtain rfl : v1 = 0 := g
    have hne : ((0 : Int) != 0) = false := rfl
    have a0 := (F.at hI (B := (B + 1 + 1)) (cs := #[.int .i64 (r a).1, .int .i64 t]) (t := 114) (boxAt_same _ _ _) 1).1
    have f0 := (F.at hI (B := (B + 1 + 1)) (cs := #[.int .i64 (r a).1, .int .i64 t]) (t := 114) (boxAt_same _ _ _) 1).2
    have HK := Lib.hid (show F.I (boxAt (B + 1 + 1) (.cells #[.int .i64 (r a).1, .int .i64 v0] 114 (0, 0)) (boxAt (B + 1) (.cells #[.int .i64 0, .int .i64 0, .int .i64 0] 30 (0, 0)) (boxAt B (.cells #[.int .i64 s, .int .i64 a, .int .i64 t] 30 (0, 0)) bx))) (w3.setCell ⟨(B + 1 + 1), 1, none⟩ (.int .i64 v0)) from F.less (F.set hI (boxAt_same _ _ _) 1 (.int .i64 v0)) fun b o ho => (boxAt_twice b).trans ho)
    have HST := Lib.hid (show BothSt r a t 2 (r a).1 v0 from .inr (.inr ⟨rfl, g1, rfl, by rw [HRP.out], by rw [HRP.out]⟩))
    clear hI
    go_wp2
    exact ⟨⟨2, _, _, by rfl, by omega, HST, HK⟩, by simp [intOf]⟩
   ·have hne : (v1 != 0) = true := bne_iff_ne.2 g
    have HV := Lib.hid (show kBoth r s a t = (0, 0, 0, v1) by unfold kBoth; rw [if_pos g1, HRP.out]; exact if_neg g)
    have z0 := (F.at hI (B := (B + 1)) (cs := #[.int .i64 0, .int .i64 0, .int .i64 0]) (t := 30) ((boxAt_other (by omega) _ _).trans (boxAt_same _ _ _)) 0).1
    have y0 := (F.at hI (B := (B + 1)) (cs := #[.int .i64 0, .int .i64 0, .int .i64 0]) (t := 30) ((boxAt_other (by omega) _ _).trans (boxAt_same _ _ _)) 0).2
    have z1 := (F.at hI (B := (B + 1)) (cs := #[.int .i64 0, .int .i64 0, .int .i64 0]) (t := 30) ((boxAt_other (by omega) _ _).trans (boxAt_same _ _ _)) 1).1
    have y1 := (F.at hI (B := (B + 1)) (cs := #[.int .i64 0, .int .i64 0, .int .i64 0]) (t := 30) ((boxAt_other (by omega) _ _).trans (boxAt_same _ _ _)) 1).2
    have z2 := (F.at hI (B := (B + 1)) (cs := #[.int .i64 0, .int .i64 0, .int .i64 0]) (t := 30) ((boxAt_other (by omega) _ _).trans (boxAt_same _ _ _)) 2).1
    have y2 := (F.at hI (B := (B + 1)) (cs := #[.int .i64 0, .int .i64 0, .int .i64 0]) (t := 30) ((boxAt_other (by omega) _ _).trans (boxAt_same _ _ _)) 2).2
    have HK := Lib.hid (F.mark hI (M := (B + 1)) ((boxAt_other (by omega) _ _).trans (boxAt_same _ _ _)) 0 0 0)
    clear hI
    go_wp2
    refine bodyPost_ret (mkb_result (fn := Tryz.f34) (p := 6) (u := 7) rfl _ _ (B + 1) 0 0 0 (.int .i64 v1) rfl rfl (F.box HK.out _ _ (boxAt_same _ _ _))) rfl ?_
    exact ⟨by rw [HV.out]; rfl, HFIN.out _ _ HK.out fun b hb => (boxAt_other (by omega) _ _).trans ((boxAt_other (by omega) _ _).trans ((boxAt_other (by omega) _ _).trans (boxAt_other (by omega) _ _)))⟩
  ·as_aux_lemma =>
   have HV := Lib.hid (show kBoth r s a t = (s, (r a).1, (r t).1, 0) by unfold kBoth; rw [if_pos g1, if_pos g2])
   have a0 := (F.at hkb.out (B := (B + 1 + 1)) (cs := #[.int .i64 (r a).1, .int .i64 (r t).1]) (t := 114) (boxAt_same _ _ _) 0).1
   have a1 := (F.at hkb.out (B := (B + 1 + 1)) (cs := #[.int .i64 (r a).1, .int .i64 (r t).1]) (t := 114) (boxAt_same _ _ _) 1).1
   have z0 := (F.at hkb.out (B := (B + 1)) (cs := #[.int .i64 0, .int .i64 0, .int .i64 0]) (t := 30) ((boxAt_other (by omega) _ _).trans (boxAt_same _ _ _)) 0).1
   have y0 := (F.at hkb.out (B := (B + 1)) (cs := #[.int .i64 0, .int .i64 0, .int .i64 0]) (t := 30) ((boxAt_other (by omega) _ _).trans (boxAt_same _ _ _)) 0).2
   have z1 := (F.at hkb.out (B := (B + 1)) (cs := #[.int .i64 0, .int .i64 0, .int .i64 0]) (t := 30) ((boxAt_other (by omega) _ _).trans (boxAt_same _ _ _)) 1).1
   have y1 := (F.at hkb.out (B := (B + 1)) (cs := #[.int .i64 0, .int .i64 0, .int .i64 0]) (t := 30) ((boxAt_other (by omega) _ _).trans (boxAt_same _ _ _)) 1).2
   have z2 := (F.at hkb.out (B := (B + 1)) (cs := #[.int .i64 0, .int .i64 0, .int .i64 0]) (t := 30) ((boxAt_other (by omega) _ _).trans (boxAt_same _ _ _)) 2).1
   have y2 := (F.at hkb.out (B := (B + 1)) (cs := #[.int .i64 0, .int .i64 0, .int .i64 0]) (t := 30) ((boxAt_other (by omega) _ _).trans (boxAt_same _ _ _)) 2).2
   have m0 := (F.at hkb.out (B := B) (cs := #[.int .i64 s, .int .i64 a, .int .i64 t]) (t := 30) ((boxAt_other (by omega) _ _).trans ((boxAt_other (by omega) _ _).trans (boxAt_same _ _ _))) 0).1
   have HK := Lib.hid (F.mark hkb.out (M := (B + 1)) ((boxAt_other (by omega) _ _).trans (boxAt_same _ _ _)) s (r a).1 (r t).1)
   clear hst
   go_wp2
   refine bodyPost_ret (mkb_result (fn := Tryz.f34) (p := 6) (u := 7) rfl _ _ (B + 1) s (r a).1 (r t).1 (.int .i64 0) rfl rfl (F.box HK.out _ _ (boxAt_same _ _ _))) rfl ?_
   exact ⟨by rw [HV.out]; rfl, HFIN.out _ _ HK.out fun b hb => (boxAt_other (by omega) _ _).trans ((boxAt_other (by omega) _ _).trans ((boxAt_other (by omega) _ _).trans (boxAt_other (by omega) _ _)))⟩
set_option maxRecDepth 100000 in
set_option maxHeartbeats 8000000 in
theorem both_deed (F : FB) (g : Nat) (hent : ∀ (args : Array Value) (W : World), (callFunc g args).run Tryz.prog W = .ok (.enter g args) W) (d0 d1 d2 d3 d4 : Int) (d5 : ByteArray) (d6 : Value) (d7 : Int) (d8 : Bool) (r : Int → Int × Int)
  (hway : ∀ (p : Int) (bx : Nat → Option Obj) (W : World), F.I bx W → (Lit.int .i64 p).wf = true → Calls Tryz.prog g #[(.agg #[.int .i64 d0, .int .i64 d1, .int .i64 d2, .int .i64 d3, .int .i64 d4, .string d5, d6, .int .i64 d7, .bool d8]), .int .i64 p] W fun e W' => e = .returned (erV (r p)) ∧ F.I bx W')
  (s a t : Int) (wa : (Lit.int .i64 a).wf = true) (wt : (Lit.int .i64 t).wf = true) (bx : Nat → Option Obj) (W : World) (h : F.I bx W) :
  Calls Tryz.prog 49 #[mkA s a t, (.agg #[.int .i64 d0, .int .i64 d1, .int .i64 d2, .int .i64 d3, .int .i64 d4, .string d5, d6, .int .i64 d7, .bool d8]), .func (.func g) #[] #[]] W fun e W' => e = .returned (mkV (kBoth r s a t)) ∧ F.I bx W' := by
 have h3 := F.new (F.new (F.new (F.new h #[.int .i64 s, .int .i64 a, .int .i64 t] 30) #[.int .i64 d0, .int .i64 d1, .int .i64 d2, .int .i64 d3, .int .i64 d4, .string d5, d6, .int .i64 d7, .bool d8] 103) #[.int .i64 0, .int .i64 0, .int .i64 0] 30) #[.int .i64 a, .int .i64 t] 114
 have h2 := F.new (F.new (F.new h #[.int .i64 s, .int .i64 a, .int .i64 t] 30) #[.int .i64 d0, .int .i64 d1, .int .i64 d2, .int .i64 d3, .int .i64 d4, .string d5, d6, .int .i64 d7, .bool d8] 103) #[.int .i64 0, .int .i64 0, .int .i64 0] 30
 have z1 : (W.alloc (.cells #[.int .i64 s, .int .i64 a, .int .i64 t] 30)).heap.size = W.heap.size + 1 := by simp
 have z2 : ((W.alloc (.cells #[.int .i64 s, .int .i64 a, .int .i64 t] 30)).alloc (.cells #[.int .i64 d0, .int .i64 d1, .int .i64 d2, .int .i64 d3, .int .i64 d4, .string d5, d6, .int .i64 d7, .bool d8] 103)).heap.size = W.heap.size + 1 + 1 := by simp
 have z3 : (((W.alloc (.cells #[.int .i64 s, .int .i64 a, .int .i64 t] 30)).alloc (.cells #[.int .i64 d0, .int .i64 d1, .int .i64 d2, .int .i64 d3, .int .i64 d4, .string d5, d6, .int .i64 d7, .bool d8] 103)).alloc (.cells #[.int .i64 0, .int .i64 0, .int .i64 0] 30)).heap.size = W.heap.size + 1 + 1 + 1 := by simp
 rw [z1, z2] at h2
 rw [z1, z2, z3] at h3
 clear z1 z2
 obtain ⟨B, hB⟩ : ∃ B, W.heap.size = B := ⟨_, rfl⟩
 rw [hB] at h2 h3 z3
 have HFIN := Lib.hid (show ∀ (bz : Nat → Option Obj) (W' : World), F.I bz W' → (∀ b, b < B → bz b = bx b) → F.I bx W' from fun bz W' hz hk => F.drop h hz fun b hb => hk b (by omega))
 have H2 := Lib.hid h2
 have H3 := Lib.hid h3
 have HW := Lib.hid hway
 have HA := Lib.hid wa
 have HT := Lib.hid wt
 clear h h2 h3 hway wa wt
 unfold mkA
 go_enter Tryz.func49, Tryz.ntmps49
 go_upto_region 1 with fail
 generalize (((W.alloc (.cells #[.int .i64 s, .int .i64 a, .int .i64 t] 30)).alloc (.cells #[.int .i64 d0, .int .i64 d1, .int .i64 d2, .int .i64 d3, .int .i64 d4, .string d5, d6, .int .i64 d7, .bool d8] 103)).alloc (.cells #[.int .i64 0, .int .i64 0, .int .i64 0] 30)) = w0 at H2 H3 z3 ⊢
 clear hB
 have m0 := (F.at H2.out (B := B) (cs := #[.int .i64 s, .int .i64 a, .int .i64 t]) (t := 30) ((boxAt_other (by omega) _ _).trans ((boxAt_other (by omega) _ _).trans (boxAt_same _ _ _))) 1).1
 have m1 := (F.at H2.out (B := B) (cs := #[.int .i64 s, .int .i64 a, .int .i64 t]) (t := 30) ((boxAt_other (by omega) _ _).trans ((boxAt_other (by omega) _ _).trans (boxAt_same _ _ _))) 2).1
 go_upto_region 2 with fail
 generalize w0.alloc (.cells #[.int .i64 a, .int .i64 t] 114) = w1 at H3 ⊢
 clear m0 m1 z3 H2
 go_wp2_with fail
 go_loopw [17] (fun ix wr => ∃ (k : Nat) (x y : Int), ix = .int .i64 k ∧ k ≤ 2 ∧ RowKit.Hid (BothSt r a t k x y) ∧ RowKit.Hid (F.I (boxAt (B + 1 + 1 + 1) (.cells #[.int .i64 x, .int .i64 y] 114 (0, 0)) (boxAt (B + 1 + 1) (.cells #[.int .i64 0, .int .i64 0, .int .i64 0] 30 (0, 0)) (boxAt (B + 1) (.cells #[.int .i64 d0, .int .i64 d1, .int .i64 d2, .int .i64 d3, .int .i64 d4, .string d5, d6, .int .i64 d7, .bool d8] 103 (0, 0)) (boxAt B (.cells #[.int .i64 s, .int .i64 a, .int .i64 t] 30 (0, 0)) bx)))) wr)) (fun ix _ => 2 - (intOf ix).toNat)
 case atStart => exact ⟨0, a, t, rfl, by omega, Lib.hid (.inl ⟨rfl, rfl, rfl⟩), H3⟩
 case round =>
  obtain ⟨k, x, y, rfl, hk, hst, hkb⟩ := hrel
  clear H3
  rcases hst.out with ⟨rfl, hx, hy⟩ | ⟨rfl, g1, hx, hy⟩ | ⟨rfl, g1, hx, g2, hy⟩
  all_goals subst x
  all_goals subst y
  ·as_aux_lemma =>
   have c1 := fun W (hI : F.I (boxAt (B + 1 + 1 + 1) (.cells #[.int .i64 a, .int .i64 t] 114 (0, 0)) (boxAt (B + 1 + 1) (.cells #[.int .i64 0, .int .i64 0, .int .i64 0] 30 (0, 0)) (boxAt (B + 1) (.cells #[.int .i64 d0, .int .i64 d1, .int .i64 d2, .int .i64 d3, .int .i64 d4, .string d5, d6, .int .i64 d7, .bool d8] 103 (0, 0)) (boxAt B (.cells #[.int .i64 s, .int .i64 a, .int .i64 t] 30 (0, 0)) bx)))) W) => HW.out a _ W hI HA.out
   obtain ⟨rp, hrp⟩ : ∃ rp, r a = rp := ⟨_, rfl⟩
   obtain ⟨v0, v1⟩ := rp
   simp only [hrp] at c1
   unfold erV at c1
   have HRP := Lib.hid hrp
   clear hrp hst
   go_wp2_with fail
   refine wp_region_held_drew (S := fun X => F.I (boxAt (B + 1 + 1 + 1) (.cells #[.int .i64 a, .int .i64 t] 114 (0, 0)) (boxAt (B + 1 + 1) (.cells #[.int .i64 0, .int .i64 0, .int .i64 0] 30 (0, 0)) (boxAt (B + 1) (.cells #[.int .i64 d0, .int .i64 d1, .int .i64 d2, .int .i64 d3, .int .i64 d4, .string d5, d6, .int .i64 d7, .bool d8] 103 (0, 0)) (boxAt B (.cells #[.int .i64 s, .int .i64 a, .int .i64 t] 30 (0, 0)) bx)))) X) (by kernel_rfl) (F.drew hkb.out) (fun hHeld => ?_)
   refine tk0 (i := 0) rfl ?_
   try simp only [td]
   refine tk (i := 1) (v := ?_) rfl (Or.inl ⟨rfl, ?hy2⟩) ?_
   case hy2 =>
    intro W hS
    have a0 := (F.at hS (B := (B + 1 + 1 + 1)) (cs := #[.int .i64 a, .int .i64 t]) (t := 114) (boxAt_same _ _ _) 0).1
    have d_0 := (F.at hS (B := B + 1) (cs := #[.int .i64 d0, .int .i64 d1, .int .i64 d2, .int .i64 d3, .int .i64 d4, .string d5, d6, .int .i64 d7, .bool d8]) (t := 103) ((boxAt_other (by omega) _ _).trans ((boxAt_other (by omega) _ _).trans (boxAt_same _ _ _))) 0).1
    have d_1 := (F.at hS (B := B + 1) (cs := #[.int .i64 d0, .int .i64 d1, .int .i64 d2, .int .i64 d3, .int .i64 d4, .string d5, d6, .int .i64 d7, .bool d8]) (t := 103) ((boxAt_other (by omega) _ _).trans ((boxAt_other (by omega) _ _).trans (boxAt_same _ _ _))) 1).1
    have d_2 := (F.at hS (B := B + 1) (cs := #[.int .i64 d0, .int .i64 d1, .int .i64 d2, .int .i64 d3, .int .i64 d4, .string d5, d6, .int .i64 d7, .bool d8]) (t := 103) ((boxAt_other (by omega) _ _).trans ((boxAt_other (by omega) _ _).trans (boxAt_same _ _ _))) 2).1
    have d_3 := (F.at hS (B := B + 1) (cs := #[.int .i64 d0, .int .i64 d1, .int .i64 d2, .int .i64 d3, .int .i64 d4, .string d5, d6, .int .i64 d7, .bool d8]) (t := 103) ((boxAt_other (by omega) _ _).trans ((boxAt_other (by omega) _ _).trans (boxAt_same _ _ _))) 3).1
    have d_4 := (F.at hS (B := B + 1) (cs := #[.int .i64 d0, .int .i64 d1, .int .i64 d2, .int .i64 d3, .int .i64 d4, .string d5, d6, .int .i64 d7, .bool d8]) (t := 103) ((boxAt_other (by omega) _ _).trans ((boxAt_other (by omega) _ _).trans (boxAt_same _ _ _))) 4).1
    have d_5 := (F.at hS (B := B + 1) (cs := #[.int .i64 d0, .int .i64 d1, .int .i64 d2, .int .i64 d3, .int .i64 d4, .string d5, d6, .int .i64 d7, .bool d8]) (t := 103) ((boxAt_other (by omega) _ _).trans ((boxAt_other (by omega) _ _).trans (boxAt_same _ _ _))) 5).1
    have d_6 := (F.at hS (B := B + 1) (cs := #[.int .i64 d0, .int .i64 d1, .int .i64 d2, .int .i64 d3, .int .i64 d4, .string d5, d6, .int .i64 d7, .bool d8]) (t := 103) ((boxAt_other (by omega) _ _).trans ((boxAt_other (by omega) _ _).trans (boxAt_same _ _ _))) 6).1
    have d_7 := (F.at hS (B := B + 1) (cs := #[.int .i64 d0, .int .i64 d1, .int .i64 d2, .int .i64 d3, .int .i64 d4, .string d5, d6, .int .i64 d7, .bool d8]) (t := 103) ((boxAt_other (by omega) _ _).trans ((boxAt_other (by omega) _ _).trans (boxAt_same _ _ _))) 7).1
    have d_8 := (F.at hS (B := B + 1) (cs := #[.int .i64 d0, .int .i64 d1, .int .i64 d2, .int .i64 d3, .int .i64 d4, .string d5, d6, .int .i64 d7, .bool d8]) (t := 103) ((boxAt_other (by omega) _ _).trans ((boxAt_other (by omega) _ _).trans (boxAt_same _ _ _))) 8).1
    go_simp
    try with_reducible rfl
   try simp only [td]
   refine tk0 (i := 2) rfl ?_
   try simp only [td]
   refine tk0 (i := 3) rfl ?_
   try simp only [td]
   refine tk (i := 4) (v := ?_) rfl (Or.inl ⟨rfl, ?hy5⟩) ?_
   case hy5 =>
    intro W hS
    have a0 := (F.at hS (B := (B + 1 + 1 + 1)) (cs := #[.int .i64 a, .int .i64 t]) (t := 114) (boxAt_same _ _ _) 0).1
    have d_0 := (F.at hS (B := B + 1) (cs := #[.int .i64 d0, .int .i64 d1, .int .i64 d2, .int .i64 d3, .int .i64 d4, .string d5, d6, .int .i64 d7, .bool d8]) (t := 103) ((boxAt_other (by omega) _ _).trans ((boxAt_other (by omega) _ _).trans (boxAt_same _ _ _))) 0).1
    have d_1 := (F.at hS (B := B + 1) (cs := #[.int .i64 d0, .int .i64 d1, .int .i64 d2, .int .i64 d3, .int .i64 d4, .string d5, d6, .int .i64 d7, .bool d8]) (t := 103) ((boxAt_other (by omega) _ _).trans ((boxAt_other (by omega) _ _).trans (boxAt_same _ _ _))) 1).1
    have d_2 := (F.at hS (B := B + 1) (cs := #[.int .i64 d0, .int .i64 d1, .int .i64 d2, .int .i64 d3, .int .i64 d4, .string d5, d6, .int .i64 d7, .bool d8]) (t := 103) ((boxAt_other (by omega) _ _).trans ((boxAt_other (by omega) _ _).trans (boxAt_same _ _ _))) 2).1
    have d_3 := (F.at hS (B := B + 1) (cs := #[.int .i64 d0, .int .i64 d1, .int .i64 d2, .int .i64 d3, .int .i64 d4, .string d5, d6, .int .i64 d7, .bool d8]) (t := 103) ((boxAt_other (by omega) _ _).trans ((boxAt_other (by omega) _ _).trans (boxAt_same _ _ _))) 3).1
    have d_4 := (F.at hS (B := B + 1) (cs := #[.int .i64 d0, .int .i64 d1, .int .i64 d2, .int .i64 d3, .int .i64 d4, .string d5, d6, .int .i64 d7, .bool d8]) (t := 103) ((boxAt_other (by omega) _ _).trans ((boxAt_other (by omega) _ _).trans (boxAt_same _ _ _))) 4).1
    have d_5 := (F.at hS (B := B + 1) (cs := #[.int .i64 d0, .int .i64 d1, .int .i64 d2, .int .i64 d3, .int .i64 d4, .string d5, d6, .int .i64 d7, .bool d8]) (t := 103) ((boxAt_other (by omega) _ _).trans ((boxAt_other (by omega) _ _).trans (boxAt_same _ _ _))) 5).1
    have d_6 := (F.at hS (B := B + 1) (cs := #[.int .i64 d0, .int .i64 d1, .int .i64 d2, .int .i64 d3, .int .i64 d4, .string d5, d6, .int .i64 d7, .bool d8]) (t := 103) ((boxAt_other (by omega) _ _).trans ((boxAt_other (by omega) _ _).trans (boxAt_same _ _ _))) 6).1
    have d_7 := (F.at hS (B := B + 1) (cs := #[.int .i64 d0, .int .i64 d1, .int .i64 d2, .int .i64 d3, .int .i64 d4, .string d5, d6, .int .i64 d7, .bool d8]) (t := 103) ((boxAt_other (by omega) _ _).trans ((boxAt_other (by omega) _ _).trans (boxAt_same _ _ _))) 7).1
    have d_8 := (F.at hS (B := B + 1) (cs := #[.int .i64 d0, .int .i64 d1, .int .i64 d2, .int .i64 d3, .int .i64 d4, .string d5, d6, .int .i64 d7, .bool d8]) (t := 103) ((boxAt_other (by omega) _ _).trans ((boxAt_other (by omega) _ _).trans (boxAt_same _ _ _))) 8).1
    go_simp
    try with_reducible rfl
   try simp only [td]
   refine rd 5 rfl fun K hK => ?_
   go_simp
   go_wp2_with (go_at_fn g; refine (c1 _ hHeld).mono ?_; rintro e wq ⟨rfl, hq⟩)
   refine hK.out _ _ (hq) (fun hX => ?_)
   clear hK K hHeld
   have hHeld := hX
   clear hX
   refine tk0 (i := 6) rfl ?_
   try simp only [td]
   refine tk0 (i := 7) rfl ?_
   try simp only [td]
   refine tk0 (i := 8) rfl ?_
   try simp only [td]
   refine tk0 (i := 9) rfl ?_
   try simp only [td]
   refine tk0 (i := 10) rfl ?_
   try simp only [td]
   refine wpAnyH_done (by kernel_rfl) ?_ _
   have hI := hHeld
   by_cases g : v1 = 0
   ·obtain rfl : v1 = 0 := g
    have hne : ((0 : Int) != 0) = false := rfl
    have a0 := (F.at hI (B := (B + 1 + 1 + 1)) (cs := #[.int .i64 a, .int .i64 t]) (t := 114) (boxAt_same _ _ _) 0).1
    have f0 := (F.at hI (B := (B + 1 + 1 + 1)) (cs := #[.int .i64 a, .int .i64 t]) (t := 114) (boxAt_same _ _ _) 0).2
    have HK := Lib.hid (show F.I (boxAt (B + 1 + 1 + 1) (.cells #[.int .i64 v0, .int .i64 t] 114 (0, 0)) (boxAt (B + 1 + 1) (.cells #[.int .i64 0, .int .i64 0, .int .i64 0] 30 (0, 0)) (boxAt (B + 1) (.cells #[.int .i64 d0, .int .i64 d1, .int .i64 d2, .int .i64 d3, .int .i64 d4, .string d5, d6, .int .i64 d7, .bool d8] 103 (0, 0)) (boxAt B (.cells #[.int .i64 s, .int .i64 a, .int .i64 t] 30 (0, 0)) bx)))) (wq.setCell ⟨(B + 1 + 1 + 1), 0, none⟩ (.int .i64 v0)) from F.less (F.set hI (boxAt_same _ _ _) 0 (.int .i64 v0)) fun b o ho => (boxAt_twice b).trans ho)
    have HST := Lib.hid (show BothSt r a t 1 v0 t from .inr (.inl ⟨rfl, by rw [HRP.out], by rw [HRP.out], rfl⟩))
    clear hI
    go_wp2
    exact ⟨⟨1, _, _, by rfl, by omega, HST, HK⟩, by simp [intOf]⟩
   ·have hne : (v1 != 0) = true := bne_iff_ne.2 g
    have HV := Lib.hid (show kBoth r s a t = (0, 0, 0, v1) by unfold kBoth; rw [HRP.out]; exact if_neg g)
    have z0 := (F.at hI (B := (B + 1 + 1)) (cs := #[.int .i64 0, .int .i64 0, .int .i64 0]) (t := 30) ((boxAt_other (by omega) _ _).trans (boxAt_same _ _ _)) 0).1
    have y0 := (F.at hI (B := (B + 1 + 1)) (cs := #[.int .i64 0, .int .i64 0, .int .i64 0]) (t := 30) ((boxAt_other (by omega) _ _).trans (boxAt_same _ _ _)) 0).2
    have z1 := (F.at hI (B := (B + 1 + 1)) (cs := #[.int .i64 0, .int .i64 0, .int .i64 0]) (t := 30) ((boxAt_other (by omega) _ _).trans (boxAt_same _ _ _)) 1).1
    have y1 := (F.at hI (B := (B + 1 + 1)) (cs := #[.int .i64 0, .int .i64 0, .int .i64 0]) (t := 30) ((boxAt_other (by omega) _ _).trans (boxAt_same _ _ _)) 1).2
    have z2 := (F.at hI (B := (B + 1 + 1)) (cs := #[.int .i64 0, .int .i64 0, .int .i64 0]) (t := 30) ((boxAt_other (by omega) _ _).trans (boxAt_same _ _ _)) 2).1
    have y2 := (F.at hI (B := (B + 1 + 1)) (cs := #[.int .i64 0, .int .i64 0, .int .i64 0]) (t := 30) ((boxAt_other (by omega) _ _).trans (boxAt_same _ _ _)) 2).2
    have HK := Lib.hid (F.mark hI (M := (B + 1 + 1)) ((boxAt_other (by omega) _ _).trans (boxAt_same _ _ _)) 0 0 0)
    clear hI
    go_wp2
    refine bodyPost_ret (mkb_result (fn := Tryz.f49) (p := 6) (u := 7) rfl _ _ (B + 1 + 1) 0 0 0 (.int .i64 v1) rfl rfl (F.box HK.out _ _ (boxAt_same _ _ _))) rfl ?_
    exact ⟨by rw [HV.out]; rfl, HFIN.out _ _ HK.out fun b hb => (boxAt_other (by omega) _ _).trans ((boxAt_other (by omega) _ _).trans ((boxAt_other (by omega) _ _).trans ((boxAt_other (by omega) _ _).trans (boxAt_other (by omega) _ _))))⟩
  ·as_aux_lemma =>
   have c1 := fun W (hI : F.I (boxAt (B + 1 + 1 + 1) (.cells #[.int .i64 (r a).1, .int .i64 t] 114 (0, 0)) (boxAt (B + 1 + 1) (.cells #[.int .i64 0, .int .i64 0, .int .i64 0] 30 (0, 0)) (boxAt (B + 1) (.cells #[.int .i64 d0, .int .i64 d1, .int .i64 d2, .int .i64 d3, .int .i64 d4, .string d5, d6, .int .i64 d7, .bool d8] 103 (0, 0)) (boxAt B (.cells #[.int .i64 s, .int .i64 a, .int .i64 t] 30 (0, 0)) bx)))) W) => HW.out t _ W hI HT.out
   obtain ⟨rp, hrp⟩ : ∃ rp, r t = rp := ⟨_, rfl⟩
   obtain ⟨v0, v1⟩ := rp
   simp only [hrp] at c1
   unfold erV at c1
   have HRP := Lib.hid hrp
   clear hrp hst
   go_wp2_with fail
   refine wp_region_held_drew (S := fun X => F.I (boxAt (B + 1 + 1 + 1) (.cells #[.int .i64 (r a).1, .int .i64 t] 114 (0, 0)) (boxAt (B + 1 + 1) (.cells #[.int .i64 0, .int .i64 0, .int .i64 0] 30 (0, 0)) (boxAt (B + 1) (.cells #[.int .i64 d0, .int .i64 d1, .int .i64 d2, .int .i64 d3, .int .i64 d4, .string d5, d6, .int .i64 d7, .bool d8] 103 (0, 0)) (boxAt B (.cells #[.int .i64 s, .int .i64 a, .int .i64 t] 30 (0, 0)) bx)))) X) (by kernel_rfl) (F.drew hkb.out) (fun hHeld => ?_)
   refine tk0 (i := 0) rfl ?_
   try simp only [td]
   refine tk (i := 1) (v := ?_) rfl (Or.inl ⟨rfl, ?hy12⟩) ?_
   case hy12 =>
    intro W hS
    have a0 := (F.at hS (B := (B + 1 + 1 + 1)) (cs := #[.int .i64 (r a).1, .int .i64 t]) (t := 114) (boxAt_same _ _ _) 1).1
    have d_0 := (F.at hS (B := B + 1) (cs := #[.int .i64 d0, .int .i64 d1, .int .i64 d2, .int .i64 d3, .int .i64 d4, .string d5, d6, .int .i64 d7, .bool d8]) (t := 103) ((boxAt_other (by omega) _ _).trans ((boxAt_other (by omega) _ _).trans (boxAt_same _ _ _))) 0).1
    have d_1 := (F.at hS (B := B + 1) (cs := #[.int .i64 d0, .int .i64 d1, .int .i64 d2, .int .i64 d3, .int .i64 d4, .string d5, d6, .int .i64 d7, .bool d8]) (t := 103) ((boxAt_other (by omega) _ _).trans ((boxAt_other (by omega) _ _).trans (boxAt_same _ _ _))) 1).1
    have d_2 := (F.at hS (B := B + 1) (cs := #[.int .i64 d0, .int .i64 d1, .int .i64 d2, .int .i64 d3, .int .i64 d4, .string d5, d6, .int .i64 d7, .bool d8]) (t := 103) ((boxAt_other (by omega) _ _).trans ((boxAt_other (by omega) _ _).trans (boxAt_same _ _ _))) 2).1
    have d_3 := (F.at hS (B := B + 1) (cs := #[.int .i64 d0, .int .i64 d1, .int .i64 d2, .int .i64 d3, .int .i64 d4, .string d5, d6, .int .i64 d7, .bool d8]) (t := 103) ((boxAt_other (by omega) _ _).trans ((boxAt_other (by omega) _ _).trans (boxAt_same _ _ _))) 3).1
    have d_4 := (F.at hS (B := B + 1) (cs := #[.int .i64 d0, .int .i64 d1, .int .i64 d2, .int .i64 d3, .int .i64 d4, .string d5, d6, .int .i64 d7, .bool d8]) (t := 103) ((boxAt_other (by omega) _ _).trans ((boxAt_other (by omega) _ _).trans (boxAt_same _ _ _))) 4).1
    have d_5 := (F.at hS (B := B + 1) (cs := #[.int .i64 d0, .int .i64 d1, .int .i64 d2, .int .i64 d3, .int .i64 d4, .string d5, d6, .int .i64 d7, .bool d8]) (t := 103) ((boxAt_other (by omega) _ _).trans ((boxAt_other (by omega) _ _).trans (boxAt_same _ _ _))) 5).1
    have d_6 := (F.at hS (B := B + 1) (cs := #[.int .i64 d0, .int .i64 d1, .int .i64 d2, .int .i64 d3, .int .i64 d4, .string d5, d6, .int .i64 d7, .bool d8]) (t := 103) ((boxAt_other (by omega) _ _).trans ((boxAt_other (by omega) _ _).trans (boxAt_same _ _ _))) 6).1
    have d_7 := (F.at hS (B := B + 1) (cs := #[.int .i64 d0, .int .i64 d1, .int .i64 d2, .int .i64 d3, .int .i64 d4, .string d5, d6, .int .i64 d7, .bool d8]) (t := 103) ((boxAt_other (by omega) _ _).trans ((boxAt_other (by omega) _ _).trans (boxAt_same _ _ _))) 7).1
    have d_8 := (F.at hS (B := B + 1) (cs := #[.int .i64 d0, .int .i64 d1, .int .i64 d2, .int .i64 d3, .int .i64 d4, .string d5, d6, .int .i64 d7, .bool d8]) (t := 103) ((boxAt_other (by omega) _ _).trans ((boxAt_other (by omega) _ _).trans (boxAt_same _ _ _))) 8).1
    go_simp
    try with_reducible rfl
   try simp only [td]
   refine tk0 (i := 2) rfl ?_
   try simp only [td]
   refine tk0 (i := 3) rfl ?_
   try simp only [td]
   refine tk (i := 4) (v := ?_) rfl (Or.inl ⟨rfl, ?hy15⟩) ?_
   case hy15 =>
    intro W hS
    have a0 := (F.at hS (B := (B + 1 + 1 + 1)) (cs := #[.int .i64 (r a).1, .int .i64 t]) (t := 114) (boxAt_same _ _ _) 1).1
    have d_0 := (F.at hS (B := B + 1) (cs := #[.int .i64 d0, .int .i64 d1, .int .i64 d2, .int .i64 d3, .int .i64 d4, .string d5, d6, .int .i64 d7, .bool d8]) (t := 103) ((boxAt_other (by omega) _ _).trans ((boxAt_other (by omega) _ _).trans (boxAt_same _ _ _))) 0).1
    have d_1 := (F.at hS (B := B + 1) (cs := #[.int .i64 d0, .int .i64 d1, .int .i64 d2, .int .i64 d3, .int .i64 d4, .string d5, d6, .int .i64 d7, .bool d8]) (t := 103) ((boxAt_other (by omega) _ _).trans ((boxAt_other (by omega) _ _).trans (boxAt_same _ _ _))) 1).1
    have d_2 := (F.at hS (B := B + 1) (cs := #[.int .i64 d0, .int .i64 d1, .int .i64 d2, .int .i64 d3, .int .i64 d4, .string d5, d6, .int .i64 d7, .bool d8]) (t := 103) ((boxAt_other (by omega) _ _).trans ((boxAt_other (by omega) _ _).trans (boxAt_same _ _ _))) 2).1
    have d_3 := (F.at hS (B := B + 1) (cs := #[.int .i64 d0, .int .i64 d1, .int .i64 d2, .int .i64 d3, .int .i64 d4, .string d5, d6, .int .i64 d7, .bool d8]) (t := 103) ((boxAt_other (by omega) _ _).trans ((boxAt_other (by omega) _ _).trans (boxAt_same _ _ _))) 3).1
    have d_4 := (F.at hS (B := B + 1) (cs := #[.int .i64 d0, .int .i64 d1, .int .i64 d2, .int .i64 d3, .int .i64 d4, .string d5, d6, .int .i64 d7, .bool d8]) (t := 103) ((boxAt_other (by omega) _ _).trans ((boxAt_other (by omega) _ _).trans (boxAt_same _ _ _))) 4).1
    have d_5 := (F.at hS (B := B + 1) (cs := #[.int .i64 d0, .int .i64 d1, .int .i64 d2, .int .i64 d3, .int .i64 d4, .string d5, d6, .int .i64 d7, .bool d8]) (t := 103) ((boxAt_other (by omega) _ _).trans ((boxAt_other (by omega) _ _).trans (boxAt_same _ _ _))) 5).1
    have d_6 := (F.at hS (B := B + 1) (cs := #[.int .i64 d0, .int .i64 d1, .int .i64 d2, .int .i64 d3, .int .i64 d4, .string d5, d6, .int .i64 d7, .bool d8]) (t := 103) ((boxAt_other (by omega) _ _).trans ((boxAt_other (by omega) _ _).trans (boxAt_same _ _ _))) 6).1
    have d_7 := (F.at hS (B := B + 1) (cs := #[.int .i64 d0, .int .i64 d1, .int .i64 d2, .int .i64 d3, .int .i64 d4, .string d5, d6, .int .i64 d7, .bool d8]) (t := 103) ((boxAt_other (by omega) _ _).trans ((boxAt_other (by omega) _ _).trans (boxAt_same _ _ _))) 7).1
    have d_8 := (F.at hS (B := B + 1) (cs := #[.int .i64 d0, .int .i64 d1, .int .i64 d2, .int .i64 d3, .int .i64 d4, .string d5, d6, .int .i64 d7, .bool d8]) (t := 103) ((boxAt_other (by omega) _ _).trans ((boxAt_other (by omega) _ _).trans (boxAt_same _ _ _))) 8).1
    go_simp
    try with_reducible rfl
   try simp only [td]
   refine rd 5 rfl fun K hK => ?_
   go_simp
   go_wp2_with (go_at_fn g; refine (c1 _ hHeld).mono ?_; rintro e wq ⟨rfl, hq⟩)
   refine hK.out _ _ (hq) (fun hX => ?_)
   clear hK K hHeld
   have hHeld := hX
   clear hX
   refine tk0 (i := 6) rfl ?_
   try simp only [td]
   refine tk0 (i := 7) rfl ?_
   try simp only [td]
   refine tk0 (i := 8) rfl ?_
   try simp only [td]
   refine tk0 (i := 9) rfl ?_
   try simp only [td]
   refine tk0 (i := 10) rfl ?_
   try simp only [td]
   refine wpAnyH_done (by kernel_rfl) ?_ _
   have hI := hHeld
   by_cases g : v1 = 0
   ·obtain rfl : v1 = 0 := g
    have hne : ((0 : Int) != 0) = false := rfl
    have a0 := (F.at hI (B := (B + 1 + 1 + 1)) (cs := #[.int .i64 (r a).1, .int .i64 t]) (t := 114) (boxAt_same _ _ _) 1).1
    have f0 := (F.at hI (B := (B + 1 + 1 + 1)) (cs := #[.int .i64 (r a).1, .int .i64 t]) (t := 114) (boxAt_same _ _ _) 1).2
    have HK := Lib.hid (show F.I (boxAt (B + 1 + 1 + 1) (.cells #[.int .i64 (r a).1, .int .i64 v0] 114 (0, 0)) (boxAt (B + 1 + 1) (.cells #[.int .i64 0, .int .i64 0, .int .i64 0] 30 (0, 0)) (boxAt (B + 1) (.cells #[.int .i64 d0, .int .i64 d1, .int .i64 d2, .int .i64 d3, .int .i64 d4, .string d5, d6, .int .i64 d7, .bool d8] 103 (0, 0)) (boxAt B (.cells #[.int .i64 s, .int .i64 a, .int .i64 t] 30 (0, 0)) bx)))) (wq.setCell ⟨(B + 1 + 1 + 1), 1, none⟩ (.int .i64 v0)) from F.less (F.set hI (boxAt_same _ _ _) 1 (.int .i64 v0)) fun b o ho => (boxAt_twice b).trans ho)
    have HST := Lib.hid (show BothSt r a t 2 (r a).1 v0 from .inr (.inr ⟨rfl, g1, rfl, by rw [HRP.out], by rw [HRP.out]⟩))
    clear hI
    go_wp2
    exact ⟨⟨2, _, _, by rfl, by omega, HST, HK⟩, by simp [intOf]⟩
   ·have hne : (v1 != 0) = true := bne_iff_ne.2 g
    have HV := Lib.hid (show kBoth r s a t = (0, 0, 0, v1) by unfold kBoth; rw [if_pos g1, HRP.out]; exact if_neg g)
    have z0 := (F.at hI (B := (B + 1 + 1)) (cs := #[.int .i64 0, .int .i64 0, .int .i64 0]) (t := 30) ((boxAt_other (by omega) _ _).trans (boxAt_same _ _ _)) 0).1
    have y0 := (F.at hI (B := (B + 1 + 1)) (cs := #[.int .i64 0, .int .i64 0, .int .i64 0]) (t := 30) ((boxAt_other (by omega) _ _).trans (boxAt_same _ _ _)) 0).2
    have z1 := (F.at hI (B := (B + 1 + 1)) (cs := #[.int .i64 0, .int .i64 0, .int .i64 0]) (t := 30) ((boxAt_other (by omega) _ _).trans (boxAt_same _ _ _)) 1).1
    have y1 := (F.at hI (B := (B + 1 + 1)) (cs := #[.int .i64 0, .int .i64 0, .int .i64 0]) (t := 30) ((boxAt_other (by omega) _ _).trans (boxAt_same _ _ _)) 1).2
    have z2 := (F.at hI (B := (B + 1 + 1)) (cs := #[.int .i64 0, .int .i64 0, .int .i64 0]) (t := 30) ((boxAt_other (by omega) _ _).trans (boxAt_same _ _ _)) 2).1
    have y2 := (F.at hI (B := (B + 1 + 1)) (cs := #[.int .i64 0, .int .i64 0, .int .i64 0]) (t := 30) ((boxAt_other (by omega) _ _).trans (boxAt_same _ _ _)) 2).2
    have HK := Lib.hid (F.mark hI (M := (B + 1 + 1)) ((boxAt_other (by omega) _ _).trans (boxAt_same _ _ _)) 0 0 0)
    clear hI
    go_wp2
    refine bodyPost_ret (mkb_result (fn := Tryz.f49) (p := 6) (u := 7) rfl _ _ (B + 1 + 1) 0 0 0 (.int .i64 v1) rfl rfl (F.box HK.out _ _ (boxAt_same _ _ _))) rfl ?_
    exact ⟨by rw [HV.out]; rfl, HFIN.out _ _ HK.out fun b hb => (boxAt_other (by omega) _ _).trans ((boxAt_other (by omega) _ _).trans ((boxAt_other (by omega) _ _).trans ((boxAt_other (by omega) _ _).trans (boxAt_other (by omega) _ _))))⟩
  ·as_aux_lemma =>
   have HV := Lib.hid (show kBoth r s a t = (s, (r a).1, (r t).1, 0) by unfold kBoth; rw [if_pos g1, if_pos g2])
   have a0 := (F.at hkb.out (B := (B + 1 + 1 + 1)) (cs := #[.int .i64 (r a).1, .int .i64 (r t).1]) (t := 114) (boxAt_same _ _ _) 0).1
   have a1 := (F.at hkb.out (B := (B + 1 + 1 + 1)) (cs := #[.int .i64 (r a).1, .int .i64 (r t).1]) (t := 114) (boxAt_same _ _ _) 1).1
   have z0 := (F.at hkb.out (B := (B + 1 + 1)) (cs := #[.int .i64 0, .int .i64 0, .int .i64 0]) (t := 30) ((boxAt_other (by omega) _ _).trans (boxAt_same _ _ _)) 0).1
   have y0 := (F.at hkb.out (B := (B + 1 + 1)) (cs := #[.int .i64 0, .int .i64 0, .int .i64 0]) (t := 30) ((boxAt_other (by omega) _ _).trans (boxAt_same _ _ _)) 0).2
   have z1 := (F.at hkb.out (B := (B + 1 + 1)) (cs := #[.int .i64 0, .int .i64 0, .int .i64 0]) (t := 30) ((boxAt_other (by omega) _ _).trans (boxAt_same _ _ _)) 1).1
   have y1 := (F.at hkb.out (B := (B + 1 + 1)) (cs := #[.int .i64 0, .int .i64 0, .int .i64 0]) (t := 30) ((boxAt_other (by omega) _ _).trans (boxAt_same _ _ _)) 1).2
   have z2 := (F.at hkb.out (B := (B + 1 + 1)) (cs := #[.int .i64 0, .int .i64 0, .int .i64 0]) (t := 30) ((boxAt_other (by omega) _ _).trans (boxAt_same _ _ _)) 2).1
   have y2 := (F.at hkb.out (B := (B + 1 + 1)) (cs := #[.int .i64 0, .int .i64 0, .int .i64 0]) (t := 30) ((boxAt_other (by omega) _ _).trans (boxAt_same _ _ _)) 2).2
   have m0 := (F.at hkb.out (B := B) (cs := #[.int .i64 s, .int .i64 a, .int .i64 t]) (t := 30) ((boxAt_other (by omega) _ _).trans ((boxAt_other (by omega) _ _).trans ((boxAt_other (by omega) _ _).trans (boxAt_same _ _ _)))) 0).1
   have HK := Lib.hid (F.mark hkb.out (M := (B + 1 + 1)) ((boxAt_other (by omega) _ _).trans (boxAt_same _ _ _)) s (r a).1 (r t).1)
   clear hst
   go_wp2
   refine bodyPost_ret (mkb_result (fn := Tryz.f49) (p := 6) (u := 7) rfl _ _ (B + 1 + 1) s (r a).1 (r t).1 (.int .i64 0) rfl rfl (F.box HK.out _ _ (boxAt_same _ _ _))) rfl ?_
   exact ⟨by rw [HV.out]; rfl, HFIN.out _ _ HK.out fun b hb => (boxAt_other (by omega) _ _).trans ((boxAt_other (by omega) _ _).trans ((boxAt_other (by omega) _ _).trans ((boxAt_other (by omega) _ _).trans (boxAt_other (by omega) _ _))))⟩
end Go.Proofs.YtmedickofiielaaGreatDoor
