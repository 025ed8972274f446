/- caret's Drop, on the program's side. -/
import Derived.Test.YtmedickofiielaaCaretP0
import Derived.Test.YtmedickofiielaaGSpEdges
namespace Go.Proofs.Ytmedickofiielaa
open Go.RowKit

theorem mkVd (a b c d : Int) : mkV (a, b, c, d) = .tuple #[.agg #[.int .i64 a, .int .i64 b, .int .i64 c], .int .i64 d] := rfl
def kAhd (xs : List Sp) (p : Int) : Int := if sMay xs then (cntTo (sMark xs) (min 20000 p.toNat) : Nat) else 0
def dropR (xs : List Sp) (p : Int) : Int × Int := (wrap64 (p - kAhd xs p), 0)
theorem kDrop_both {s a t : Int} {xs : List Sp} (h : kMay s a t 20000 = true) (hx : sMay xs = true) : kBoth (dropR xs) s a t = kDrop s a t xs := by
 have hm := (kMay_iff _ _ _ _).1 h
 have e : ∀ p : Int, 0 ≤ p → p ≤ 20000 → dropR xs p = (kLess xs p, 0) := fun p h1 h2 => by
  have := cntTo_le (sMark xs) (min 20000 p.toNat)
  unfold dropR kLess kAhd wrap64
  rw [hx, if_pos rfl]
  congr 1
  omega
 unfold kBoth kDrop
 rw [e a (by omega) (by omega), e t (by omega) (by omega), h, hx]
 rfl
theorem kDrop_no {s a t : Int} {xs : List Sp} (h : (sMay xs && kMay s a t 20000) = false) : kDrop s a t xs = (0, 0, 0, 1) := by
 unfold kDrop
 rw [Bool.and_comm, h]
 rfl
set_option maxRecDepth 100000 in
set_option maxHeartbeats 4000000 in
theorem cDropped_any (p : Int) (sp : Value) (xs : List Sp) (w : World) (h : SpAt w sp xs) (hx : xs.length ≤ 20000) (hwf : sWf xs) :
  Calls Try.prog 17 #[sp, .int .i64 p] w fun e w' => e = .returned (erV (dropR xs p)) ∧ Below w.heap.size w w' := by
 have hA : Calls Try.prog 31 #[sp, .int .i64 p] w fun e w' => e = .returned (.int .i64 (kAhd xs p)) ∧ Below w.heap.size w w' := spAhead_any sp xs p w h (by omega) hwf
 unfold dropR erV
 generalize kAhd xs p = c at *
 go_enter Try.func17, Try.ntmps17
 go_wp2_with fail
 refine hA.mono ?_
 rintro e w1 ⟨rfl, hb⟩
 go_wp2
 go_ret2
 exact ⟨rfl, hb⟩
set_option maxRecDepth 100000 in
set_option maxHeartbeats 8000000 in
theorem cDrop_any (s a t : Int) (sp : Value) (xs : List Sp) (w : World) (h : SpAt w sp xs) (va : (Lit.int .i64 a).wf = true) (vt : (Lit.int .i64 t).wf = true) (hx : xs.length ≤ 20000) (hwf : sWf xs) :
  Calls Try.prog 6 #[mkA s a t, sp] w fun e w' => e = .returned (mkV (kDrop s a t xs)) ∧ Below w.heap.size w w' := by
 have hS := fun W (hI : Below w.heap.size w W) => spMay_any sp xs W (h.below hI) (by omega) hwf
 have hMk := fun W => cMayK_any s a t 20000 W
 have hB := fun bx W (hI : RBox w bx W) => both_dropped (fbR w) 17 (fun args W => enters_of Try.func17 (by kernel_rfl) rfl args W) sp (dropR xs) (fun p bx W hI _ => (cDropped_any p sp xs W (h.below hI.up) hx hwf).mono fun e w' he => ⟨he.1, RBox.below hI he.2⟩) s a t va vt bx W hI
 have h0 := ((RBox.start w).new #[.int .i64 s, .int .i64 a, .int .i64 t] 27).new #[.int .i64 0, .int .i64 0, .int .i64 0] 27
 rw [show (w.alloc (.cells #[.int .i64 s, .int .i64 a, .int .i64 t] 27)).heap.size = w.heap.size + 1 by simp] at h0
 obtain ⟨B, hBB⟩ : ∃ B, w.heap.size = B := ⟨_, rfl⟩
 rw [hBB] at h0
 have H0 := Lib.hid h0
 have HB := Lib.hid hB
 have KM := Lib.hid hMk
 have HS := Lib.hid hS
 clear h0 hB hMk hS h va vt
 unfold mkA at *
 obtain ⟨sm, hsm⟩ : ∃ sm, sMay xs = sm := ⟨_, rfl⟩
 obtain ⟨mk, hmk⟩ : ∃ mk, kMay s a t 20000 = mk := ⟨_, rfl⟩
 simp only [hsm] at HS
 simp only [hmk] at KM
 go_enter Try.func6, Try.ntmps6
 go_upto_region 1 with fail
 generalize (w.alloc (.cells #[.int .i64 s, .int .i64 a, .int .i64 t] 27)).alloc (.cells #[.int .i64 0, .int .i64 0, .int .i64 0] 27) = w0 at H0 ⊢
 clear hBB
 go_wp2_with fail
 refine (HS.out _ H0.out.up).mono ?_
 rintro e w1 ⟨rfl, hb⟩
 have HR1 := Lib.hid (H0.out.below hb)
 clear hb H0 HS
 cases sm with
 | false =>
  have HV := Lib.hid (kDrop_no (s := s) (a := a) (t := t) (xs := xs) (by rw [hsm]; rfl))
  clear hsm hmk HB KM
  have z0 := ((fbR w).at HR1.out (B := (B + 1)) (cs := #[.int .i64 0, .int .i64 0, .int .i64 0]) (t := 27) (boxAt_same _ _ _) 0).1
  have y0 := ((fbR w).at HR1.out (B := (B + 1)) (cs := #[.int .i64 0, .int .i64 0, .int .i64 0]) (t := 27) (boxAt_same _ _ _) 0).2
  have z1 := ((fbR w).at HR1.out (B := (B + 1)) (cs := #[.int .i64 0, .int .i64 0, .int .i64 0]) (t := 27) (boxAt_same _ _ _) 1).1
  have y1 := ((fbR w).at HR1.out (B := (B + 1)) (cs := #[.int .i64 0, .int .i64 0, .int .i64 0]) (t := 27) (boxAt_same _ _ _) 1).2
  have z2 := ((fbR w).at HR1.out (B := (B + 1)) (cs := #[.int .i64 0, .int .i64 0, .int .i64 0]) (t := 27) (boxAt_same _ _ _) 2).1
  have y2 := ((fbR w).at HR1.out (B := (B + 1)) (cs := #[.int .i64 0, .int .i64 0, .int .i64 0]) (t := 27) (boxAt_same _ _ _) 2).2
  have HK := Lib.hid ((fbR w).mark HR1.out (M := (B + 1)) (boxAt_same _ _ _) 0 0 0)
  clear HR1
  go_wp2
  refine bodyPost_ret (mkb_result (fn := Try.f6) (p := 4) (u := 5) rfl _ _ (B + 1) 0 0 0 (.int .i64 1) rfl rfl ((fbR w).box HK.out _ _ (boxAt_same _ _ _))) rfl ?_
  exact ⟨by rw [HV.out]; rfl, HK.out.up⟩
 | true =>
  have c0 := ((fbR w).at HR1.out (B := B) (cs := #[.int .i64 s, .int .i64 a, .int .i64 t]) (t := 27) ((boxAt_other (by omega) _ _).trans (boxAt_same _ _ _)) 0).1
  have c1 := ((fbR w).at HR1.out (B := B) (cs := #[.int .i64 s, .int .i64 a, .int .i64 t]) (t := 27) ((boxAt_other (by omega) _ _).trans (boxAt_same _ _ _)) 1).1
  have c2 := ((fbR w).at HR1.out (B := B) (cs := #[.int .i64 s, .int .i64 a, .int .i64 t]) (t := 27) ((boxAt_other (by omega) _ _).trans (boxAt_same _ _ _)) 2).1
  go_wp2_with fail
  refine (KM.out _).mono ?_
  clear c0 c1 c2 KM
  rintro e w2 ⟨rfl, hb⟩
  have HR2 := Lib.hid (HR1.out.below hb)
  clear hb HR1
  cases mk with
  | false =>
   have HV := Lib.hid (kDrop_no (s := s) (a := a) (t := t) (xs := xs) (by rw [hmk, Bool.and_false]))
   clear hsm hmk HB
   have z0 := ((fbR w).at HR2.out (B := (B + 1)) (cs := #[.int .i64 0, .int .i64 0, .int .i64 0]) (t := 27) (boxAt_same _ _ _) 0).1
   have y0 := ((fbR w).at HR2.out (B := (B + 1)) (cs := #[.int .i64 0, .int .i64 0, .int .i64 0]) (t := 27) (boxAt_same _ _ _) 0).2
   have z1 := ((fbR w).at HR2.out (B := (B + 1)) (cs := #[.int .i64 0, .int .i64 0, .int .i64 0]) (t := 27) (boxAt_same _ _ _) 1).1
   have y1 := ((fbR w).at HR2.out (B := (B + 1)) (cs := #[.int .i64 0, .int .i64 0, .int .i64 0]) (t := 27) (boxAt_same _ _ _) 1).2
   have z2 := ((fbR w).at HR2.out (B := (B + 1)) (cs := #[.int .i64 0, .int .i64 0, .int .i64 0]) (t := 27) (boxAt_same _ _ _) 2).1
   have y2 := ((fbR w).at HR2.out (B := (B + 1)) (cs := #[.int .i64 0, .int .i64 0, .int .i64 0]) (t := 27) (boxAt_same _ _ _) 2).2
   have HK := Lib.hid ((fbR w).mark HR2.out (M := (B + 1)) (boxAt_same _ _ _) 0 0 0)
   clear HR2
   go_wp2
   refine bodyPost_ret (mkb_result (fn := Try.f6) (p := 4) (u := 5) rfl _ _ (B + 1) 0 0 0 (.int .i64 1) rfl rfl ((fbR w).box HK.out _ _ (boxAt_same _ _ _))) rfl ?_
   exact ⟨by rw [HV.out]; rfl, HK.out.up⟩
  | true =>
   have hv := kDrop_both hmk hsm
   obtain ⟨x, hx⟩ : ∃ x, kBoth (dropR xs) s a t = x := ⟨_, rfl⟩
   obtain ⟨x1, x2, x3, x4⟩ := x
   have hB := HB.out
   rw [hx, mkVd] at hB
   have HV := Lib.hid (hv.symm.trans hx)
   clear hv hx HB hmk hsm
   have HB := Lib.hid hB
   clear hB
   have c0 := ((fbR w).at HR2.out (B := B) (cs := #[.int .i64 s, .int .i64 a, .int .i64 t]) (t := 27) ((boxAt_other (by omega) _ _).trans (boxAt_same _ _ _)) 0).1
   have c1 := ((fbR w).at HR2.out (B := B) (cs := #[.int .i64 s, .int .i64 a, .int .i64 t]) (t := 27) ((boxAt_other (by omega) _ _).trans (boxAt_same _ _ _)) 1).1
   have c2 := ((fbR w).at HR2.out (B := B) (cs := #[.int .i64 s, .int .i64 a, .int .i64 t]) (t := 27) ((boxAt_other (by omega) _ _).trans (boxAt_same _ _ _)) 2).1
   go_wp2_with fail
   refine (HB.out _ _ HR2.out).mono ?_
   rintro e w3 ⟨rfl, hI⟩
   clear HB HR2 c0 c1 c2
   have z0 := ((fbR w).at hI (B := (B + 1)) (cs := #[.int .i64 0, .int .i64 0, .int .i64 0]) (t := 27) (boxAt_same _ _ _) 0).1
   have y0 := ((fbR w).at hI (B := (B + 1)) (cs := #[.int .i64 0, .int .i64 0, .int .i64 0]) (t := 27) (boxAt_same _ _ _) 0).2
   have z1 := ((fbR w).at hI (B := (B + 1)) (cs := #[.int .i64 0, .int .i64 0, .int .i64 0]) (t := 27) (boxAt_same _ _ _) 1).1
   have y1 := ((fbR w).at hI (B := (B + 1)) (cs := #[.int .i64 0, .int .i64 0, .int .i64 0]) (t := 27) (boxAt_same _ _ _) 1).2
   have z2 := ((fbR w).at hI (B := (B + 1)) (cs := #[.int .i64 0, .int .i64 0, .int .i64 0]) (t := 27) (boxAt_same _ _ _) 2).1
   have y2 := ((fbR w).at hI (B := (B + 1)) (cs := #[.int .i64 0, .int .i64 0, .int .i64 0]) (t := 27) (boxAt_same _ _ _) 2).2
   have HK := Lib.hid ((fbR w).mark hI (M := (B + 1)) (boxAt_same _ _ _) x1 x2 x3)
   clear hI
   go_wp2
   refine bodyPost_ret (mkb_result (fn := Try.f6) (p := 4) (u := 5) rfl _ _ (B + 1) x1 x2 x3 (.int .i64 x4) rfl rfl ((fbR w).box HK.out _ _ (boxAt_same _ _ _))) rfl ?_
   exact ⟨by rw [HV.out]; rfl, HK.out.up⟩
end Go.Proofs.Ytmedickofiielaa
