/- VectLeast: the law's walk. -/
import Derived.Test.YthbophioohcphaaDoorVectAlive
import Derived.Test.YthbophioohcphaaDoorLeastPlain
import Derived.Test.YthbophioohcphaaDoorDoesAll
import Derived.Test.YthbophioohcphaaDoorShut
namespace Go.Proofs.YthbophioohcphaaDoor
open Go.RowKit

theorem Lens.one1 (w : World) (a1 : Option Addr) (l1 c1 : Nat) (t : TypeId) :
    Lens (w.alloc (.cells #[.slice a1 l1 c1] t)) (.slice (some ⟨w.heap.size, 0, none⟩) 1 1) 1 (fun _ => l1) := by
  have h := heap_alloc_new w (.cells #[.slice a1 l1 c1] t)
  refine ⟨_, 1, rfl, fun _ => ⟨_, 0, rfl, fun i hi => ?_⟩⟩
  match i, hi with
  | 0, _ => exact ⟨a1, c1, cell_of_row _ _ 0 _ _ _ h⟩
/-- A slice of slices of ints, however long they are. -/
def RowsRaw (W : World) (v : Value) (vs : Nat → Value) (xss : List (List Int)) : Prop :=
  ∃ ao cap, v = .slice ao xss.length cap ∧ (0 < xss.length → ∃ b off, ao = some ⟨b, off, none⟩ ∧ ∀ i, i < xss.length → W.cell? ⟨b, off + i, none⟩ = some (vs i)) ∧
    ∀ i, i < xss.length → Reads64 W (vs i) (xss.getD i [])
theorem RowsRaw.below {W W' : World} {v : Value} {vs : Nat → Value} {xss : List (List Int)} (h : RowsRaw W v vs xss) (hb : Below W.heap.size W W') : RowsRaw W' v vs xss := by
  obtain ⟨ao, cap, hv, h1, h2⟩ := h
  refine ⟨ao, cap, hv, fun h0 => ?_, fun i hi => (h2 i hi).below hb⟩
  obtain ⟨b, off, ha, hc⟩ := h1 h0
  exact ⟨b, off, ha, fun i hi => cell_stays hb (hc i hi)⟩
theorem RowsRaw.lens {W : World} {v : Value} {vs : Nat → Value} {xss : List (List Int)} (h : RowsRaw W v vs xss) : Lens W v xss.length fun i => (xss.getD i []).length := by
  obtain ⟨ao, cap, hv, h1, h2⟩ := h
  refine ⟨ao, cap, hv, fun h0 => ?_⟩
  obtain ⟨b, off, ha, hc⟩ := h1 h0
  refine ⟨b, off, ha, fun i hi => ?_⟩
  obtain ⟨a, c, hs, _⟩ := h2 i hi
  exact ⟨a, c, by rw [hc i hi, hs]⟩
theorem RowsRaw.rows {W : World} {v : Value} {vs : Nat → Value} {xss : List (List Int)} (h : RowsRaw W v vs xss) (hl : ∀ i, i < xss.length → (xss.getD i []).length ≤ 100) : RowsAt W v vs xss := by
  obtain ⟨ao, cap, hv, h1, h2⟩ := h
  exact ⟨ao, cap, hv, h1, fun i hi => ⟨h2 i hi, Nat.le_trans (hl i hi) (by decide)⟩⟩
theorem RowsRaw.of {W : World} {v : Value} {n : Nat} {vs : Nat → Value} {f : Nat → List Int} (h1 : ∃ ao cap, v = .slice ao n cap ∧ (0 < n → ∃ b off, ao = some ⟨b, off, none⟩ ∧ ∀ i, i < n → W.cell? ⟨b, off + i, none⟩ = some (vs i)))
    (h2 : ∀ i, i < n → Reads64 W (vs i) (f i)) : RowsRaw W v vs ((List.range n).map f) := by
  have hl : ((List.range n).map f).length = n := by simp
  obtain ⟨ao, cap, hv, hc⟩ := h1
  refine ⟨ao, cap, by rw [hl]; exact hv, fun h0 => ?_, fun i hi => ?_⟩
  · rw [hl] at h0 ⊢
    exact hc h0
  · rw [hl] at hi
    rw [show ((List.range n).map f).getD i [] = f i by simp [List.getD, hi]]
    exact h2 i hi
theorem mem_getD {xss : List (List Int)} {x : List Int} (h : x ∈ xss) : ∃ i, i < xss.length ∧ xss.getD i [] = x := by
  obtain ⟨i, hi, rfl⟩ := List.mem_iff_getElem.1 h
  exact ⟨i, hi, by simp [List.getD, hi]⟩
theorem may_at {xss : List (List Int)} (h : xss.all vMay = true) {k : Nat} (hk : k < xss.length) : vMay (xss.getD k []) = true := by
  rw [List.all_eq_true] at h
  exact h _ (getD_mem hk)
set_option maxRecDepth 100000 in
set_option maxHeartbeats 8000000 in
theorem lawVectLeast_any (C : VC) (v u : Value) (vs : Nat → Value) (xss : List (List Int)) (cs : List Int) (w : World) (h1 : RowsRaw w v vs xss) (h2 : Reads64 w u cs) (hn : xss.length ≤ 9223372036854775807) :
    Calls Tryd.prog 8 #[v, u] w fun e w' => e = .returned (.bool true) ∧ Below w.heap.size w w' := by
  have hA := fun w => valive_any C w
  obtain ⟨ao, cp, hv, _⟩ := id h1
  obtain ⟨a1, c1, hu, _⟩ := id h2
  subst hv
  subst hu
  obtain ⟨n, hnn⟩ : ∃ n, xss.length = n := ⟨_, rfl⟩
  obtain ⟨m1, hm1⟩ : ∃ n, cs.length = n := ⟨_, rfl⟩
  rw [hnn] at h1 hn ⊢
  rw [hm1] at h2 ⊢
  have H1 := Lib.hid h1
  have H2 := Lib.hid h2
  have N1 := Lib.hid hnn
  have M1 := Lib.hid hm1
  clear h1 h2 hnn hm1
  go_enter Tryd.func8, Tryd.ntmps8
  go_wp2_with fail
  refine (hA _).mono ?_
  clear hA
  rintro e w1 ⟨rfl, hw1⟩
  have hG := (H1.out.below hw1).lens
  rw [N1.out] at hG
  have hG := great_any _ n _ w1 hG hn
  go_wp2_with fail
  refine hG.mono ?_
  clear hG
  rintro e _ ⟨t, rfl, rfl, ht⟩
  cases t with
  | true =>
    go_wp2
    go_ret
    exact ⟨rfl, hw1⟩
  | false =>
  obtain ⟨n100, hlen⟩ := ht rfl
  clear ht
  have hG := great_any _ 1 _ _ (Lens.one1 w1 a1 m1 c1 34) (by decide)
  have hw2 := hw1.alloc hw1.size (.cells #[.slice a1 m1 c1] 34)
  have HLEN := Lib.hid hlen
  clear hw1 hlen
  go_wp2_with fail
  refine hG.mono ?_
  clear hG
  rintro e _ ⟨t, rfl, rfl, ht⟩
  cases t with
  | true =>
    go_wp2
    go_ret
    exact ⟨rfl, hw2⟩
  | false =>
  obtain ⟨_, ht⟩ := ht rfl
  have l1 : m1 ≤ 100 := ht 0 (by decide)
  clear ht
  generalize w1.alloc (.cells #[.slice a1 m1 c1] 34) = w2 at *
  have k1 : cs.length ≤ 1000 := by rw [M1.out]; omega
  have R2 := (H1.out.below hw2).rows (fun i hi => HLEN.out i (by rw [← N1.out]; exact hi))
  have q2 := H2.out.below hw2
  have eL := C.least _ vs xss w2 R2 (by rw [N1.out]; omega) (fun x hx => by
    obtain ⟨i, hi, rfl⟩ := mem_getD hx
    exact Nat.le_trans (HLEN.out i (by rw [← N1.out]; exact hi)) (by decide))
  obtain ⟨ok, hok⟩ : ∃ ok, (decide (xss ≠ []) && xss.all vMay) = ok := ⟨_, rfl⟩
  rw [hok] at eL
  have HOK := Lib.hid hok
  clear hok
  go_wp2_with fail
  refine eL.mono ?_
  clear eL
  rintro e w3 ⟨vm, rfl, hrm, hb⟩
  have R3 := R2.below hb
  have q3 := q2.below hb
  have hw3 := hw2.trans (hb.mono hw2.size)
  clear R2 q2 hb hw2
  obtain ⟨am, cm, hvm, _⟩ := id hrm
  subst hvm
  obtain ⟨ec, hec⟩ : ∃ ec : Int, (if ok then 0 else 1) = ec := ⟨_, rfl⟩
  obtain ⟨lm, hlm⟩ : ∃ lm : Nat, (if ok then vLeast xss else []).length = lm := ⟨_, rfl⟩
  rw [hec]
  rw [hlm] at hrm ⊢
  have hNo : ok = false → ec = 1 ∧ lm = 0 := fun e => by
    subst e
    exact ⟨hec.symm, hlm.symm⟩
  have HEC := Lib.hid hec
  have HLM := Lib.hid hlm
  have HNO := Lib.hid hNo
  have HRM := Lib.hid hrm
  have HR := Lib.hid R3
  have HQ := Lib.hid q3
  have HW := Lib.hid hw3
  clear hec hlm hNo hrm R3 q3 hw3
  go_wp2_with fail
  go_loop [7] (fun i => ∃ k : Nat, i = .int .i64 k ∧ k ≤ n ∧ (xss.take k).all vMay = true) (fun i => n - (intOf i).toNat)
  case atStart => exact ⟨0, rfl, Nat.zero_le _, rfl⟩
  case round =>
    obtain ⟨k, rfl, hk, hall⟩ := hrel
    have Hall := Lib.hid hall
    clear hall
    rcases Nat.lt_or_ge k n with hlt | hge
    · have hkl : k < xss.length := by rw [N1.out]; exact hlt
      obtain ⟨b, off, cap', hv, hc, hr, hl⟩ := HR.out.at hkl
      rw [N1.out] at hv
      cases hv
      have hM := rMayV_any _ _ w3 hr hl
      have Hkl := Lib.hid hkl
      have hi : (0 : Int) ≤ (k : Int) ∧ (k : Int) < (n : Int) := ⟨by omega, by omega⟩
      clear hkl hr hl
      generalize vs k = vk at *
      cases hm : vMay (xss.getD k []) with
      | false =>
        rw [hm] at hM
        obtain ⟨rfl, rfl⟩ := HNO.out (by rw [← HOK.out, all_bad Hkl.out hm, Bool.and_false])
        clear hm
        go_wp2_with fail
        refine hM.mono ?_
        rintro e _ ⟨rfl, rfl⟩
        go_wp2
        go_ret
        exact ⟨rfl, HW.out⟩
      | true =>
        rw [hm] at hM
        have HT := Lib.hid (all_take_next Hkl.out Hall.out hm)
        clear hm
        go_wp2_with fail
        refine hM.mono ?_
        rintro e _ ⟨rfl, rfl⟩
        go_wp2
        go_round
        case rel => exact ⟨k + 1, by go_num, by omega, HT.out⟩
        case measure => simp [intOf]; omega
    · obtain rfl : k = n := by omega
      have HT := Lib.hid (show xss.all vMay = true by have := Hall.out; rwa [List.take_of_length_le (by rw [N1.out]; exact Nat.le_refl _)] at this)
      clear Hall
      rcases Nat.eq_zero_or_pos k with h0 | hpos
      · obtain ⟨rfl, rfl⟩ := HNO.out (by
          have : xss = [] := List.eq_nil_of_length_eq_zero (by rw [N1.out]; exact h0)
          rw [← HOK.out, this]; rfl)
        subst h0
        go_wp2
        go_ret
        exact ⟨rfl, HW.out⟩
      · obtain ⟨x, l, hxl⟩ : ∃ x l, xss = x :: l := by
          cases hx : xss with
          | nil => have := N1.out; rw [hx] at this; simp at this; omega
          | cons x l => exact ⟨x, l, rfl⟩
        have hok : ok = true := by rw [← HOK.out, HT.out, hxl]; rfl
        subst hok
        obtain rfl : 0 = ec := HEC.out
        have hlm := HLM.out
        have hrm := HRM.out
        rw [if_pos rfl] at hlm hrm
        have hLst := rLeast_any (.slice ao k cp) vs x l w3 (by rw [← hxl]; exact HR.out) (by rw [← hxl, N1.out]; omega)
        rw [← hxl] at hLst
        have hmay : vMay (vLeast xss) = true := by rw [hxl]; exact vLeast_may x l (by rw [← hxl]; exact HT.out)
        have heach : ∀ y ∈ xss, vCov y (vLeast xss) = true := fun y hy => by rw [hxl] at hy ⊢; exact vLeast_each x l y hy
        have hcov : vCov (vLeast xss) cs = xss.all fun y => vCov y cs := by rw [hxl]; exact vLeast_cov x l cs
        have hM16 : (vLeast xss).length ≤ 16 := by rw [hxl]; exact vMade_length_le _
        obtain ⟨M, hM⟩ : ∃ M, vLeast xss = M := ⟨_, rfl⟩
        rw [hM] at hlm hrm hLst hmay heach hcov hM16
        clear hM hxl HEC HLM HRM HNO HOK
        have HLmm := Lib.hid hlm
        have HMAY := Lib.hid hmay
        have HEACH := Lib.hid heach
        have HCOV := Lib.hid hcov
        have HRMM := Lib.hid hrm
        clear hlm hmay heach hcov hrm
        have hi0 : ((k : Int) == 0) = false := beq_eq_false_iff_ne.2 (by omega)
        go_wp2_with fail
        refine hLst.mono ?_
        clear hLst
        rintro e w4 ⟨v4, rfl, hr4, hb⟩
        have eS := rSame_any _ _ M M w4 (HRMM.out.below hb) hr4 (by omega)
        rw [decide_eq_true (rfl : M = M)] at eS
        have hw4 := HW.out.trans (hb.mono HW.out.size)
        have rm4 := HRMM.out.below hb
        have R4 := HR.out.below hb
        have q4 := HQ.out.below hb
        clear hr4 hb HRMM HR HQ HW
        go_wp2_with fail
        refine eS.mono ?_
        clear eS
        rintro e w5 ⟨rfl, hb⟩
        have hw5 := hw4.trans (hb.mono hw4.size)
        have rm5 := rm4.below hb
        have R5 := R4.below hb
        have q5 := q4.below hb
        clear hb rm4 R4 q4 hw4
        have eP := C.may _ M w5 rm5 (by omega)
        rw [HMAY.out] at eP
        go_wp2_with fail
        refine eP.mono ?_
        clear eP
        rintro e w6 ⟨rfl, hb⟩
        have HW6 := Lib.hid (hw5.trans (hb.mono hw5.size))
        have HRM6 := Lib.hid (rm5.below hb)
        have HR6 := Lib.hid (R5.below hb)
        have HQ6 := Lib.hid (q5.below hb)
        clear hb rm5 R5 q5 hw5
        go_wp2_with fail
        go_loopw [8, 9] (fun al i wr => ∃ j : Nat, i = .int .i64 j ∧ j ≤ k ∧ al = .bool ((xss.take j).all fun y => vMay cs && vCov y cs) ∧ Below w6.heap.size w6 wr) (fun _ i _ => k - (intOf i).toNat)
        case atStart => exact ⟨0, rfl, Nat.zero_le _, rfl, Below.refl _ _⟩
        case round =>
          obtain ⟨j, rfl, hj, rfl, hbw⟩ := hrel
          rcases Nat.lt_or_ge j k with hlt | hge
          · have hjl : j < xss.length := by rw [N1.out]; exact hlt
            obtain ⟨b, off, cap', hv, hc, hr, hl⟩ := (HR6.out.below hbw).at hjl
            rw [N1.out] at hv
            cases hv
            have hl : (xss.getD j []).length ≤ 1000 := Nat.le_trans (HLEN.out j hlt) (by decide)
            have mj := may_at HT.out hjl
            have eC := C.covers _ _ _ M wr hr (HRM6.out.below hbw) hl (by omega)
            rw [mj, HMAY.out, HEACH.out _ (getD_mem hjl)] at eC
            have hAT := all_take_and xss (fun y => vMay cs && vCov y cs) j hjl
            have eD := fun W h h' => C.covers (vs j) (.slice a1 m1 c1) (xss.getD j []) cs W h h' hl k1
            rw [mj] at eD
            obtain ⟨y, hy⟩ : ∃ y, xss.getD j [] = y := ⟨_, rfl⟩
            rw [hy] at hr eD hAT
            have qw := HQ6.out.below hbw
            have HB := Lib.hid hbw
            have hi : (0 : Int) ≤ (j : Int) ∧ (j : Int) < (k : Int) := ⟨by omega, by omega⟩
            clear hjl hl mj hy hbw
            generalize vs j = vj at *
            go_wp2_with fail
            refine eC.mono ?_
            clear eC
            rintro e w7 ⟨rfl, hb⟩
            have hr7 := hr.below hb
            have q7 := qw.below hb
            have HB7 := Lib.hid (HB.out.trans (hb.mono HB.out.size))
            have hc7 := cell_stays hb hc
            clear hb hr qw hc
            obtain ⟨A, hA⟩ : ∃ A, ((xss.take j).all fun y => vMay cs && vCov y cs) = A := ⟨_, rfl⟩
            rw [hA] at hAT ⊢
            clear hA
            cases A with
            | false =>
              rw [Bool.false_and] at hAT
              have HAT := Lib.hid hAT
              clear hAT eD hr7 q7
              go_wp2
              exact ⟨⟨j + 1, by congr 1, by omega, by rw [HAT.out], HB7.out⟩, by simp [RowKit.intOf]; omega⟩
            | true =>
              have eE := eD w7 hr7 q7
              rw [Bool.true_and] at hAT eE
              obtain ⟨z, hz⟩ : ∃ z, (vMay cs && vCov y cs) = z := ⟨_, rfl⟩
              rw [hz] at eE hAT
              have HAT := Lib.hid hAT
              clear hAT eD hz hr7 q7
              go_wp2_with fail
              refine eE.mono ?_
              clear eE
              rintro e w8 ⟨rfl, hb⟩
              have HB8 := Lib.hid (HB7.out.trans (hb.mono HB7.out.size))
              clear hb
              go_wp2
              exact ⟨⟨j + 1, by congr 1, by omega, by rw [HAT.out], HB8.out⟩, by simp [RowKit.intOf]; omega⟩
          · obtain rfl : j = k := by omega
            rw [List.take_of_length_le (show xss.length ≤ j by rw [N1.out]; exact Nat.le_refl _)]
            have q6 := HQ6.out.below hbw
            have r6 := HRM6.out.below hbw
            have hw7 := HW6.out.trans (hbw.mono HW6.out.size)
            have eM := rMayV_any _ cs wr q6 (by omega)
            cases hmc : vMay cs with
            | false =>
              rw [hmc] at eM
              clear hbw q6 r6 hmc
              obtain ⟨A, hA⟩ : ∃ A, (xss.all fun y => false && vCov y cs) = A := ⟨_, rfl⟩
              rw [hA]
              clear hA
              go_wp2_with fail
              refine eM.mono ?_
              rintro e _ ⟨rfl, rfl⟩
              go_wp2
              go_ret
              exact ⟨rfl, hw7⟩
            | true =>
              rw [hmc] at eM
              have eC := C.covers _ _ M cs wr r6 q6 (by omega) k1
              rw [HMAY.out, hmc, HCOV.out] at eC
              rw [show (fun y => true && vCov y cs) = fun y => vCov y cs from rfl]
              rw [Bool.true_and, Bool.true_and] at eC
              obtain ⟨A, hA⟩ : ∃ A, (xss.all fun y => vCov y cs) = A := ⟨_, rfl⟩
              rw [hA] at eC ⊢
              clear hA hbw q6 r6 hmc
              go_wp2_with fail
              refine eM.mono ?_
              rintro e _ ⟨rfl, rfl⟩
              go_wp2_with fail
              refine eC.mono ?_
              clear eC
              rintro e w8 ⟨rfl, hb⟩
              have hw8 := hw7.trans (hb.mono hw7.size)
              clear hb hw7
              cases A
              all_goals
                go_wp2
                go_ret
                exact ⟨rfl, hw8⟩
end Go.Proofs.YthbophioohcphaaDoor
