/- SpansOpen: the law's walk. -/
import Derived.Test.YtlofeaodpblagaaOpenPlain
import Derived.Test.YtlofeaodpblagaaShut
namespace Go.Proofs.Ytlofeaodpblagaa
open Go.RowKit

set_option maxRecDepth 100000 in
set_option maxHeartbeats 8000000 in
theorem lawSpansOpen_any (C : SC) (v : Value) (xs : List Sp) (p n : Int) (w : World) (h1 : SpAt w v xs) (hp : (Lit.int .i64 p).wf = true) (hn : (Lit.int .i64 n).wf = true) (hwf : sWf xs) :
    Calls Try.prog 5 #[v, .int .i64 p, .int .i64 n] w fun e w' => e = .returned (.bool true) ∧ Below w.heap.size w w' := by
  have hA := fun w => salive_any C w
  have hn63 : n ≤ 9223372036854775807 := (wf_i64 hn).2
  obtain ⟨a1, c1, rfl, _⟩ := id h1
  obtain ⟨L, hL⟩ : ∃ n, xs.length = n := ⟨_, rfl⟩
  rw [hL] at h1 ⊢
  have N1 := Lib.hid hL
  have H1 := Lib.hid h1
  have HP := Lib.hid hp
  have HWF := Lib.hid hwf
  clear hwf
  have HN := Lib.hid hn
  have hG1 := fun w => sgreat_any (.slice a1 L c1) L a1 c1 w rfl
  clear hL h1 hp hn
  go_enter Try.func5, Try.ntmps5
  go_wp2_with fail
  refine (hA _).mono ?_
  clear hA
  rintro e w1 ⟨rfl, hw1⟩
  rcases Nat.lt_or_ge 60 L with hgt | hle1
  · rw [show decide ((60 : Int) < (L : Int)) = true from decide_eq_true (by omega)] at hG1
    go_wp2_with fail
    refine (hG1 _).mono ?_
    rintro e _ ⟨rfl, rfl⟩
    go_wp2
    go_ret
    exact ⟨rfl, hw1⟩
  rw [show decide ((60 : Int) < (L : Int)) = false from decide_eq_false (by omega)] at hG1
  have k1 : xs.length ≤ 1000000 := by rw [N1.out]; omega
  have p1 := H1.out.below hw1
  have e1 := fun W h => C.opened (.slice a1 L c1) xs p n W h k1 HWF.out HP.out HN.out
  have e2 := fun W h => rSpOpen_any (.slice a1 L c1) xs p n W h (by omega) hn63
  have e3 := fun W h => C.shut (.slice a1 L c1) xs p n W h k1 HWF.out HP.out HN.out
  have e4 := fun W h => rSpShut_any (.slice a1 L c1) xs p n W h (by omega) hn63
  unfold OpenPost at e1
  unfold OpenPost at e2
  unfold SpOkPost at e3
  unfold SpOkPost at e4
  have hV := opC_vals xs p n
  have hF := fun (h : opC xs p n = 0) => open_facts h
  have hM0 := fun (h : opC xs p n = 0) => (opC_zero h).1
  obtain ⟨D, hD⟩ : ∃ D : List Sp, (if opC xs p n = 0 then opL xs p n else []) = D := ⟨_, rfl⟩
  have hDD : opC xs p n = 0 → opL xs p n = D := fun q => by rw [← hD, if_pos q]
  have l1 : D.length ≤ 1000000 := by
    rw [← hD]
    split
    · exact Nat.le_trans (opL_length _ _ _) (by decide)
    · exact Nat.zero_le _
  rw [hD] at e1 e2
  obtain ⟨oc, hoc⟩ : ∃ oc, opC xs p n = oc := ⟨_, rfl⟩
  rw [hoc] at e1 e2 hV hF hM0 hDD
  obtain ⟨sb, hsb⟩ : ∃ sb, shB xs p n = sb := ⟨_, rfl⟩
  rw [hsb] at e3 e4
  obtain ⟨U, hU⟩ : ∃ U : List Sp, (if sb then shL xs p n else []) = U := ⟨_, rfl⟩
  have l2 : U.length ≤ 1000000000 := by
    rw [← hU]
    split
    · exact Nat.le_trans (sMade_length _ _) (by decide)
    · exact Nat.zero_le _
  rw [hU] at e3 e4
  have HF := Lib.hid hF
  have HV := Lib.hid hV
  have HM0 := Lib.hid hM0
  have HDD := Lib.hid hDD
  clear hF hV hM0 hDD hD hoc hsb hU
  go_wp2_with fail
  refine (hG1 _).mono ?_
  clear hG1
  rintro e _ ⟨rfl, rfl⟩
  go_wp2_with fail
  refine (e1 _ p1).mono ?_
  clear e1
  rintro e w2 ⟨vx, rfl, x2, hb⟩
  have p2 := p1.below hb
  have hw2 := hw1.trans (hb.mono hw1.size)
  clear hb p1 hw1 
  go_wp2_with fail
  refine (e2 _ p2).mono ?_
  clear e2
  rintro e w3 ⟨vy, rfl, y3, hb⟩
  have p3 := p2.below hb
  have hw3 := hw2.trans (hb.mono hw2.size)
  have x3 := x2.below hb
  clear hb p2 hw2 x2
  go_wp2_with fail
  refine (e3 _ p3).mono ?_
  clear e3
  rintro e w4 ⟨vu, rfl, u4, hb⟩
  have p4 := p3.below hb
  have hw4 := hw3.trans (hb.mono hw3.size)
  have x4 := x3.below hb
  have y4 := y3.below hb
  clear hb p3 hw3 x3 y3
  go_wp2_with fail
  refine (e4 _ p4).mono ?_
  clear e4
  rintro e w5 ⟨vv, rfl, v5, hb⟩
  have p5 := p4.below hb
  have hw5 := hw4.trans (hb.mono hw4.size)
  have x5 := x4.below hb
  have y5 := y4.below hb
  have u5 := u4.below hb
  clear hb p4 hw4 x4 y4 u4
  obtain ⟨ax, cx, hvx, _⟩ := id x5
  subst hvx
  have eS := rSpSame_any _ _ _ _ w5 x5 y5 (by omega)
  rw [decide_eq_true rfl] at eS
  have hocn : oc = 0 ∨ (oc != 0) = true := by
    rcases HV.out with h | h | h
    · exact .inl h
    · exact .inr (by rw [h]; rfl)
    · exact .inr (by rw [h]; rfl)
  go_wp2_with fail
  refine eS.mono ?_
  clear eS
  rintro e w6 ⟨rfl, hb⟩
  have p6 := p5.below hb
  have x6 := x5.below hb
  have hw6 := hw5.trans (hb.mono hw5.size)
  have eT := rSpSame_any _ _ _ _ w6 (u5.below hb) (v5.below hb) l2
  rw [decide_eq_true rfl] at eT
  clear hb p5 x5 y5 u5 v5 hw5
  cases sb
  all_goals
    go_wp2_with fail
    refine eT.mono ?_
    clear eT
    rintro e w7 ⟨rfl, hb⟩
    have p7 := p6.below hb
    have x7 := x6.below hb
    have hw7 := hw6.trans (hb.mono hw6.size)
    clear hb p6 x6 hw6
    rcases hocn with rfl | hocn
    · obtain ⟨f1, f2, f3⟩ := HF.out rfl
      have hm0 := HM0.out rfl
      have hdd := HDD.out rfl
      rw [hdd] at f1 f2 f3
      have hmd : sMay D = true := by rw [← hdd]; exact opL_may _ _ _
      have eU := C.shut _ D p n w7 x7 l1 (sWf_may hmd) HP.out HN.out
      rw [f1, f2] at eU
      unfold SpOkPost at eU
      rw [if_pos rfl] at eU
      have eX := fun W h => C.total (.slice ax D.length cx) D W h l1 (sWf_may hmd)
      have eY := fun W h => C.total (.slice a1 L c1) xs W h k1 HWF.out
      rw [hmd, if_pos rfl, f3] at eX
      rw [hm0, if_pos rfl] at eY
      generalize cntTo (sMark xs) 20000 = T at *
      clear f1 f2 f3 hm0 hdd hmd
      go_wp2_with fail
      refine eU.mono ?_
      clear eU
      rintro e w8 ⟨vz, rfl, z8, hb⟩
      have p8 := p7.below hb
      have x8 := x7.below hb
      have hw8 := hw7.trans (hb.mono hw7.size)
      clear hb p7 x7 hw7
      have eS := rSpSame_any _ _ _ _ w8 z8 p8 (by omega)
      rw [decide_eq_true rfl] at eS
      go_wp2_with fail
      refine eS.mono ?_
      clear eS
      rintro e w9 ⟨rfl, hb⟩
      have p9 := p8.below hb
      have x9 := x8.below hb
      have hw9 := hw8.trans (hb.mono hw8.size)
      clear hb p8 x8 hw8 z8
      go_wp2_with fail
      refine (eX _ x9).mono ?_
      clear eX
      rintro e w10 ⟨rfl, hb⟩
      have p10 := p9.below hb
      have hw10 := hw9.trans (hb.mono hw9.size)
      clear hb p9 x9 hw9
      go_wp2_with fail
      refine (eY _ p10).mono ?_
      clear eY
      rintro e w11 ⟨rfl, hb⟩
      have hw11 := hw10.trans (hb.mono hw10.size)
      clear hb hw10
      go_wp2
      go_ret
      exact ⟨rfl, hw11⟩
    · go_wp2
      go_ret
      exact ⟨rfl, hw7⟩
end Go.Proofs.Ytlofeaodpblagaa
