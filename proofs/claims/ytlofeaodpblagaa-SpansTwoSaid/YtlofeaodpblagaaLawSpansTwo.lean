/- SpansTwo: the law's walk. -/
import Derived.Test.YtlofeaodpblagaaSpansAlive
namespace Go.Proofs.Ytlofeaodpblagaa
open Go.RowKit

theorem twoL_length (k : Nat) (xs ys : List Sp) : (twoL k xs ys).length ≤ 20000 := sMade_length _ _
set_option maxRecDepth 100000 in
set_option maxHeartbeats 8000000 in
theorem lawSpansTwo_any (C : SC) (u v : Value) (xs ys : List Sp) (w : World) (h1 : SpAt w u xs) (h2 : SpAt w v ys) (hwx : sWf xs) (hwy : sWf ys) :
    Calls Try.prog 6 #[u, v] w fun e w' => e = .returned (.bool true) ∧ Below w.heap.size w w' := by
  have hA := fun w => salive_any C w
  obtain ⟨a1, c1, rfl, _⟩ := id h1
  obtain ⟨a2, c2, rfl, _⟩ := id h2
  obtain ⟨n1, hn1⟩ : ∃ n, xs.length = n := ⟨_, rfl⟩
  obtain ⟨n2, hn2⟩ : ∃ n, ys.length = n := ⟨_, rfl⟩
  rw [hn1] at h1 ⊢
  rw [hn2] at h2 ⊢
  have HWX := Lib.hid hwx
  have HWY := Lib.hid hwy
  clear hwx hwy
  have N1 := Lib.hid hn1
  have N2 := Lib.hid hn2
  have H1 := Lib.hid h1
  have H2 := Lib.hid h2
  have hG1 := fun w => sgreat_any (.slice a1 n1 c1) n1 a1 c1 w rfl
  have hG2 := fun w => sgreat_any (.slice a2 n2 c2) n2 a2 c2 w rfl
  clear hn1 hn2 h1 h2
  go_enter Try.func6, Try.ntmps6
  go_wp2_with fail
  refine (hA _).mono ?_
  clear hA
  rintro e w1 ⟨rfl, hw1⟩
  rcases Nat.lt_or_ge 60 n1 with hgt | hle1
  · rw [show decide ((60 : Int) < (n1 : Int)) = true from decide_eq_true (by omega)] at hG1
    go_wp2_with fail
    refine (hG1 _).mono ?_
    rintro e _ ⟨rfl, rfl⟩
    go_wp2
    go_ret
    exact ⟨rfl, hw1⟩
  rw [show decide ((60 : Int) < (n1 : Int)) = false from decide_eq_false (by omega)] at hG1
  rcases Nat.lt_or_ge 60 n2 with hgt | hle2
  · rw [show decide ((60 : Int) < (n2 : Int)) = true from decide_eq_true (by omega)] at hG2
    go_wp2_with fail
    refine (hG1 _).mono ?_
    rintro e _ ⟨rfl, rfl⟩
    go_wp2_with fail
    refine (hG2 _).mono ?_
    rintro e _ ⟨rfl, rfl⟩
    go_wp2
    go_ret
    exact ⟨rfl, hw1⟩
  rw [show decide ((60 : Int) < (n2 : Int)) = false from decide_eq_false (by omega)] at hG2
  have k1 : xs.length ≤ 1000000 := by rw [N1.out]; omega
  have k2 : ys.length ≤ 1000000 := by rw [N2.out]; omega
  have p1 := H1.out.below hw1
  have q1 := H2.out.below hw1
  have e1 := fun W h h' => C.any (.slice a1 n1 c1) (.slice a2 n2 c2) xs ys W h h' k1 k2 HWX.out HWY.out
  have e2 := fun W h h' => C.both (.slice a1 n1 c1) (.slice a2 n2 c2) xs ys W h h' k1 k2 HWX.out HWY.out
  have e3 := fun W h h' => C.less (.slice a1 n1 c1) (.slice a2 n2 c2) xs ys W h h' k1 k2 HWX.out HWY.out
  have d1 := fun W h h' => rSpTwo_any 0 0 (by omega) (.slice a1 n1 c1) (.slice a2 n2 c2) xs ys W h h' (by omega) (by omega)
  have d2 := fun W h h' => rSpTwo_any 1 1 (by omega) (.slice a1 n1 c1) (.slice a2 n2 c2) xs ys W h h' (by omega) (by omega)
  have d3 := fun W h h' => rSpTwo_any 2 2 (by omega) (.slice a1 n1 c1) (.slice a2 n2 c2) xs ys W h h' (by omega) (by omega)
  obtain ⟨b, hb0⟩ : ∃ b, (sMay xs && sMay ys) = b := ⟨_, rfl⟩
  rw [hb0] at e1 e2 e3 d1 d2 d3
  unfold SpErrPost at e1
  unfold SpErrPost at e2
  unfold SpErrPost at e3
  unfold SpOkPost at d1
  unfold SpOkPost at d2
  unfold SpOkPost at d3
  obtain ⟨D0, hD0⟩ : ∃ D : List Sp, (if b then twoL 0 xs ys else []) = D := ⟨_, rfl⟩
  have l0 : D0.length ≤ 1000000000 := by
    rw [← hD0]
    cases b
    · exact Nat.zero_le _
    · exact Nat.le_trans (twoL_length _ _ _) (by decide)
  rw [hD0] at e1 d1
  obtain ⟨D1, hD1⟩ : ∃ D : List Sp, (if b then twoL 1 xs ys else []) = D := ⟨_, rfl⟩
  have l1 : D1.length ≤ 1000000000 := by
    rw [← hD1]
    cases b
    · exact Nat.zero_le _
    · exact Nat.le_trans (twoL_length _ _ _) (by decide)
  rw [hD1] at e2 d2
  obtain ⟨D2, hD2⟩ : ∃ D : List Sp, (if b then twoL 2 xs ys else []) = D := ⟨_, rfl⟩
  have l2 : D2.length ≤ 1000000000 := by
    rw [← hD2]
    cases b
    · exact Nat.zero_le _
    · exact Nat.le_trans (twoL_length _ _ _) (by decide)
  rw [hD2] at e3 d3
  obtain ⟨ec, hec⟩ : ∃ ec : Int, (if b then 0 else 1) = ec := ⟨_, rfl⟩
  rw [hec] at e1 e2 e3
  have HEC := Lib.hid hec
  clear hD0 hD1 hD2 hec hb0
  go_wp2_with fail
  refine (hG1 _).mono ?_
  clear hG1
  rintro e _ ⟨rfl, rfl⟩
  go_wp2_with fail
  refine (hG2 _).mono ?_
  clear hG2
  rintro e _ ⟨rfl, rfl⟩
  go_wp2_with fail
  refine (e1 _ p1 q1).mono ?_
  clear e1
  rintro e w2 ⟨vx, rfl, x2, hb⟩
  have p2 := p1.below hb
  have q2 := q1.below hb
  have hw2 := hw1.trans (hb.mono hw1.size)
  clear hb p1 q1 hw1 
  go_wp2_with fail
  refine (e2 _ p2 q2).mono ?_
  clear e2
  rintro e w3 ⟨vy, rfl, y3, hb⟩
  have p3 := p2.below hb
  have q3 := q2.below hb
  have hw3 := hw2.trans (hb.mono hw2.size)
  have x3 := x2.below hb
  clear hb p2 q2 hw2 x2
  go_wp2_with fail
  refine (e3 _ p3 q3).mono ?_
  clear e3
  rintro e w4 ⟨vz, rfl, z4, hb⟩
  have p4 := p3.below hb
  have q4 := q3.below hb
  have hw4 := hw3.trans (hb.mono hw3.size)
  have x4 := x3.below hb
  have y4 := y3.below hb
  clear hb p3 q3 hw3 x3 y3
  go_wp2_with fail
  refine (d1 _ p4 q4).mono ?_
  clear d1
  rintro e w5 ⟨vs, rfl, s5, hb⟩
  have p5 := p4.below hb
  have q5 := q4.below hb
  have hw5 := hw4.trans (hb.mono hw4.size)
  have x5 := x4.below hb
  have y5 := y4.below hb
  have z5 := z4.below hb
  clear hb p4 q4 hw4 x4 y4 z4
  go_wp2_with fail
  refine (d2 _ p5 q5).mono ?_
  clear d2
  rintro e w6 ⟨vt, rfl, t6, hb⟩
  have p6 := p5.below hb
  have q6 := q5.below hb
  have hw6 := hw5.trans (hb.mono hw5.size)
  have x6 := x5.below hb
  have y6 := y5.below hb
  have z6 := z5.below hb
  have s6 := s5.below hb
  clear hb p5 q5 hw5 x5 y5 z5 s5
  go_wp2_with fail
  refine (d3 _ p6 q6).mono ?_
  clear d3
  rintro e w7 ⟨vr, rfl, r7, hb⟩
  have p7 := p6.below hb
  have q7 := q6.below hb
  have hw7 := hw6.trans (hb.mono hw6.size)
  have x7 := x6.below hb
  have y7 := y6.below hb
  have z7 := z6.below hb
  have s7 := s6.below hb
  have t7 := t6.below hb
  clear hb p6 q6 hw6 x6 y6 z6 s6 t6
  cases b
  case' false => obtain rfl : 1 = ec := HEC.out
  case' true => obtain rfl : 0 = ec := HEC.out
  all_goals
    have eS := rSpSame_any _ _ _ _ w7 x7 s7 l0
    rw [decide_eq_true rfl] at eS
    go_wp2_with fail
    refine eS.mono ?_
    clear eS
    rintro e w8 ⟨rfl, hb⟩
    have hw8 := hw7.trans (hb.mono hw7.size)
    have y8 := y7.below hb
    have z8 := z7.below hb
    have t8 := t7.below hb
    have r8 := r7.below hb
    clear hb hw7
    have eS := rSpSame_any _ _ _ _ w8 y8 t8 l1
    rw [decide_eq_true rfl] at eS
    go_wp2_with fail
    refine eS.mono ?_
    clear eS
    rintro e w9 ⟨rfl, hb⟩
    have hw9 := hw8.trans (hb.mono hw8.size)
    have z9 := z8.below hb
    have r9 := r8.below hb
    clear hb hw8
    have eS := rSpSame_any _ _ _ _ w9 z9 r9 l2
    rw [decide_eq_true rfl] at eS
    go_wp2_with fail
    refine eS.mono ?_
    clear eS
    rintro e w10 ⟨rfl, hb⟩
    have hw10 := hw9.trans (hb.mono hw9.size)
    clear hb hw9
    go_wp2
    go_ret
    exact ⟨rfl, hw10⟩
end Go.Proofs.Ytlofeaodpblagaa
