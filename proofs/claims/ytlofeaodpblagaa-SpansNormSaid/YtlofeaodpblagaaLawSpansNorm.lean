/- SpansNorm: the law's walk. -/
import Derived.Test.YtlofeaodpblagaaSpansAlive
namespace Go.Proofs.Ytlofeaodpblagaa
open Go.RowKit

theorem sMade_may (f : Nat → Bool) : sMay (sMade f 20000) = true := (sMay_good _).2 (sMade_good f 20000 (Nat.le_refl _))
set_option maxRecDepth 100000 in
set_option maxHeartbeats 4000000 in
theorem lawSpansNorm_any (C : SC) (v : Value) (xs : List Sp) (w : World) (h1 : SpAt w v xs) (hw : sWf xs) :
    Calls Try.prog 3 #[v] w fun e w' => e = .returned (.bool true) ∧ Below w.heap.size w w' := by
  have hA := fun w => salive_any C w
  have HWF := Lib.hid hw
  clear hw
  obtain ⟨ao, cap, rfl, _⟩ := id h1
  obtain ⟨n, hn⟩ : ∃ n, xs.length = n := ⟨_, rfl⟩
  rw [hn] at h1 ⊢
  have Hn := Lib.hid hn
  have H1 := Lib.hid h1
  have hG := fun w => sgreat_any (.slice ao n cap) n ao cap w rfl
  clear hn h1
  go_enter Try.func3, Try.ntmps3
  go_wp2_with fail
  refine (hA _).mono ?_
  clear hA
  rintro e w1 ⟨rfl, hw1⟩
  rcases Nat.lt_or_ge 60 n with hgt | hle
  · have e60 : decide ((60 : Int) < (n : Int)) = true := decide_eq_true (by omega)
    rw [e60] at hG
    go_wp2_with fail
    refine (hG _).mono ?_
    rintro e _ ⟨rfl, rfl⟩
    go_wp2
    go_ret
    exact ⟨rfl, hw1⟩
  have e60 : decide ((60 : Int) < (n : Int)) = false := decide_eq_false (by omega)
  rw [e60] at hG
  have kx : xs.length ≤ 1000000 := by rw [Hn.out]; omega
  have r1 := H1.out.below hw1
  have eN := C.norm _ xs w1 r1 kx HWF.out
  have eM := fun W hW => rNorm_any (.slice ao n cap) xs W hW (by omega)
  have eP := fun W hW => C.may (.slice ao n cap) xs W hW kx HWF.out
  have eQ := fun W hW => rSpMay_any (.slice ao n cap) xs W hW (by omega)
  have hself : sMay xs = true → sMade (sMark xs) 20000 = xs := fun q => sMade_self ((sMay_good xs).1 q)
  have HSELF := Lib.hid hself
  clear hself
  go_wp2_with fail
  refine (hG _).mono ?_
  clear hG
  rintro e _ ⟨rfl, rfl⟩
  go_wp2_with fail
  refine eN.mono ?_
  clear eN
  rintro e w2 ⟨vx, rfl, hrx, hb⟩
  have r2 := r1.below hb
  have hw2 := hw1.trans (hb.mono hw1.size)
  clear hb r1 hw1
  obtain ⟨ok, hok⟩ : ∃ ok, xs.all spOk = ok := ⟨_, rfl⟩
  rw [hok] at hrx eM ⊢
  have eM := eM w2 r2
  unfold SpOkPost at eM
  obtain ⟨D, hD⟩ : ∃ D : List Sp, (if ok then sMade (sMark xs) 20000 else []) = D := ⟨_, rfl⟩
  obtain ⟨ec, hec⟩ : ∃ ec : Int, (if ok then 0 else 1) = ec := ⟨_, rfl⟩
  rw [hD] at hrx eM
  rw [hec]
  have HD := Lib.hid hD
  have HEC := Lib.hid hec
  have kD : D.length ≤ 20000 := by
    rw [← hD]
    cases ok
    · exact Nat.zero_le _
    · exact sMade_length _ _
  clear hD hec hok
  obtain ⟨ax, cx, hvx, _⟩ := id hrx
  subst hvx
  go_wp2_with fail
  refine eM.mono ?_
  clear eM
  rintro e w3 ⟨vy, rfl, hry, hb⟩
  have r3 := r2.below hb
  have rx3 := hrx.below hb
  have hw3 := hw2.trans (hb.mono hw2.size)
  clear hb r2 hw2 hrx
  have eP := eP w3 r3
  go_wp2_with fail
  refine eP.mono ?_
  clear eP
  rintro e w4 ⟨rfl, hb⟩
  have r4 := r3.below hb
  have rx4 := rx3.below hb
  have ry4 := hry.below hb
  have hw4 := hw3.trans (hb.mono hw3.size)
  clear hb r3 hw3 hry rx3
  have eQ4 := eQ w4 r4
  go_wp2_with fail
  refine eQ4.mono ?_
  clear eQ4
  rintro e w5 ⟨rfl, hb⟩
  have r5 := r4.below hb
  have rx5 := rx4.below hb
  have ry5 := ry4.below hb
  have hw5 := hw4.trans (hb.mono hw4.size)
  clear hb r4 hw4 rx4 ry4
  have eS := rSpSame_any _ _ _ _ w5 rx5 ry5 (by omega)
  rw [decide_eq_true rfl] at eS
  cases ok with
  | false =>
    obtain rfl : 1 = ec := HEC.out
    obtain ⟨m, hm⟩ : ∃ m, sMay xs = m := ⟨_, rfl⟩
    rw [hm]
    clear hm HSELF
    cases m
    all_goals
      go_wp2_with fail
      refine eS.mono ?_
      clear eS
      rintro e w6 ⟨rfl, hb⟩
      have hw6 := hw5.trans (hb.mono hw5.size)
      clear hb
      go_wp2
      go_ret
      exact ⟨rfl, hw6⟩
  | true =>
    obtain rfl : 0 = ec := HEC.out
    have hD : sMade (sMark xs) 20000 = D := HD.out
    have eT := fun W hW => C.may (.slice ax D.length cx) D W hW (by omega) (hD ▸ sWf_good (sMade_good _ _ (Nat.le_refl _)))
    rw [show sMay D = true by rw [← hD]; exact sMade_may _] at eT
    cases hm : sMay xs with
    | false =>
      rw [hm] at eQ
      clear HSELF
      go_wp2_with fail
      refine eS.mono ?_
      clear eS
      rintro e w6 ⟨rfl, hb⟩
      have r6 := r5.below hb
      have rx6 := rx5.below hb
      have hw6 := hw5.trans (hb.mono hw5.size)
      clear hb
      have eT := eT w6 rx6
      go_wp2_with fail
      refine eT.mono ?_
      clear eT
      rintro e w7 ⟨rfl, hb⟩
      have hw7 := hw6.trans (hb.mono hw6.size)
      have eQ := eQ w7 (r6.below hb)
      clear hb
      go_wp2_with fail
      refine eQ.mono ?_
      clear eQ
      rintro e w8 ⟨rfl, hb⟩
      have hw8 := hw7.trans (hb.mono hw7.size)
      clear hb
      go_wp2
      go_ret
      exact ⟨rfl, hw8⟩
    | true =>
      rw [hm] at eQ
      obtain rfl : xs = D := (HSELF.out hm).symm.trans hD
      go_wp2_with fail
      refine eS.mono ?_
      clear eS
      rintro e w6 ⟨rfl, hb⟩
      have r6 := r5.below hb
      have rx6 := rx5.below hb
      have hw6 := hw5.trans (hb.mono hw5.size)
      clear hb
      have eT := eT w6 rx6
      go_wp2_with fail
      refine eT.mono ?_
      clear eT
      rintro e w7 ⟨rfl, hb⟩
      have hw7 := hw6.trans (hb.mono hw6.size)
      have eQ := eQ w7 (r6.below hb)
      have r7 := r6.below hb
      have rx7 := rx6.below hb
      clear hb
      go_wp2_with fail
      refine eQ.mono ?_
      clear eQ
      rintro e w8 ⟨rfl, hb⟩
      have hw8 := hw7.trans (hb.mono hw7.size)
      have eS := rSpSame_any _ _ _ _ w8 (rx7.below hb) (r7.below hb) (by omega)
      rw [decide_eq_true rfl] at eS
      clear hb
      go_wp2_with fail
      refine eS.mono ?_
      clear eS
      rintro e w9 ⟨rfl, hb⟩
      have hw9 := hw8.trans (hb.mono hw8.size)
      clear hb
      go_wp2
      go_ret
      exact ⟨rfl, hw9⟩
end Go.Proofs.Ytlofeaodpblagaa
