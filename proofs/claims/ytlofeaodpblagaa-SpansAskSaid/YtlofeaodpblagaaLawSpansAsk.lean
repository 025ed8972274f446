/- SpansAsk: the law's walk. -/
import Derived.Test.YtlofeaodpblagaaSpansAlive
namespace Go.Proofs.Ytlofeaodpblagaa
open Go.RowKit

set_option maxRecDepth 100000 in
set_option maxHeartbeats 4000000 in
theorem lawSpansAsk_any (C : SC) (v : Value) (xs : List Sp) (p : Int) (w : World) (h1 : SpAt w v xs) (hp : (Lit.int .i64 p).wf = true) (hw : sWf xs) :
    Calls Try.prog 4 #[v, .int .i64 p] w fun e w' => e = .returned (.bool true) ∧ Below w.heap.size w w' := by
  have hA := fun w => salive_any C w
  obtain ⟨ao, cap, rfl, _⟩ := id h1
  obtain ⟨n, hn⟩ : ∃ n, xs.length = n := ⟨_, rfl⟩
  rw [hn] at h1 ⊢
  have Hn := Lib.hid hn
  have H1 := Lib.hid h1
  have HP := Lib.hid hp
  have HWF := Lib.hid hw
  clear hw
  have hG := fun w => sgreat_any (.slice ao n cap) n ao cap w rfl
  clear hn h1 hp
  go_enter Try.func4, Try.ntmps4
  go_wp2_with fail
  refine (hA _).mono ?_
  clear hA
  rintro e w1 ⟨rfl, hw1⟩
  rcases Nat.lt_or_ge 60 n with hgt | hle
  · have e60 : decide ((60 : Int) < (n : Int)) = true := decide_eq_true (by omega)
    rw [e60] at hG
    go_wp2_with fail
    refine (hG _).mono ?_
    rintro e _ ⟨rfl, rfl⟩
    go_wp2
    go_ret
    exact ⟨rfl, hw1⟩
  have e60 : decide ((60 : Int) < (n : Int)) = false := decide_eq_false (by omega)
  rw [e60] at hG
  have kx : xs.length ≤ 1000000 := by rw [Hn.out]; omega
  have r1 := H1.out.below hw1
  have hM := rSpMay_any _ xs w1 r1 (by omega)
  cases hm : sMay xs with
  | false =>
    rw [hm] at hM
    go_wp2_with fail
    refine (hG _).mono ?_
    clear hG
    rintro e _ ⟨rfl, rfl⟩
    go_wp2_with fail
    refine hM.mono ?_
    clear hM
    rintro e w2 ⟨rfl, hb⟩
    have r2 := r1.below hb
    have hw2 := hw1.trans (hb.mono hw1.size)
    clear hb r1 hw1
    have eC := C.total _ xs w2 r2 kx HWF.out
    rw [hm, if_neg (by decide)] at eC
    go_wp2_with fail
    refine eC.mono ?_
    clear eC
    rintro e w3 ⟨rfl, hb⟩
    have r3 := r2.below hb
    have hw3 := hw2.trans (hb.mono hw2.size)
    clear hb r2 hw2
    have eC := C.has _ xs p w3 r3 kx HWF.out HP.out
    rw [hm, Bool.false_and] at eC
    go_wp2_with fail
    refine eC.mono ?_
    clear eC
    rintro e w4 ⟨rfl, hb⟩
    have r4 := r3.below hb
    have hw4 := hw3.trans (hb.mono hw3.size)
    clear hb r3 hw3
    have eC := C.ahead _ xs p w4 r4 kx HWF.out HP.out
    rw [hm, if_neg (by decide)] at eC
    go_wp2_with fail
    refine eC.mono ?_
    clear eC
    rintro e w5 ⟨rfl, hb⟩
    have hw5 := hw4.trans (hb.mono hw4.size)
    clear hb r4 hw4
    go_wp2
    go_ret
    exact ⟨rfl, hw5⟩
  | true =>
    rw [hm] at hM
    have hok := sGood_ok ((sMay_good xs).1 hm)
    go_wp2_with fail
    refine (hG _).mono ?_
    clear hG
    rintro e _ ⟨rfl, rfl⟩
    go_wp2_with fail
    refine hM.mono ?_
    clear hM
    rintro e w2 ⟨rfl, hb⟩
    have r2 := r1.below hb
    have hw2 := hw1.trans (hb.mono hw1.size)
    clear hb r1 hw1
    have eC := C.total _ xs w2 r2 kx HWF.out
    rw [hm, if_pos rfl] at eC
    go_wp2_with fail
    refine eC.mono ?_
    clear eC
    rintro e w3 ⟨rfl, hb⟩
    have r3 := r2.below hb
    have hw3 := hw2.trans (hb.mono hw2.size)
    clear hb r2 hw2
    have eC := rSpAhead_any _ xs 20000 w3 r3 (by omega) hok
    rw [show min 20000 (20000 : Int).toNat = 20000 from rfl] at eC
    generalize cntTo (sMark xs) 20000 = T at *
    go_wp2_with fail
    refine eC.mono ?_
    clear eC
    rintro e w4 ⟨rfl, hb⟩
    have r4 := r3.below hb
    have hw4 := hw3.trans (hb.mono hw3.size)
    clear hb r3 hw3
    have eC := C.has _ xs p w4 r4 kx HWF.out HP.out
    rw [hm, Bool.true_and] at eC
    have eH := fun W hW => rSpHas_any (.slice ao n cap) xs p W hW (by omega) hok
    generalize hasI xs p = B at *
    go_wp2_with fail
    refine eC.mono ?_
    clear eC
    rintro e w5 ⟨rfl, hb⟩
    have r5 := r4.below hb
    have hw5 := hw4.trans (hb.mono hw4.size)
    clear hb r4 hw4
    have eD := eH w5 r5
    clear eH
    go_wp2_with fail
    refine eD.mono ?_
    clear eD
    rintro e w6 ⟨rfl, hb⟩
    have r6 := r5.below hb
    have hw6 := hw5.trans (hb.mono hw5.size)
    clear hb r5 hw5
    have eC := C.ahead _ xs p w6 r6 kx HWF.out HP.out
    rw [hm, if_pos rfl] at eC
    have eU := fun W hW => rSpAhead_any (.slice ao n cap) xs p W hW (by omega) hok
    generalize cntTo (sMark xs) (min 20000 p.toNat) = U at *
    cases B
    all_goals
      go_wp2_with fail
      refine eC.mono ?_
      clear eC
      rintro e w7 ⟨rfl, hb⟩
      have r7 := r6.below hb
      have hw7 := hw6.trans (hb.mono hw6.size)
      clear hb r6 hw6
      have eD := eU w7 r7
      clear eU
      go_wp2_with fail
      refine eD.mono ?_
      clear eD
      rintro e w8 ⟨rfl, hb⟩
      have hw8 := hw7.trans (hb.mono hw7.size)
      clear hb r7 hw7
      go_wp2
      go_ret
      exact ⟨rfl, hw8⟩
end Go.Proofs.Ytlofeaodpblagaa
