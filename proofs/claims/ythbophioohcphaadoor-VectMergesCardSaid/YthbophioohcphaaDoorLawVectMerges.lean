/- VectMerges: the law's walk. -/
import Derived.Test.YthbophioohcphaaDoorVectAlive
import Derived.Test.YthbophioohcphaaDoorVectMergePlain
import Derived.Test.YthbophioohcphaaDoorRefMerge
namespace Go.Proofs.YthbophioohcphaaDoor
open Go.RowKit

theorem Lens.three (w : World) (a1 a2 a3 : Option Addr) (l1 l2 l3 c1 c2 c3 : Nat) (t : TypeId) :
    Lens (w.alloc (.cells #[.slice a1 l1 c1, .slice a2 l2 c2, .slice a3 l3 c3] t)) (.slice (some ⟨w.heap.size, 0, none⟩) 3 3) 3 (fun i => if i = 0 then l1 else if i = 1 then l2 else l3) := by
  have h := heap_alloc_new w (.cells #[.slice a1 l1 c1, .slice a2 l2 c2, .slice a3 l3 c3] t)
  refine ⟨_, 3, rfl, fun _ => ⟨_, 0, rfl, fun i hi => ?_⟩⟩
  match i, hi with
  | 0, _ => exact ⟨a1, c1, cell_of_row _ _ 0 _ _ _ h⟩
  | 1, _ => exact ⟨a2, c2, cell_of_row _ _ 1 _ _ _ h⟩
  | 2, _ => exact ⟨a3, c3, cell_of_row _ _ 2 _ _ _ h⟩
set_option maxRecDepth 100000 in
set_option maxHeartbeats 4000000 in
theorem lawVectMerges_any (C : VC) (u v x : Value) (xs ys zs : List Int) (w : World) (h1 : Reads64 w u xs) (h2 : Reads64 w v ys) (h3 : Reads64 w x zs) :
    Calls Tryd.prog 7 #[u, v, x] w fun e w' => e = .returned (.bool true) ∧ Below w.heap.size w w' := by
  have hA := fun w => valive_any C w
  obtain ⟨a1, c1, hu, _⟩ := id h1
  obtain ⟨a2, c2, hv, _⟩ := id h2
  obtain ⟨a3, c3, hx, _⟩ := id h3
  subst hu
  subst hv
  subst hx
  obtain ⟨n1, hn1⟩ : ∃ n, xs.length = n := ⟨_, rfl⟩
  obtain ⟨n2, hn2⟩ : ∃ n, ys.length = n := ⟨_, rfl⟩
  obtain ⟨n3, hn3⟩ : ∃ n, zs.length = n := ⟨_, rfl⟩
  rw [hn1] at h1 ⊢
  rw [hn2] at h2 ⊢
  rw [hn3] at h3 ⊢
  have H1 := Lib.hid h1
  have H2 := Lib.hid h2
  have H3 := Lib.hid h3
  have N1 := Lib.hid hn1
  have N2 := Lib.hid hn2
  have N3 := Lib.hid hn3
  clear h1 h2 h3 hn1 hn2 hn3
  go_enter Tryd.func7, Tryd.ntmps7
  go_wp2_with fail
  refine (hA _).mono ?_
  clear hA
  rintro e w1 ⟨rfl, hw1⟩
  have hG := great_any _ 3 _ _ (Lens.three w1 a1 a2 a3 n1 n2 n3 c1 c2 c3 34) (by decide)
  have hw2 := hw1.alloc hw1.size (.cells #[.slice a1 n1 c1, .slice a2 n2 c2, .slice a3 n3 c3] 34)
  clear hw1
  go_wp2_with fail
  refine hG.mono ?_
  clear hG
  rintro e _ ⟨t, rfl, rfl, ht⟩
  cases t with
  | true =>
    go_wp2
    go_ret
    exact ⟨rfl, hw2⟩
  | false =>
    obtain ⟨_, ht⟩ := ht rfl
    have l1 : n1 ≤ 100 := ht 0 (by decide)
    have l2 : n2 ≤ 100 := ht 1 (by decide)
    have l3 : n3 ≤ 100 := ht 2 (by decide)
    clear ht
    generalize w1.alloc (.cells #[.slice a1 n1 c1, .slice a2 n2 c2, .slice a3 n3 c3] 34) = w2 at *
    have r1 := H1.out.below hw2
    have r2 := H2.out.below hw2
    have r3 := H3.out.below hw2
    have k1 : xs.length ≤ 1000 := by rw [N1.out]; omega
    have k2 : ys.length ≤ 1000 := by rw [N2.out]; omega
    have k3 : zs.length ≤ 1000 := by rw [N3.out]; omega
    have hP := C.merge _ _ xs ys w2 r1 r2 k1 k2
    have g1 := fun w h => rMayV_any (.slice a1 n1 c1) xs w h (by omega)
    have g2 := fun w h => rMayV_any (.slice a2 n2 c2) ys w h (by omega)
    clear H1 H2 H3
    cases hm1 : vMay xs
    · rw [hm1] at hP g1
      rw [Bool.false_and] at hP
      go_wp2_with fail
      refine hP.mono ?_
      clear hP
      rintro e w3 ⟨m, rfl, rm, hb⟩
      rw [if_neg (by decide)] at rm
      obtain ⟨am, cm, hm, _⟩ := rm
      subst hm
      have hw3 := hw2.trans (hb.mono hw2.size)
      have q1 := r1.below hb
      clear r1 r2 r3 hb hw2
      go_wp2_with fail
      refine (g1 _ q1).mono ?_
      clear g1
      rintro e _ ⟨rfl, rfl⟩
      go_wp2
      go_ret
      exact ⟨rfl, hw3⟩
    cases hm2 : vMay ys
    · rw [hm1] at hP g1
      rw [hm2] at hP g2
      rw [Bool.and_false] at hP
      go_wp2_with fail
      refine hP.mono ?_
      clear hP
      rintro e w3 ⟨m, rfl, rm, hb⟩
      rw [if_neg (by decide)] at rm
      obtain ⟨am, cm, hm, _⟩ := rm
      subst hm
      have hw3 := hw2.trans (hb.mono hw2.size)
      have q1 := r1.below hb
      have q2 := r2.below hb
      clear r1 r2 r3 hb hw2
      go_wp2_with fail
      refine (g1 _ q1).mono ?_
      clear g1
      rintro e _ ⟨rfl, rfl⟩
      go_wp2_with fail
      refine (g2 _ q2).mono ?_
      clear g2
      rintro e _ ⟨rfl, rfl⟩
      go_wp2
      go_ret
      exact ⟨rfl, hw3⟩
    · rw [hm1] at hP g1
      rw [hm2] at hP g2
      rw [Bool.and_true] at hP
      go_wp2_with fail
      refine hP.mono ?_
      clear hP
      rintro e w3 ⟨m, rfl, rm, hb⟩
      rw [if_pos rfl] at rm
      obtain ⟨am, cm, hm, _⟩ := id rm
      subst hm
      have hw3 := hw2.trans (hb.mono hw2.size)
      have q1 := r1.below hb
      have q2 := r2.below hb
      have q3 := r3.below hb
      clear r1 r2 r3 hb hw2
      go_wp2_with fail
      refine (g1 _ q1).mono ?_
      clear g1
      rintro e _ ⟨rfl, rfl⟩
      go_wp2_with fail
      refine (g2 _ q2).mono ?_
      clear g2
      rintro e _ ⟨rfl, rfl⟩
      go_wp2_with fail
      have kM : (vMerge xs ys).length ≤ 1000 := Nat.le_trans (vMade_length_le _) (by decide)
      obtain ⟨M, hM⟩ : ∃ M, vMerge xs ys = M := ⟨_, rfl⟩
      have mM := vMerge_may hm1 hm2
      have mL := vMerge_left xs ys
      have mR := vMerge_right xs ys
      have mC := vMerge_least xs ys zs
      rw [hM] at mM mL mR mC kM rm
      have eM := rMerge_any _ _ xs ys w3 q1 q2 (by omega) (by omega)
      rw [hM] at eM ⊢
      clear hM
      refine eM.mono ?_
      clear eM
      rintro e w4 ⟨m2, rfl, rm2, hb⟩
      obtain ⟨am2, cm2, hm', _⟩ := id rm2
      subst hm'
      have hw4 := hw3.trans (hb.mono hw3.size)
      have t1 := q1.below hb
      have t2 := q2.below hb
      have t3 := q3.below hb
      have tm := rm.below hb
      clear q1 q2 q3 rm hb hw3
      have eS := rSame_any _ _ M M w4 tm rm2 (by omega)
      rw [decide_eq_true (rfl : M = M)] at eS
      go_wp2_with fail
      refine eS.mono ?_
      clear eS rm2
      rintro e w5 ⟨rfl, hb⟩
      have hw5 := hw4.trans (hb.mono hw4.size)
      have s1 := t1.below hb
      have s2 := t2.below hb
      have s3 := t3.below hb
      have sm := tm.below hb
      clear t1 t2 t3 tm hb hw4
      have eC := C.covers _ _ M xs w5 sm s1 kM k1
      rw [mM, hm1, mL] at eC
      go_wp2_with fail
      refine eC.mono ?_
      clear eC
      rintro e w6 ⟨rfl, hb⟩
      have hw6 := hw5.trans (hb.mono hw5.size)
      have q1 := s1.below hb
      have q2 := s2.below hb
      have q3 := s3.below hb
      have qm := sm.below hb
      clear s1 s2 s3 sm hb hw5
      have eC := C.covers _ _ M ys w6 qm q2 kM k2
      rw [mM, hm2, mR] at eC
      go_wp2_with fail
      refine eC.mono ?_
      clear eC
      rintro e w7 ⟨rfl, hb⟩
      have hw7 := hw6.trans (hb.mono hw6.size)
      have s1 := q1.below hb
      have s2 := q2.below hb
      have s3 := q3.below hb
      have sm := qm.below hb
      clear q1 q2 q3 qm hb hw6
      have eZ := rMayV_any _ zs w7 s3 (by omega)
      cases hm3 : vMay zs
      · rw [hm3] at eZ
        go_wp2_with fail
        refine eZ.mono ?_
        clear eZ
        rintro e _ ⟨rfl, rfl⟩
        go_wp2
        go_ret
        exact ⟨rfl, hw7⟩
      · rw [hm3] at eZ
        have eC := C.covers _ _ zs xs w7 s3 s1 k3 k1
        rw [hm3, hm1] at eC
        cases hc1 : vCov zs xs
        · rw [hc1] at eC mC
          go_wp2_with fail
          refine eZ.mono ?_
          clear eZ
          rintro e _ ⟨rfl, rfl⟩
          go_wp2_with fail
          refine eC.mono ?_
          clear eC
          rintro e w8 ⟨rfl, hb⟩
          have hw8 := hw7.trans (hb.mono hw7.size)
          have q3 := s3.below hb
          have qm := sm.below hb
          clear s1 s2 s3 sm hb hw7
          have eC := C.covers _ _ zs M w8 q3 qm k3 kM
          rw [hm3, mM, mC] at eC
          go_wp2_with fail
          refine eC.mono ?_
          clear eC
          rintro e w9 ⟨rfl, hb⟩
          have hw9 := hw8.trans (hb.mono hw8.size)
          clear hw8 hb
          go_wp2
          go_ret
          exact ⟨rfl, hw9⟩
        · rw [hc1] at eC mC
          rw [Bool.true_and] at mC
          go_wp2_with fail
          refine eZ.mono ?_
          clear eZ
          rintro e _ ⟨rfl, rfl⟩
          go_wp2_with fail
          refine eC.mono ?_
          clear eC
          rintro e w8 ⟨rfl, hb⟩
          have hw8 := hw7.trans (hb.mono hw7.size)
          have q2 := s2.below hb
          have q3 := s3.below hb
          have qm := sm.below hb
          clear s1 s2 s3 sm hb hw7
          have eC := C.covers _ _ zs ys w8 q3 q2 k3 k2
          rw [hm3, hm2, Bool.and_self, Bool.true_and] at eC
          go_wp2_with fail
          refine eC.mono ?_
          clear eC
          rintro e w9 ⟨rfl, hb⟩
          have hw9 := hw8.trans (hb.mono hw8.size)
          have s3 := q3.below hb
          have sm := qm.below hb
          clear q2 q3 qm hb hw8
          have eC := C.covers _ _ zs M w9 s3 sm k3 kM
          rw [hm3, mM, mC, Bool.and_self, Bool.true_and] at eC
          generalize vCov zs ys = z at *
          go_wp2_with fail
          refine eC.mono ?_
          clear eC
          rintro e w10 ⟨rfl, hb⟩
          have hw10 := hw9.trans (hb.mono hw9.size)
          clear hw9 hb
          cases z
          all_goals
            go_wp2
            go_ret
            exact ⟨rfl, hw10⟩
end Go.Proofs.YthbophioohcphaaDoor
