/- VectAsks: the law's walk. -/
import Derived.Test.YthbophioohcphaaDoorVectAlive
import Derived.Test.YthbophioohcphaaDoorVectMergePlain
import Derived.Test.YthbophioohcphaaDoorShut
namespace Go.Proofs.YthbophioohcphaaDoor
open Go.RowKit

/-- How two vectors lie to each other, by which covers which. -/
def ordO (up dn : Bool) : Int := if up && dn then 0 else if up then 1 else if dn then 2 else 3
theorem Lens.two (w : World) (a1 a2 : Option Addr) (l1 l2 c1 c2 : Nat) (t : TypeId) :
    Lens (w.alloc (.cells #[.slice a1 l1 c1, .slice a2 l2 c2] t)) (.slice (some ⟨w.heap.size, 0, none⟩) 2 2) 2 (fun i => if i = 0 then l1 else l2) := by
  have h := heap_alloc_new w (.cells #[.slice a1 l1 c1, .slice a2 l2 c2] t)
  refine ⟨_, 2, rfl, fun _ => ⟨_, 0, rfl, fun i hi => ?_⟩⟩
  match i, hi with
  | 0, _ => exact ⟨a1, c1, cell_of_row _ _ 0 _ _ _ h⟩
  | 1, _ => exact ⟨a2, c2, cell_of_row _ _ 1 _ _ _ h⟩
/-- Two vectors and a name's box. -/
def Asked (N : Nat) (s q : Int) (u v : Value) (xs ys : List Int) (w W : World) : Prop := NBox N s q w W ∧ Reads64 W u xs ∧ Reads64 W v ys
theorem Asked.keep {N : Nat} {s q : Int} {u v : Value} {xs ys : List Int} {w W W' : World} (h : Asked N s q u v xs ys w W) (hb : Below W.heap.size W W') : Asked N s q u v xs ys w W' := ⟨h.1.keep hb, h.2.1.below hb, h.2.2.below hb⟩
theorem Asked.drew {N : Nat} {s q : Int} {u v : Value} {xs ys : List Int} {w W : World} (h : Asked N s q u v xs ys w W) : Asked N s q u v xs ys w W.drew := ⟨⟨h.1.1, h.1.2.1, h.1.2.2.drew⟩, h.2.1.drew 1, h.2.2.drew 1⟩
set_option maxRecDepth 100000 in
set_option maxHeartbeats 8000000 in
/-- Where one of the two is no vector. -/
theorem lawVectAsks_no (C : VC) (u v : Value) (xs ys : List Int) (s q : Int) (w : World) (hno : (vMay xs && vMay ys) = false) (h1 : Reads64 w u xs) (h2 : Reads64 w v ys) (hs : (Lit.int .i64 s).wf = true) (hq : (Lit.int .i64 q).wf = true) :
    Calls Tryd.prog 5 #[u, v, nmV s q] w fun e w' => e = .returned (.bool true) ∧ Below w.heap.size w w' := by
  have hA := fun w => valive_any C w
  have hs0 : -9223372036854775808 ≤ s := by
    have := (Lit.wf_int_iff _ _).1 hs
    rw [show IntKind.i64.min = -9223372036854775808 from by decide] at this
    omega
  obtain ⟨a1, c1, hu, _⟩ := id h1
  obtain ⟨a2, c2, hv, _⟩ := id h2
  subst hu
  subst hv
  obtain ⟨n1, hn1⟩ : ∃ n, xs.length = n := ⟨_, rfl⟩
  obtain ⟨n2, hn2⟩ : ∃ n, ys.length = n := ⟨_, rfl⟩
  rw [hn1] at h1 ⊢
  rw [hn2] at h2 ⊢
  have hN := NBox.new s q w 23
  have hb0 := (Below.refl w.heap.size w).alloc (Nat.le_refl _) (.cells #[.int .i64 s, .int .i64 q] 23)
  have p0 : Asked w.heap.size s q _ _ xs ys w _ := ⟨hN, h1.below hb0, h2.below hb0⟩
  have N1 := Lib.hid hn1
  have N2 := Lib.hid hn2
  have P0 := Lib.hid p0
  have HS := Lib.hid hs
  have HQ := Lib.hid hq
  clear h1 h2 hn1 hn2 hN hb0 p0 hs hq
  unfold nmV
  go_enter Tryd.func5, Tryd.ntmps5
  go_wp2_with fail
  refine (hA _).mono ?_
  clear hA
  rintro e w1 ⟨rfl, hb⟩
  have p1 := P0.out.keep hb
  have hG := great_any _ 2 _ _ (Lens.two w1 a1 a2 n1 n2 c1 c2 34) (by decide)
  have p2 := p1.keep ((Below.refl w1.heap.size w1).alloc (Nat.le_refl _) (.cells #[.slice a1 n1 c1, .slice a2 n2 c2] 34))
  clear hb p1
  go_wp2_with fail
  refine hG.mono ?_
  clear hG
  rintro e _ ⟨t, rfl, rfl, ht⟩
  cases t with
  | true =>
    have hw := p2.1.2.2
    clear p2
    go_wp2
    go_ret
    exact ⟨rfl, hw⟩
  | false =>
    obtain ⟨_, ht⟩ := ht rfl
    have l1 : n1 ≤ 100 := ht 0 (by decide)
    have l2 : n2 ≤ 100 := ht 1 (by decide)
    clear ht
    generalize w1.alloc (.cells #[.slice a1 n1 c1, .slice a2 n2 c2] 34) = w2 at *
    have k1 : xs.length ≤ 1000 := by rw [N1.out]; omega
    have k2 : ys.length ≤ 1000 := by rw [N2.out]; omega
    have eP := C.may _ xs w2 p2.2.1 k1
    have g1 := fun w h => rMayV_any (.slice a1 n1 c1) xs w h (by omega)
    have g2 := fun w h => rMayV_any (.slice a2 n2 c2) ys w h (by omega)
    cases hm1 : vMay xs
    · rw [hm1] at eP g1
      go_wp2_with fail
      refine eP.mono ?_
      clear eP
      rintro e w3 ⟨rfl, hb⟩
      have p3 := p2.keep hb
      clear p2 hb
      go_wp2_with fail
      refine (g1 _ p3.2.1).mono ?_
      rintro e _ ⟨rfl, rfl⟩
      go_wp2_with fail
      try (refine (g1 _ p3.2.1).mono ?_; rintro e _ ⟨rfl, rfl⟩)
      have eC := C.covers _ _ xs ys w3 p3.2.1 p3.2.2 k1 k2
      rw [hm1] at eC
      go_wp2_with fail
      refine eC.mono ?_
      clear eC
      rintro e w4 ⟨rfl, hb⟩
      have p4 := p3.keep hb
      clear p3 hb
      have eO := C.order _ _ xs ys w4 p4.2.1 p4.2.2 k1 k2
      rw [show vOrder xs ys = -1 by unfold vOrder; rw [hm1]; rfl] at eO
      go_wp2_with fail
      refine eO.mono ?_
      clear eO
      rintro e w5 ⟨rfl, hb⟩
      have p5 := p4.keep hb
      clear p4 hb
      go_wp2_with fail
      refine (g1 _ p5.2.1).mono ?_
      clear g1
      rintro e _ ⟨rfl, rfl⟩
      have eC := C.count _ xs s w5 p5.2.1 k1 HS.out
      rw [hm1, if_neg (by decide)] at eC
      obtain ⟨c0, c1', _⟩ := id p5.1
      go_wp2_with fail
      refine eC.mono ?_
      clear eC c0 c1'
      rintro e w6 ⟨rfl, hb⟩
      have p6 := p5.keep hb
      clear p5 hb
      have eC := C.has _ xs s q w6 p6.2.1 k1 HS.out HQ.out
      rw [hm1, Bool.false_and] at eC
      obtain ⟨c0, c1', _⟩ := id p6.1
      unfold nmV at eC
      go_wp2_with fail
      refine eC.mono ?_
      clear eC c0 c1'
      rintro e w7 ⟨rfl, hb⟩
      have hw := (p6.keep hb).1.2.2
      clear p6 hb
      go_wp2
      go_ret
      exact ⟨rfl, hw⟩
    cases hm2 : vMay ys
    · rw [hm1] at eP g1
      rw [hm2] at g2
      go_wp2_with fail
      refine eP.mono ?_
      clear eP
      rintro e w3 ⟨rfl, hb⟩
      have p3 := p2.keep hb
      clear p2 hb
      go_wp2_with fail
      refine (g1 _ p3.2.1).mono ?_
      rintro e _ ⟨rfl, rfl⟩
      go_wp2_with fail
      refine (g1 _ p3.2.1).mono ?_
      rintro e _ ⟨rfl, rfl⟩
      go_wp2_with fail
      refine (g2 _ p3.2.2).mono ?_
      clear g2
      rintro e _ ⟨rfl, rfl⟩
      have eC := C.covers _ _ xs ys w3 p3.2.1 p3.2.2 k1 k2
      rw [hm2, Bool.and_false] at eC
      go_wp2_with fail
      refine eC.mono ?_
      clear eC
      rintro e w4 ⟨rfl, hb⟩
      have p4 := p3.keep hb
      clear p3 hb
      have eO := C.order _ _ xs ys w4 p4.2.1 p4.2.2 k1 k2
      rw [show vOrder xs ys = -1 by unfold vOrder; rw [hm2, Bool.and_false]; rfl] at eO
      go_wp2_with fail
      refine eO.mono ?_
      clear eO
      rintro e w5 ⟨rfl, hb⟩
      have p5 := p4.keep hb
      clear p4 hb
      go_wp2_with fail
      refine (g1 _ p5.2.1).mono ?_
      clear g1
      rintro e _ ⟨rfl, rfl⟩
      have hw := p5.1.2.2
      clear p5
      go_wp2
      go_ret
      exact ⟨rfl, hw⟩
    · rw [hm1, hm2] at hno
      exact absurd hno (by decide)
end Go.Proofs.YthbophioohcphaaDoor
