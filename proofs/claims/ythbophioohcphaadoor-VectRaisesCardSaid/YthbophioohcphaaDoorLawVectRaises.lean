/- VectRaises: the law's walk. -/
import Derived.Test.YthbophioohcphaaDoorVectAlive
import Derived.Test.YthbophioohcphaaDoorRaisePlain
import Derived.Test.YthbophioohcphaaDoorDoesHas
import Derived.Test.YthbophioohcphaaDoorShut
namespace Go.Proofs.YthbophioohcphaaDoor
open Go.RowKit

theorem Lens.one (w : World) (a1 : Option Addr) (l1 c1 : Nat) (t : TypeId) :
    Lens (w.alloc (.cells #[.slice a1 l1 c1] t)) (.slice (some ⟨w.heap.size, 0, none⟩) 1 1) 1 (fun _ => l1) := by
  have h := heap_alloc_new w (.cells #[.slice a1 l1 c1] t)
  refine ⟨_, 1, rfl, fun _ => ⟨_, 0, rfl, fun i hi => ?_⟩⟩
  match i, hi with
  | 0, _ => exact ⟨a1, c1, cell_of_row _ _ 0 _ _ _ h⟩
/-- A name's box and a vector. -/
def Asked1 (N : Nat) (s q : Int) (u : Value) (xs : List Int) (w W : World) : Prop := NBox N s q w W ∧ Reads64 W u xs
theorem Asked1.keep {N : Nat} {s q : Int} {u : Value} {xs : List Int} {w W W' : World} (h : Asked1 N s q u xs w W) (hb : Below W.heap.size W W') : Asked1 N s q u xs w W' := ⟨h.1.keep hb, h.2.below hb⟩
/-- How many more the sites up to k have. -/
def sumTo (s : Int) (k : Nat) : Int := if s ≤ k then 1 else 0
theorem sumTo_zero {s : Int} (h : 1 ≤ s) : sumTo s 0 = 0 := if_neg (by omega)
theorem sumTo_next (s : Int) (k : Nat) : sumTo s (k + 1) = sumTo s k + if (k : Int) + 1 = s then 1 else 0 := by
  unfold sumTo
  by_cases h : s ≤ k
  · rw [if_pos h, if_pos (by omega), if_neg (by omega)]
    rfl
  · rw [if_neg h]
    by_cases g : (k : Int) + 1 = s
    · rw [if_pos g, if_pos (by omega)]; rfl
    · rw [if_neg g, if_neg (by omega)]; rfl
theorem sumTo_bounds (s : Int) (k : Nat) : 0 ≤ sumTo s k ∧ sumTo s k ≤ 1 := by unfold sumTo; split <;> exact ⟨by decide, by decide⟩
theorem pCount_yes (v : Value) (xs : List Int) (s : Int) (w : World) (h : Reads64 w v xs) (hx : xs.length ≤ 1000000000) (hs : s ≤ 9223372036854775807) (hm : vMay xs = true) :
    Calls Tryd.prog 23 #[v, .int .i64 s] w fun e w' => e = .returned (.int .i64 (vCount xs s)) ∧ w = w' := by
  have := pCount_any v xs s w h hx hs
  rwa [hm, if_pos rfl] at this
set_option maxRecDepth 100000 in
set_option maxHeartbeats 8000000 in
theorem lawVectRaises_any (C : VC) (v : Value) (xs : List Int) (s q : Int) (w : World) (h1 : Reads64 w v xs) (hs : (Lit.int .i64 s).wf = true) (hq : (Lit.int .i64 q).wf = true) :
    Calls Tryd.prog 6 #[v, nmV s q] w fun e w' => e = .returned (.bool true) ∧ Below w.heap.size w w' := by
  have hA := fun w => valive_any C w
  have hqb := wf_i64 hq
  obtain ⟨a1, c1, hu, _⟩ := id h1
  subst hu
  obtain ⟨n1, hn1⟩ : ∃ n, xs.length = n := ⟨_, rfl⟩
  rw [hn1] at h1 ⊢
  have hN := NBox.new s q w 23
  have hb0 := (Below.refl w.heap.size w).alloc (Nat.le_refl _) (.cells #[.int .i64 s, .int .i64 q] 23)
  have p0 : Asked1 w.heap.size s q _ xs w _ := ⟨hN, h1.below hb0⟩
  have N1 := Lib.hid hn1
  have P0 := Lib.hid p0
  have HS := Lib.hid hs
  have HQ := Lib.hid hq
  have HQB := Lib.hid hqb
  clear h1 hn1 hN hb0 p0 hs hq hqb
  unfold nmV
  go_enter Tryd.func6, Tryd.ntmps6
  go_wp2_with fail
  refine (hA _).mono ?_
  clear hA
  rintro e w1 ⟨rfl, hb⟩
  have p1 := P0.out.keep hb
  have hG := great_any _ 1 _ _ (Lens.one w1 a1 n1 c1 34) (by decide)
  have p2 := p1.keep ((Below.refl w1.heap.size w1).alloc (Nat.le_refl _) (.cells #[.slice a1 n1 c1] 34))
  clear hb p1 P0
  go_wp2_with fail
  refine hG.mono ?_
  clear hG
  rintro e _ ⟨t, rfl, rfl, ht⟩
  cases t with
  | true =>
    have hw := p2.1.2.2
    clear p2
    go_wp2
    go_ret
    exact ⟨rfl, hw⟩
  | false =>
    obtain ⟨_, ht⟩ := ht rfl
    have l1 : n1 ≤ 100 := ht 0 (by decide)
    clear ht
    generalize w1.alloc (.cells #[.slice a1 n1 c1] 34) = w2 at *
    have k1 : xs.length ≤ 1000 := by rw [N1.out]; omega
    have eP := C.raise _ xs s q w2 p2.2 k1 HS.out HQ.out
    unfold nmV at eP
    obtain ⟨c0, c1', _⟩ := id p2.1
    go_wp2_with fail
    refine eP.mono ?_
    clear eP c0 c1'
    rintro e w3 ⟨v3, rfl, hr3, hb⟩
    have p3 := p2.keep hb
    clear p2 hb
    have eR := rRaise_any _ xs s q w3 p3.2 (by omega) HQB.out.1 HQB.out.2
    unfold nmV at eR
    obtain ⟨c0, c1', _⟩ := id p3.1
    go_wp2_with fail
    refine eR.mono ?_
    clear eR c0 c1'
    rintro e w4 ⟨v4, rfl, hr4, hb⟩
    have p4 := p3.keep hb
    have hr3 := hr3.below hb
    clear p3 hb
    have eS := rSame_any _ _ _ _ w4 hr3 hr4 (by split; exact Nat.le_trans (vMade_length_le _) (by decide); simp)
    rw [decide_eq_true rfl] at eS
    clear hr4
    by_cases hc : raiseC xs s q = 0
    · obtain ⟨hm1, hmn, -, -⟩ := raise_facts hc
      have hsn := of_decide_eq_true hmn
      have hmM := vRaise_may hc
      obtain ⟨t1, t2⟩ := vRaise_has hc
      obtain ⟨o1, o2⟩ := vRaise_order hc
      have hmore := vRaise_more hc
      have hlen : (vRaise xs s q).length ≤ 16 := vMade_length_le _
      rw [hc, if_pos rfl] at hr3
      rw [hc]
      have hbX := fun k => vCount_bounds (vMay_parts hm1).2.1 k
      have hbY := fun k => vCount_bounds (vMay_parts hmM).2.1 k
      obtain ⟨ys, hys⟩ : ∃ ys, vRaise xs s q = ys := ⟨_, rfl⟩
      rw [hys] at hr3 hmM t1 o1 o2 hmore hlen hbY
      clear hys hc
      go_wp2_with fail
      refine eS.mono ?_
      clear eS
      rintro e w5 ⟨rfl, hb⟩
      have p5 := p4.keep hb
      have r5 := hr3.below hb
      clear p4 hr3 hb
      have cA := fun (k : Nat) (hk : k < 16) => pCount_yes v3 ys ((k : Int) + 1) w5 r5 (by omega) (by omega) hmM
      have cB := fun (k : Nat) (hk : k < 16) => pCount_yes (.slice a1 n1 c1) xs ((k : Int) + 1) w5 p5.2 (by omega) (by omega) hm1
      have eH := C.has v3 ys s q w5 r5 (by omega) HS.out HQ.out
      rw [hmM, hmn, t1] at eH
      have eI := fun W (h : Asked1 w.heap.size s q (.slice a1 n1 c1) xs w W) => C.has (.slice a1 n1 c1) xs s q W h.2 k1 HS.out HQ.out
      rw [hm1, hmn, t2] at eI
      have eO := fun W h h' => C.order v3 (.slice a1 n1 c1) ys xs W h h' (by omega) k1
      rw [show vOrder ys xs = 1 by unfold vOrder; rw [hmM, hm1, o1, o2]; rfl] at eO
      have H16 := Lib.hid (show sumTo s 16 = 1 from if_pos (by omega))
      have H0 := Lib.hid (sumTo_zero (s := s) (by omega))
      have HM := Lib.hid hmore
      have HX := Lib.hid hbX
      have HY := Lib.hid hbY
      have P5 := Lib.hid p5
      have R5 := Lib.hid r5
      clear hmore hbX hbY hm1 hmn hsn hmM t1 t2 o1 o2 hlen k1 p5 r5
      unfold nmV at eH eI
      go_wp2_with fail
      go_loop [9, 10] (fun sum i => ∃ k : Nat, i = .int .i64 ((k : Int) + 1) ∧ k ≤ 16 ∧ sum = .int .i64 (sumTo s k)) (fun _ i => 17 - (intOf i).toNat)
      case atStart => exact ⟨0, rfl, Nat.zero_le _, by rw [H0.out]⟩
      case round =>
        obtain ⟨k, rfl, hk, rfl⟩ := hrel
        rcases Nat.lt_or_ge k 16 with hlt | hge
        · have a := cA k hlt
          have b := cB k hlt
          have hx := HX.out ((k : Int) + 1)
          have hy := HY.out ((k : Int) + 1)
          have hz := sumTo_bounds s k
          have hd := HM.out k hlt
          have HN := Lib.hid (show sumTo s (k + 1) = sumTo s k + vCount ys ((k : Int) + 1) - vCount xs ((k : Int) + 1) by rw [sumTo_next, ← hd]; omega)
          clear hd cA cB eH eI eO
          generalize vCount ys ((k : Int) + 1) = y at *
          generalize vCount xs ((k : Int) + 1) = x at *
          obtain ⟨z, hzz⟩ : ∃ z, sumTo s k = z := ⟨_, rfl⟩
          rw [hzz] at hz HN ⊢
          have hw1 : IntKind.i64.wrap (z + y) = z + y := by simp only [IntKind.wrap_i64]; omega
          have hw2 : IntKind.i64.wrap (z + y - x) = z + y - x := by simp only [IntKind.wrap_i64]; omega
          clear hx hy hz hzz
          go_wp2_with fail
          refine a.mono ?_
          clear a
          rintro e _ ⟨rfl, rfl⟩
          go_wp2_with fail
          refine b.mono ?_
          clear b
          rintro e _ ⟨rfl, rfl⟩
          go_wp2
          go_round
          case rel => exact ⟨k + 1, by go_num, by omega, by rw [HN.out]⟩
          case measure => simp [intOf]; omega
        · obtain rfl : k = 16 := by omega
          rw [H16.out]
          obtain ⟨c0, c1', _⟩ := id P5.out.1
          clear cA cB
          go_wp2_with fail
          refine eH.mono ?_
          clear eH c0 c1'
          rintro e w6 ⟨rfl, hb⟩
          have p6 := P5.out.keep hb
          have r6 := R5.out.below hb
          obtain ⟨c0, c1', _⟩ := id p6.1
          clear hb
          go_wp2_with fail
          refine (eI _ p6).mono ?_
          clear eI c0 c1'
          rintro e w7 ⟨rfl, hb⟩
          have p7 := p6.keep hb
          have r7 := r6.below hb
          clear hb p6 r6
          go_wp2_with fail
          refine (eO _ r7 p7.2).mono ?_
          clear eO
          rintro e w8 ⟨rfl, hb⟩
          have hz := (p7.keep hb).1.2.2
          clear p7 r7 hb
          go_wp2
          go_ret
          exact ⟨rfl, hz⟩
    · have hcb : (raiseC xs s q != 0) = true := by simpa using hc
      clear hc hr3
      generalize raiseC xs s q = c at *
      go_wp2_with fail
      refine eS.mono ?_
      clear eS
      rintro e w5 ⟨rfl, hb⟩
      have hz := (p4.keep hb).1.2.2
      clear p4 hb
      go_wp2
      go_ret
      exact ⟨rfl, hz⟩
end Go.Proofs.YthbophioohcphaaDoor
