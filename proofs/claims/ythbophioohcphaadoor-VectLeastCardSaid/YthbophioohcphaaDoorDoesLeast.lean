/- The program's own vectors: Least. -/
import Derived.Test.YthbophioohcphaaDoorDoesAll
import Derived.Test.YthbophioohcphaaDoorVectMergePlain
namespace Go.Proofs.YthbophioohcphaaDoor
open Go.RowKit

theorem all_at {xss : List (List Int)} (h : xss.all vMay = true) {k : Nat} (hk : k < xss.length) : vMay (xss.getD k []) = true := by
  rw [List.all_eq_true] at h
  have := h xss[k] (List.getElem_mem hk)
  simpa [List.getD, hk] using this
theorem gMin_self (x : Int) : gMin x x = x := by unfold gMin; split <;> rfl
/-- The least of the first k of some. -/
def leastTo (x : List Int) (l : List (List Int)) (k : Nat) : List Int := vMade fun s => minL (x.getD s 0) (l.take (k - 1)) s
theorem leastTo_next (x : List Int) (l : List (List Int)) (k : Nat) (hk : k < (x :: l).length) :
    (vMade fun s => gMin ((leastTo x l k).getD s 0) (((x :: l).getD k []).getD s 0)) = leastTo x l (k + 1) := by
  refine vMade_congr fun s hs => ?_
  show gMin ((leastTo x l k).getD s 0) _ = _
  rw [show (leastTo x l k).getD s 0 = minL (x.getD s 0) (l.take (k - 1)) s from vMade_at _ s hs]
  cases k with
  | zero => exact gMin_self _
  | succ k => rw [minL_next _ x l (k + 1) s hk (by omega)]; rfl
set_option maxRecDepth 100000 in
set_option maxHeartbeats 4000000 in
theorem pLeast_any (v : Value) (vs : Nat → Value) (xss : List (List Int)) (w : World) (h : RowsAt w v vs xss) (hn : xss.length ≤ 1000) :
    Calls Tryd.prog 32 #[v] w (PMadePost (decide (xss ≠ []) && xss.all vMay) (vLeast xss) w) := by
  have hM := allMay_any v vs xss w h (by omega)
  have H := Lib.hid h
  obtain ⟨ao, cap, rfl, _⟩ := h
  match xss with
  | [] =>
    have hb := Below.refl w.heap.size w
    clear hM
    rw [show (decide (([] : List (List Int)) ≠ []) && ([] : List (List Int)).all vMay) = false from rfl]
    go_enter Tryd.func32, Tryd.ntmps32
    go_wp2
    go_ret2
    exact PMadePost.no hb
  | x :: l =>
    obtain ⟨n, hnn⟩ : ∃ n, (x :: l).length = n := ⟨_, rfl⟩
    have hn1 : 1 ≤ n := by rw [← hnn]; simp
    rw [hnn] at hn hM ⊢
    have hn0 : ((n : Int) == 0) = false := beq_eq_false_iff_ne.2 (by omega)
    rw [show (decide ((x :: l) ≠ []) && (x :: l).all vMay) = (x :: l).all vMay by simp]
    cases hall : (x :: l).all vMay with
    | false =>
      rw [hall] at hM
      have hb := Below.refl w.heap.size w
      clear hall hnn
      go_enter Tryd.func32, Tryd.ntmps32
      go_wp2_with fail
      refine hM.mono ?_
      rintro e _ ⟨rfl, rfl⟩
      go_wp2
      go_ret2
      exact PMadePost.no hb
    | true =>
      rw [hall] at hM
      have Hall := Lib.hid hall
      have Hnn := Lib.hid hnn
      obtain ⟨b, off, cap', hv, hc0, hr0, _⟩ := H.out.at (i := 0) (by rw [hnn]; omega)
      have e0 : leastTo x l 0 = x := vMade_self (all_at hall (k := 0) (by rw [hnn]; omega))
      rw [show ((x :: l).getD 0 []) = leastTo x l 0 from e0.symm] at hr0
      have HE := Lib.hid (show leastTo x l n = vLeast (x :: l) by
        unfold leastTo
        rw [List.take_of_length_le (by rw [← hnn]; simp)]
        rfl)
      rw [hnn] at hv
      cases hv
      clear hall hnn e0
      have HR0 := Lib.hid hr0
      clear hr0
      generalize hv0 : vs 0 = v0 at *
      clear hv0
      rw [Nat.add_zero] at hc0
      have hi0 : (0 : Int) < (n : Int) := by omega
      go_enter Tryd.func32, Tryd.ntmps32
      go_wp2_with fail
      refine hM.mono ?_
      clear hM
      rintro e _ ⟨rfl, rfl⟩
      go_wp2_with fail
      go_loopw [4, 20] (fun lv i wr => ∃ k : Nat, i = .int .i64 k ∧ k ≤ n ∧ Reads64 wr lv (leastTo x l k) ∧ Below w.heap.size w wr) (fun _ i _ => n - (intOf i).toNat)
      case atStart => exact ⟨0, rfl, Nat.zero_le _, HR0.out, Below.refl _ _⟩
      case round =>
        obtain ⟨k, rfl, hk, hr, hbw⟩ := hrel
        rcases Nat.lt_or_ge k n with hlt | hge
        · have hkl : k < (x :: l).length := by rw [Hnn.out]; exact hlt
          obtain ⟨b', off', cap', hv, hc, hrk, _⟩ := (H.out.below hbw).at hkl
          cases hv
          have hP := picked_any _ (.inr rfl) gMin lesser_any rfl _ (vs k) _ _ _ hr hrk (vMade_length_le _) (vMay_parts (all_at Hall.out hkl)).1
          rw [leastTo_next x l k hkl] at hP
          obtain ⟨zs, hzs⟩ : ∃ zs, leastTo x l (k + 1) = zs := ⟨_, rfl⟩
          rw [hzs] at hP
          have HS := Lib.hid hzs
          clear hzs
          have Hbw := Lib.hid hbw
          have hi : (0 : Int) ≤ (k : Int) ∧ (k : Int) < (n : Int) := ⟨by omega, by omega⟩
          clear hkl hrk hr hbw hc0
          generalize vs k = vk at *
          go_wp2_with fail
          refine hP.mono ?_
          clear hP
          rintro e w2 ⟨v2, rfl, hr2, hb2⟩
          have HZ := Lib.hid (Hbw.out.trans (hb2.mono Hbw.out.size))
          have HR := Lib.hid hr2
          clear hr2 hb2
          go_wp2
          exact ⟨⟨k + 1, by congr 1, by omega, by rw [HS.out]; exact HR.out, HZ.out⟩, by simp [RowKit.intOf]; omega⟩
        · obtain rfl : k = n := by omega
          rw [HE.out] at hr
          have HR := Lib.hid hr
          have HZ := Lib.hid hbw
          clear hr hbw hc0
          go_wp2
          go_ret2
          exact PMadePost.yes HR.out HZ.out
end Go.Proofs.YthbophioohcphaaDoor
