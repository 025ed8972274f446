/- The program's own vectors: allMay, Covers, Order, Merge. -/
import Derived.Test.YthbophioohcphaaDoorPicked
import Derived.Test.YthbophioohcphaaDoorPairsB
import Derived.Test.YthbophioohcphaaDoorRefLeast
import Derived.Test.YthbophioohcphaaDoorVectAsked
namespace Go.Proofs.YthbophioohcphaaDoor
open Go.RowKit

theorem all_take_next {xss : List (List Int)} {k : Nat} (hk : k < xss.length) (h : (xss.take k).all vMay = true) (hm : vMay (xss.getD k []) = true) : (xss.take (k + 1)).all vMay = true := by
  rw [List.take_succ_eq_append_getElem hk, List.all_append, h]
  simp [List.getD, hk] at hm
  simp [hm]
theorem all_bad {xss : List (List Int)} {k : Nat} (hk : k < xss.length) (hm : vMay (xss.getD k []) = false) : xss.all vMay = false := by
  rw [List.all_eq_false]
  refine ⟨xss[k], List.getElem_mem hk, ?_⟩
  simp [List.getD, hk] at hm
  simp [hm]
set_option maxRecDepth 100000 in
set_option maxHeartbeats 4000000 in
theorem allMay_any (v : Value) (vs : Nat → Value) (xss : List (List Int)) (w : World) (h : RowsAt w v vs xss) (hn : xss.length ≤ 1000000) :
    Calls Tryd.prog 38 #[v] w fun e w' => e = .returned (.bool (xss.all vMay)) ∧ w = w' := by
  have H := Lib.hid h
  obtain ⟨ao, cap, rfl, _⟩ := h
  obtain ⟨n, hnn⟩ : ∃ n, xss.length = n := ⟨_, rfl⟩
  rw [hnn] at hn ⊢
  have Hn := Lib.hid hnn
  clear hnn
  go_enter Tryd.func38, Tryd.ntmps38
  go_wp2_with fail
  go_loop [7] (fun i => ∃ k : Nat, i = .int .i64 k ∧ k ≤ n ∧ (xss.take k).all vMay = true) (fun i => n - (intOf i).toNat)
  case atStart => exact ⟨0, rfl, Nat.zero_le _, rfl⟩
  case round =>
    obtain ⟨k, rfl, hk, hall⟩ := hrel
    have Hall := Lib.hid hall
    clear hall
    rcases Nat.lt_or_ge k n with hlt | hge
    · have hkl : k < xss.length := by rw [Hn.out]; exact hlt
      obtain ⟨b, off, cap', hv, hc, hr, hl⟩ := H.out.at hkl
      cases hv
      have hM := pMay_any _ _ w hr hl
      have Hkl := Lib.hid hkl
      have hi : (0 : Int) ≤ (k : Int) ∧ (k : Int) < (n : Int) := ⟨by omega, by omega⟩
      clear hkl hr hl
      generalize vs k = vk at *
      cases hm : vMay (xss.getD k []) with
      | false =>
        rw [hm] at hM
        have HF := Lib.hid (all_bad Hkl.out hm)
        clear hm
        go_wp2_with fail
        refine hM.mono ?_
        rintro e _ ⟨rfl, rfl⟩
        go_wp2
        go_ret
        exact ⟨ret_bool HF.out.symm, rfl⟩
      | true =>
        rw [hm] at hM
        have HT := Lib.hid (all_take_next Hkl.out Hall.out hm)
        clear hm
        go_wp2_with fail
        refine hM.mono ?_
        rintro e _ ⟨rfl, rfl⟩
        go_wp2
        go_round
        case rel => exact ⟨k + 1, by go_num, by omega, HT.out⟩
        case measure => simp [intOf]; omega
    · obtain rfl : k = n := by omega
      have HT := Lib.hid (show xss.all vMay = true by have := Hall.out; rwa [List.take_of_length_le (by rw [Hn.out]; exact Nat.le_refl _)] at this)
      go_wp2
      go_ret
      exact ⟨ret_bool HT.out.symm, rfl⟩
theorem RowsAt.two (w : World) (u v : Value) (xs ys : List Int) (t : TypeId) (h1 : Reads64 w u xs) (h2 : Reads64 w v ys) (hx : xs.length ≤ 1000000000) (hy : ys.length ≤ 1000000000) :
    RowsAt (w.alloc (.cells #[u, v] t)) (.slice (some ⟨w.heap.size, 0, none⟩) 2 2) (fun i => if i = 0 then u else v) [xs, ys] := by
  have h := heap_alloc_new w (.cells #[u, v] t)
  have hb := (Below.refl w.heap.size w).alloc (Nat.le_refl _) (.cells #[u, v] t)
  refine ⟨_, 2, rfl, fun _ => ⟨_, 0, rfl, fun i hi => ?_⟩, fun i hi => ?_⟩
  · match i, hi with
    | 0, _ => exact cell_of_row _ _ 0 _ _ _ h
    | 1, _ => exact cell_of_row _ _ 1 _ _ _ h
  · match i, hi with
    | 0, _ => exact ⟨h1.below hb, hx⟩
    | 1, _ => exact ⟨h2.below hb, hy⟩
set_option maxRecDepth 100000 in
set_option maxHeartbeats 2000000 in
theorem pCovers_any (u v : Value) (xs ys : List Int) (w : World) (h1 : Reads64 w u xs) (h2 : Reads64 w v ys) (hx : xs.length ≤ 1000) (hy : ys.length ≤ 1000) :
    Calls Tryd.prog 21 #[u, v] w fun e w' => e = .returned (.bool (vMay xs && vMay ys && vCov xs ys)) ∧ Below w.heap.size w w' := by
  have hb := (Below.refl w.heap.size w).alloc (Nat.le_refl _) (.cells #[u, v] 34)
  have hM := allMay_any _ _ _ _ (RowsAt.two w u v xs ys 34 h1 h2 (by omega) (by omega)) (by simp)
  rw [show [xs, ys].all vMay = (vMay xs && vMay ys) by simp] at hM
  cases hm : (vMay xs && vMay ys) with
  | false =>
    rw [hm] at hM
    clear hx hy hm
    obtain ⟨a1, c1, rfl, _⟩ := h1
    obtain ⟨a2, c2, rfl, _⟩ := h2
    generalize xs.length = n1 at *
    generalize ys.length = n2 at *
    go_enter Tryd.func21, Tryd.ntmps21
    go_wp2_with fail
    refine hM.mono ?_
    rintro e _ ⟨rfl, rfl⟩
    go_wp2
    go_ret
    exact ⟨rfl, hb⟩
  | true =>
    rw [hm] at hM
    obtain ⟨m1, m2⟩ := Bool.and_eq_true_iff.1 hm
    have hC := pcov_any u v xs ys _ (h1.below hb) (h2.below hb) (vMay_parts m1).1 (vMay_parts m2).1
    clear hx hy hm m1 m2
    obtain ⟨a1, c1, rfl, _⟩ := h1
    obtain ⟨a2, c2, rfl, _⟩ := h2
    generalize xs.length = n1 at *
    generalize ys.length = n2 at *
    generalize vCov xs ys = c at *
    go_enter Tryd.func21, Tryd.ntmps21
    go_wp2_with fail
    refine hM.mono ?_
    rintro e _ ⟨rfl, rfl⟩
    go_wp2_with fail
    refine hC.mono ?_
    rintro e _ ⟨rfl, rfl⟩
    go_wp2
    go_ret
    exact ⟨by first | rfl | simp, hb⟩
set_option maxRecDepth 100000 in
set_option maxHeartbeats 2000000 in
theorem pOrder_any (u v : Value) (xs ys : List Int) (w : World) (h1 : Reads64 w u xs) (h2 : Reads64 w v ys) (hx : xs.length ≤ 1000) (hy : ys.length ≤ 1000) :
    Calls Tryd.prog 22 #[u, v] w fun e w' => e = .returned (.int .i64 (vOrder xs ys)) ∧ Below w.heap.size w w' := by
  have hb := (Below.refl w.heap.size w).alloc (Nat.le_refl _) (.cells #[u, v] 34)
  have hM := allMay_any _ _ _ _ (RowsAt.two w u v xs ys 34 h1 h2 (by omega) (by omega)) (by simp)
  rw [show [xs, ys].all vMay = (vMay xs && vMay ys) by simp] at hM
  cases hm : (vMay xs && vMay ys) with
  | false =>
    rw [hm] at hM
    have HO := Lib.hid (show vOrder xs ys = -1 by unfold vOrder; rw [if_pos hm])
    clear hx hy hm
    obtain ⟨a1, c1, rfl, _⟩ := h1
    obtain ⟨a2, c2, rfl, _⟩ := h2
    generalize xs.length = n1 at *
    generalize ys.length = n2 at *
    go_enter Tryd.func22, Tryd.ntmps22
    go_wp2_with fail
    refine hM.mono ?_
    rintro e _ ⟨rfl, rfl⟩
    go_wp2
    go_ret
    exact ⟨ret_i64 HO.out.symm, hb⟩
  | true =>
    rw [hm] at hM
    obtain ⟨m1, m2⟩ := Bool.and_eq_true_iff.1 hm
    have HO := Lib.hid (show vOrder xs ys = if vCov xs ys && vCov ys xs then 0 else if vCov xs ys then 1 else if vCov ys xs then 2 else 3 by unfold vOrder; rw [if_neg (by rw [hm]; decide)])
    have hC := pcov_any u v xs ys _ (h1.below hb) (h2.below hb) (vMay_parts m1).1 (vMay_parts m2).1
    have hD := pcov_any v u ys xs _ (h2.below hb) (h1.below hb) (vMay_parts m2).1 (vMay_parts m1).1
    clear hx hy hm m1 m2
    obtain ⟨a1, c1, rfl, _⟩ := h1
    obtain ⟨a2, c2, rfl, _⟩ := h2
    generalize xs.length = n1 at *
    generalize ys.length = n2 at *
    generalize vCov xs ys = c at *
    generalize vCov ys xs = d at *
    cases c
    all_goals
      cases d
      all_goals
        go_enter Tryd.func22, Tryd.ntmps22
        go_wp2_with fail
        refine hM.mono ?_
        rintro e _ ⟨rfl, rfl⟩
        go_wp2_with fail
        refine hC.mono ?_
        rintro e _ ⟨rfl, rfl⟩
        go_wp2_with fail
        refine hD.mono ?_
        rintro e _ ⟨rfl, rfl⟩
        go_wp2
        go_ret
        exact ⟨ret_i64 HO.out.symm, hb⟩
theorem PMadePost.no {xs : List Int} {w w' : World} (hb : Below w.heap.size w w') : PMadePost false xs w (.returned (.tuple #[.slice none 0 0, .int .i64 1])) w' := ⟨_, rfl, Reads64.nil _, hb⟩
theorem PMadePost.yes {xs : List Int} {v : Value} {w w' : World} (hr : Reads64 w' v xs) (hb : Below w.heap.size w w') : PMadePost true xs w (.returned (.tuple #[v, .int .i64 0])) w' := ⟨_, rfl, hr, hb⟩
set_option maxRecDepth 100000 in
set_option maxHeartbeats 2000000 in
theorem pMerge_any (u v : Value) (xs ys : List Int) (w : World) (h1 : Reads64 w u xs) (h2 : Reads64 w v ys) (hx : xs.length ≤ 1000) (hy : ys.length ≤ 1000) :
    Calls Tryd.prog 30 #[u, v] w (PMadePost (vMay xs && vMay ys) (vMerge xs ys) w) := by
  have hb := (Below.refl w.heap.size w).alloc (Nat.le_refl _) (.cells #[u, v] 34)
  have hM := allMay_any _ _ _ _ (RowsAt.two w u v xs ys 34 h1 h2 (by omega) (by omega)) (by simp)
  rw [show [xs, ys].all vMay = (vMay xs && vMay ys) by simp] at hM
  cases hm : (vMay xs && vMay ys) with
  | false =>
    rw [hm] at hM
    clear hx hy hm
    obtain ⟨a1, c1, rfl, _⟩ := h1
    obtain ⟨a2, c2, rfl, _⟩ := h2
    generalize xs.length = n1 at *
    generalize ys.length = n2 at *
    go_enter Tryd.func30, Tryd.ntmps30
    go_wp2_with fail
    refine hM.mono ?_
    rintro e _ ⟨rfl, rfl⟩
    go_wp2
    go_ret2
    exact PMadePost.no hb
  | true =>
    rw [hm] at hM
    obtain ⟨m1, m2⟩ := Bool.and_eq_true_iff.1 hm
    have hP := picked_any _ (.inl rfl) gMax greater_any rfl u v xs ys _ (h1.below hb) (h2.below hb) (vMay_parts m1).1 (vMay_parts m2).1
    rw [show (vMade fun s => gMax (xs.getD s 0) (ys.getD s 0)) = vMerge xs ys from rfl] at hP
    clear hx hy hm m1 m2
    obtain ⟨a1, c1, rfl, _⟩ := h1
    obtain ⟨a2, c2, rfl, _⟩ := h2
    generalize xs.length = n1 at *
    generalize ys.length = n2 at *
    generalize vMerge xs ys = zs at *
    go_enter Tryd.func30, Tryd.ntmps30
    go_wp2_with fail
    refine hM.mono ?_
    rintro e _ ⟨rfl, rfl⟩
    go_wp2_with fail
    refine hP.mono ?_
    rintro e w2 ⟨v2, rfl, hr, hb2⟩
    have hz := hb.trans (hb2.mono hb.size)
    clear hb hb2
    go_wp2
    go_ret2
    exact PMadePost.yes hr hz
end Go.Proofs.YthbophioohcphaaDoor
