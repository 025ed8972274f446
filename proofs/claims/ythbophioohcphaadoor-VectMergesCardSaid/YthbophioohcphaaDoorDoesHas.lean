/- The program's own vectors: Count, Has. -/
import Derived.Test.YthbophioohcphaaDoorDoesVect
import Derived.Test.YthbophioohcphaaDoorRefRaise
import Derived.Deep.RegionHeld
namespace Go.Proofs.YthbophioohcphaaDoor
open Go.RowKit

set_option maxRecDepth 100000 in
set_option maxHeartbeats 2000000 in
theorem pCount_any (v : Value) (xs : List Int) (s : Int) (w : World) (h : Reads64 w v xs) (hx : xs.length ≤ 1000000000) (hs : s ≤ 9223372036854775807) :
    Calls Tryd.prog 23 #[v, .int .i64 s] w fun e w' => e = .returned (.int .i64 (if vMay xs then vCount xs s else 0)) ∧ w = w' := by
  have hV := pMay_any v xs w h hx
  cases hm : vMay xs with
  | false =>
    rw [hm] at hV
    go_enter Tryd.func23, Tryd.ntmps23
    go_wp2_with fail
    refine hV.mono ?_
    rintro e _ ⟨rfl, rfl⟩
    go_wp2
    go_ret
    exact ⟨rfl, rfl⟩
  | true =>
    rw [hm] at hV
    by_cases h1 : s < 1
    · have hE := Lib.hid (vCount_none xs s (by omega))
      go_enter Tryd.func23, Tryd.ntmps23
      go_wp2_with fail
      refine hV.mono ?_
      rintro e _ ⟨rfl, rfl⟩
      go_wp2
      go_ret
      exact ⟨ret_i64 hE.out.symm, rfl⟩
    · obtain ⟨k, rfl⟩ : ∃ k : Nat, s = (k : Int) + 1 := ⟨(s - 1).toNat, by omega⟩
      have hE := Lib.hid (vCount_nat xs k)
      have hA := pAt_any v xs k w h
      rw [if_pos rfl, hE.out]
      generalize xs.getD k 0 = x at *
      have hw : IntKind.i64.wrap (k : Int) = k := by simp only [IntKind.wrap_i64]; omega
      have hk : ((k : Int) + 1 < 1) = False := by simp; omega
      clear hE hx hs h1
      go_enter Tryd.func23, Tryd.ntmps23
      go_wp2_with fail
      refine hV.mono ?_
      rintro e _ ⟨rfl, rfl⟩
      go_wp2_with fail
      refine hA.mono ?_
      rintro e _ ⟨rfl, rfl⟩
      go_wp2
      go_ret
      exact ⟨rfl, rfl⟩
theorem heldReads {N : Nat} {s q : Int} {v : Value} {xs : List Int} {w W : World} (h : W.cell? ⟨N, 0, none⟩ = some (.int .i64 s) ∧ W.cell? ⟨N, 1, none⟩ = some (.int .i64 q) ∧ Below N w W ∧ Reads64 W v xs) : Reads64 W v xs := h.2.2.2
theorem keepHas {N : Nat} {s q : Int} {v : Value} {xs : List Int} {w W W' : World} (h : W.cell? ⟨N, 0, none⟩ = some (.int .i64 s) ∧ W.cell? ⟨N, 1, none⟩ = some (.int .i64 q) ∧ Below N w W ∧ Reads64 W v xs) (hb : Below W.heap.size W W') :
    W'.cell? ⟨N, 0, none⟩ = some (.int .i64 s) ∧ W'.cell? ⟨N, 1, none⟩ = some (.int .i64 q) ∧ Below N w W' ∧ Reads64 W' v xs := by
  have hn : NBox N s q w W := ⟨h.1, h.2.1, h.2.2.1⟩
  have h2 := hn.keep hb
  exact ⟨h2.1, h2.2.1, h2.2.2, h.2.2.2.below hb⟩
set_option maxRecDepth 100000 in
set_option maxHeartbeats 4000000 in
theorem pHas_any (v : Value) (xs : List Int) (s q : Int) (w : World) (h : Reads64 w v xs) (hx : xs.length ≤ 1000000000) :
    Calls Tryd.prog 24 #[v, nmV s q] w fun e w' => e = .returned (.bool (vMay xs && nMay s q && decide (q ≤ vCount xs s))) ∧ Below w.heap.size w w' := by
  have hM := fun W => pMayName_any s q W
  have hN := NBox.new s q w 23
  have h0 := h.below hN.2.2
  obtain ⟨c0, c1, hb0⟩ := id hN
  unfold nmV at hM ⊢
  cases hm : nMay s q with
  | false =>
    have hE := Lib.hid (show (vMay xs && false && decide (q ≤ vCount xs s)) = false by simp)
    rw [hm] at hM
    clear hm
    go_enter Tryd.func24, Tryd.ntmps24
    go_wp2_with fail
    refine wp_region_held_drew (S := fun W => W.cell? ⟨w.heap.size, 0, none⟩ = some (.int .i64 s) ∧ W.cell? ⟨w.heap.size, 1, none⟩ = some (.int .i64 q) ∧ Below w.heap.size w W ∧ Reads64 W v xs) (by kernel_rfl) ⟨c0, c1, hb0.drew, h0.drew 1⟩ (fun hHeld => ?_)
    refine wpAnyH_take (i := 0) (v := .agg #[.int .i64 s, .int .i64 q]) rfl (by kernel_rfl) (by kernel_rfl) (by kernel_rfl) (fun _ _ _ h => h) (Or.inl ⟨rfl, fun W hS => ?_⟩) (by assumption) ?_
    · obtain ⟨d0, d1, -, -⟩ := hS
      go_simp
    refine wpAnyH_ready (rs := [1]) (by kernel_rfl) (by simp) (AllReadyH.cons rfl (fun K hK => ?_) AllReadyH.nil)
    go_simp
    go_wp2_with (go_at_call 11; refine (hM _).mono ?_; rintro e w2 ⟨rfl, hb⟩)
    refine hK.out _ _ (keepHas hHeld hb) (fun hHeld => ?_)
    refine wpAnyH_take (i := 2) (v := .bool false) rfl (by kernel_rfl) (by kernel_rfl) (by kernel_rfl) (fun _ _ _ h => h) (Or.inl ⟨rfl, fun W hS => by go_simp⟩) (by assumption) ?_
    refine wpAnyH_take (i := 3) (v := undef) rfl (by kernel_rfl) (by kernel_rfl) (by kernel_rfl) (fun _ _ _ h => h) (Or.inr ⟨rfl, rfl⟩) (by assumption) ?_
    refine wpAnyH_take (i := 4) (v := undef) rfl (by kernel_rfl) (by kernel_rfl) (by kernel_rfl) (fun _ _ _ h => h) (Or.inr ⟨rfl, rfl⟩) (by assumption) ?_
    refine wpAnyH_take (i := 5) (v := undef) rfl (by kernel_rfl) (by kernel_rfl) (by kernel_rfl) (fun _ _ _ h => h) (Or.inr ⟨rfl, rfl⟩) (by assumption) ?_
    refine wpAnyH_take (i := 6) (v := undef) rfl (by kernel_rfl) (by kernel_rfl) (by kernel_rfl) (fun _ _ _ h => h) (Or.inr ⟨rfl, rfl⟩) (by assumption) ?_
    refine wpAnyH_take (i := 7) (v := undef) rfl (by kernel_rfl) (by kernel_rfl) (by kernel_rfl) (fun _ _ _ h => h) (Or.inr ⟨rfl, rfl⟩) (by assumption) ?_
    refine wpAnyH_take (i := 8) (v := undef) rfl (by kernel_rfl) (by kernel_rfl) (by kernel_rfl) (fun _ _ _ h => h) (Or.inr ⟨rfl, rfl⟩) (by assumption) ?_
    refine wpAnyH_take (i := 9) (v := undef) rfl (by kernel_rfl) (by kernel_rfl) (by kernel_rfl) (fun _ _ _ h => h) (Or.inr ⟨rfl, rfl⟩) (by assumption) ?_
    refine wpAnyH_take (i := 10) (v := .bool false) rfl (by kernel_rfl) (by kernel_rfl) (by kernel_rfl) (fun _ _ _ h => h) (Or.inl ⟨rfl, fun W hS => by go_simp⟩) (by assumption) ?_
    refine wpAnyH_take (i := 11) (v := .bool false) rfl (by kernel_rfl) (by kernel_rfl) (by kernel_rfl) (fun _ _ _ h => h) (Or.inl ⟨rfl, fun W hS => by go_simp⟩) (by assumption) ?_
    refine wpAnyH_done (by kernel_rfl) ?_ _
    simp only [Act.put, List.getElem_toArray, List.getElem_cons_succ, List.getElem_cons_zero, List.setIfInBounds_toArray, List.set_cons_zero, List.set_cons_succ]
    have hz := hHeld.2.2.1
    clear hM c0 c1
    go_wp2
    go_ret
    exact ⟨ret_bool hE.out.symm, hz⟩
  | true =>
    have hs := of_decide_eq_true hm
    have hC := fun W hW => pCount_any v xs s W hW hx (by omega)
    have hE := Lib.hid (show (vMay xs && true && decide (q ≤ vCount xs s)) = decide (q ≤ if vMay xs then vCount xs s else 0) by
      cases vMay xs with
      | true => simp
      | false => simp; omega)
    rw [hm] at hM
    generalize (if vMay xs = true then vCount xs s else 0) = c at *
    clear hm hs
    go_enter Tryd.func24, Tryd.ntmps24
    go_wp2_with fail
    go_region_held (fun W => W.cell? ⟨w.heap.size, 0, none⟩ = some (.int .i64 s) ∧ W.cell? ⟨w.heap.size, 1, none⟩ = some (.int .i64 q) ∧ Below w.heap.size w W ∧ Reads64 W v xs)
      (first | exact ⟨c0, c1, hb0.drew, h0.drew 1⟩ | assumption | exact keepHas (by assumption) hb)
      (first | (go_at_call 11; refine (hM _).mono ?_; rintro e w2 ⟨rfl, hb⟩) | (go_at_call 23; refine (hC _ (by first | assumption | exact heldReads (N := w.heap.size) (s := s) (q := q) (w := w) (by assumption))).mono ?_; rintro e _ ⟨rfl, rfl⟩))
    all_goals
      rename_i hHeld
      obtain ⟨-, -, hz, -⟩ := hHeld
      clear hM hC c0 c1
      go_wp2
      go_ret
      exact ⟨ret_bool hE.out.symm, hz⟩
end Go.Proofs.YthbophioohcphaaDoor
