/- spans.Ahead, Total, Has. -/
import Derived.Test.YtnlajfdgpdijjaaSpMay
namespace Go.Proofs.Ytnlajfdgpdijjaa
open Go.RowKit Go.Shelf
attribute [local go_sem] Oper.semAt_some

/-- None is above p. -/
def allLe (p : Int) (l : List Edge) : Prop := ∀ e ∈ l, e.1 ≤ p
theorem edSum_none (p : Int) {W : World} {B : Nat} (h : Boxed W B 3 (.int .i64 0)) : Boxed W B 3 (.int .i64 (wrap64 (edSum p []))) := by
  rw [show edSum p [] = 0 from rfl, show wrap64 0 = 0 by unfold wrap64; omega]
  exact h
set_option maxRecDepth 100000 in
set_option maxHeartbeats 4000000 in
theorem spAhead_any (v : Value) (xs : List Sp) (p : Int) (w : World) (h : SpAt w v xs) (hx : xs.length ≤ 2000000) (hwf : sWf xs) :
    Calls Try.prog 102 #[v, .int .i64 p] w fun e W' => e = .returned (.int .i64 (if sMay xs then (cntTo (sMark xs) (min 20000 p.toNat) : Nat) else 0)) ∧ Below w.heap.size w W' := by
  have hMay := fun W (hW : SpAt W v xs) => spMay_any v xs W hW hx hwf
  have H := Lib.hid h
  obtain ⟨ao, cap, rfl, _⟩ := h
  have r0 := H.out.below ((Below.refl w.heap.size w).alloc (Nat.le_refl _) (.cells #[.int .i64 p] 3))
  have hMay := hMay _ r0
  obtain ⟨n, hn⟩ : ∃ n, xs.length = n := ⟨_, rfl⟩
  rw [hn] at H hMay ⊢
  have hst := fun m W (hW : SpAt W (.slice ao n cap) xs) => edges_stops 3 (by decide) m _ xs hx W hW
  rw [hn] at hst
  clear hn r0
  have p0 := Boxed.new w 3 (.int .i64 p)
  have hP0 : Below w.heap.size w (w.alloc (.cells #[.int .i64 p] 3)) := (Below.refl _ w).alloc (Nat.le_refl _) _
  cases hm : sMay xs with
  | false =>
    rw [hm] at hMay
    refine (callsIn_wide (n := 4)).1 ?_
    refine callsIn_of_wp_marks Try.func102 rfl trivial ?_ rfl
    simp only [Try.ntmps102, List.size_toArray, List.length_cons, List.length_nil, Nat.reduceAdd, Nat.reduceSub, Array.replicate_succ, Array.replicate_zero, List.push_toArray, List.append_toArray, List.nil_append, List.cons_append]
    gi_wp2_with (refine ⟨trivial, ?_⟩; gi_at_call 101; refine (callsIn_wide.2 hMay).mono ?_; rintro e w1 ⟨rfl, hb1⟩)
    have hb := hP0.trans (hb1.mono (by simp))
    exact ⟨_, results_tmp rfl _ _ _, rfl, hb⟩
  | true =>
    rw [hm] at hMay
    have hG := (sMay_good xs).1 hm
    refine (callsIn_wide (n := 4)).1 ?_
    refine callsIn_of_wp_marks Try.func102 rfl trivial ?_ rfl
    simp only [Try.ntmps102, List.size_toArray, List.length_cons, List.length_nil, Nat.reduceAdd, Nat.reduceSub, Array.replicate_succ, Array.replicate_zero, List.push_toArray, List.append_toArray, List.nil_append, List.cons_append]
    gi_wp2_with (refine ⟨trivial, ?_⟩; first | (gi_at_call 101; refine (callsIn_wide.2 hMay).mono ?_; clear hMay; rintro e w1 ⟨rfl, hb1⟩) | (gi_at_call 104; refine (callsIn_wide.2 (edges_any _ _ _ _)).mono ?_; rintro e _ ⟨rfl, rfl⟩))
    have hw1 : Below w.heap.size w w1 := hP0.trans (hb1.mono (by simp))
    have r1 := H.out.below hw1
    have p1 : Boxed w1 w.heap.size 3 (.int .i64 p) := by
      show w1.heap[w.heap.size]? = _
      rw [hb1.block _ (by simp)]
      exact p0
    have hsz1 : w.heap.size < w1.heap.size := p1.lt
    have b0 := Boxed.new w1 3 (.int .i64 0)
    have b2 := Boxed.new (w1.alloc (.cells #[.int .i64 0] 3)) 24 (.slice ao n cap)
    have hB0 : Below w1.heap.size w1 ((w1.alloc (.cells #[.int .i64 0] 3)).alloc (.cells #[.slice ao n cap] 24)) := ((Below.refl _ w1).alloc (Nat.le_refl _) _).alloc (by simp) _
    have b0' := b0.alloc (.cells #[.slice ao n cap] 24)
    have p2 := (p1.alloc (.cells #[.int .i64 0] 3)).alloc (.cells #[.slice ao n cap] 24)
    rw [World.size_alloc] at b2
    obtain ⟨w3, hw3⟩ : ∃ X, ((w1.alloc (.cells #[.int .i64 0] 3)).alloc (.cells #[.slice ao n cap] 24)) = X := ⟨_, rfl⟩
    have hsz : w3.heap.size = w1.heap.size + 2 := by rw [← hw3]; simp
    rw [hw3] at b0' b2 hB0 p2 ⊢
    have hB3 : Below w.heap.size w w3 := hw1.trans (hB0.mono (by omega))
    have hst := hst (w1.heap.size + 1) w1 r1 w3 hB0 (by omega) b2.cell
    clear hw3 b0 p0 p1 r1
    refine wpIn_rangeFunc_ownF rfl (by decide) (gf := 105) (lb := #[.pointer (some ⟨w1.heap.size + 1, 0, none⟩)]) rfl trivial (enters_of Try.func105 (by kernel_rfl) rfl)
      hst (fun h k => ks_t h k) (ks_b (by omega)) (Below.refl _ _) (fun _ => rfl)
      (fun pre W => (Boxed W w.heap.size 3 (.int .i64 p) ∧ Boxed W w1.heap.size 3 (.int .i64 (wrap64 (edSum p pre)))) ∧ Below w.heap.size w W)
      (fun c pre W => (False) ∧ Below w.heap.size w W)
      (OwnFrom.and (Own.from (fun s A B row hs hg hr => ⟨boxed_turn hs.1 hg hr, boxed_turn hs.2 hg hr⟩) _) (ownFrom_below (Nat.le_refl _) (by omega)))
      (fun c => OwnFrom.and (Own.from (fun s A B row hs hg hr => hs.elim) _) (ownFrom_below (Nat.le_refl _) (by omega)))
      ⟨⟨p2, edSum_none p b0'⟩, hB3⟩
      (fun x => { tmps := #[.slice ao n cap, .int .i64 p, undef, .pointer (some ⟨w.heap.size, 0, none⟩), .int .i64 0, .pointer (some ⟨w1.heap.size, 0, none⟩), .int .i64 x.1, .bool x.2, .slice ao n cap, .bool true, .bool false, .slice ao n cap, .func (.func 105) #[] #[.pointer (some ⟨w1.heap.size + 1, 0, none⟩)], .int .i64 x.1, .bool x.2, undef, undef, undef, undef, undef, undef, undef, undef, undef, undef, undef, undef], defers := [] }) ?assign ?body ?done ?stop
    case assign =>
      intro l x W K hK
      gi_wp2
      exact hK
    case body =>
      rintro l pre x W ⟨⟨c0, c1⟩, hB⟩ _
      have hsn := edSum_snoc p pre x
      obtain ⟨L, hL⟩ : ∃ L, edSum p pre = L := ⟨_, rfl⟩
      rw [hL] at c1 hsn
      have d0 := c0.cell
      have f0 := c0.frozen
      have d1 := c1.cell
      have f1 := c1.frozen
      obtain ⟨a, bg⟩ := x
      dsimp only at hsn ⊢
      have hwr : ∀ z : Int, wrap64 (wrap64 L + z) = wrap64 (L + z) := fun z => by unfold wrap64; omega
      have hwr' : ∀ z : Int, wrap64 (wrap64 L - z) = wrap64 (L + -z) := fun z => by unfold wrap64; omega
      have Hwr := Lib.hid hwr
      have Hwr' := Lib.hid hwr'
      obtain ⟨m, hm2, hm3⟩ : ∃ m, min a p = m ∧ ((p < a ∧ m = p) ∨ (¬ p < a ∧ m = a)) := ⟨_, rfl, by omega⟩
      rw [hm2] at hsn
      have Hsn := Lib.hid hsn
      clear hsn hwr hwr' hm2
      rcases hm3 with ⟨h1, rfl⟩ | ⟨h1, rfl⟩
      all_goals
        cases bg
        all_goals
          gi_wp2
          refine ⟨KeepsOthers.setCell _ _ _, KS.set c1 (by decide) (by omega), ⟨boxed_far _ c0 (by omega), ?_⟩, hB.setCell (p := ⟨w1.heap.size, 0, none⟩) (by show w.heap.size ≤ w1.heap.size; omega) _⟩
          have hq := Hsn.out
          simp only [Bool.false_eq_true, if_false, if_true] at hq
          rw [hq]
          first
            | (rw [← Hwr.out]; exact c1.set _)
            | (rw [← Hwr'.out]; exact c1.set _)
    case done =>
      rintro D ys W hD rfl ⟨⟨_, c1⟩, hB⟩ hK
      have hsum := edSum_all hG p
      rw [hsum] at c1
      have hle := cntTo_le (sMark xs) (min 20000 p.toNat)
      obtain ⟨C, hC⟩ : ∃ C, cntTo (sMark xs) (min 20000 p.toNat) = C := ⟨_, rfl⟩
      rw [hC] at c1 hle
      have hwc : wrap64 (C : Int) = C := by unfold wrap64; omega
      rw [hwc] at c1
      have d1 := c1.cell
      have HC := Lib.hid hC
      clear hC hsum
      gi_wp2
      refine ⟨by simp, .inl ⟨_, _, rfl, run_takeDeferred hK, ?_⟩⟩
      have q := HC.out
      subst q
      exact ⟨_, results_tmp rfl _ _ _, rfl, hB.trans (belowK_b (w := w) (Nat.le_refl _) W D _ _ (by omega) hK rfl rfl)⟩
    case stop =>
      rintro D c pre W hD hpre ⟨hno, _⟩ hK
      exact hno.elim
set_option maxRecDepth 100000 in
set_option maxHeartbeats 2000000 in
theorem spTotal_any (v : Value) (xs : List Sp) (w : World) (h : SpAt w v xs) (hx : xs.length ≤ 2000000) (hwf : sWf xs) :
    Calls Try.prog 103 #[v] w fun e W' => e = .returned (.int .i64 (if sMay xs then (cntTo (sMark xs) 20000 : Nat) else 0)) ∧ Below w.heap.size w W' := by
  have hA := spAhead_any v xs 20000 w h hx hwf
  rw [show min 20000 (Int.toNat 20000) = 20000 from rfl] at hA
  obtain ⟨ao, cap, rfl, _⟩ := h
  generalize (if sMay xs = true then ((cntTo (sMark xs) 20000 : Nat) : Int) else 0) = z at hA ⊢
  go_enter Try.func103, Try.ntmps103
  go_wp2_with (go_at_call 102; refine hA.mono ?_; clear hA; rintro e w1 ⟨rfl, hb⟩)
  go_ret
  exact ⟨rfl, hb⟩
end Go.Proofs.Ytnlajfdgpdijjaa
