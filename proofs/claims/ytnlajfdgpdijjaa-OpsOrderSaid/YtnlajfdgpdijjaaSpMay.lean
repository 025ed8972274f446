/- spans.May: whether a list may be. -/
import Derived.Test.YtnlajfdgpdijjaaSpEdges
namespace Go.Proofs.Ytnlajfdgpdijjaa
open Go.RowKit Go.Shelf
attribute [local go_sem] Oper.semAt_some

theorem boxed_turn {W W' : World} {row : Option Nat} {B : Nat} {t : TypeId} {v : Value} (h : Boxed W B t v) (hg : W.grownBy W' row) (hr : ∀ r, row = some r → ∃ o : Obj, W.heap[r]? = some o ∧ o.isCells = false) : Boxed W' B t v :=
  h.kept hg (fun e => by obtain ⟨o, ho, hc⟩ := hr B e.symm; rw [show W.heap[B]? = _ from h] at ho; cases ho; cases hc)
theorem boxed_far {W : World} {B C : Nat} {t : TypeId} {v : Value} (u : Value) (h : Boxed W B t v) (hne : B ≠ C) : Boxed (W.setCell ⟨C, 0, none⟩ u) B t v := by
  show (W.setCell ⟨C, 0, none⟩ u).heap[B]? = _
  rw [Below.heap_setCell _ _ _ _ hne]
  exact h
set_option maxRecDepth 100000 in
set_option maxHeartbeats 4000000 in
theorem spMay_any (v : Value) (xs : List Sp) (w : World) (h : SpAt w v xs) (hx : xs.length ≤ 2000000) (hwf : sWf xs) :
    Calls Try.prog 101 #[v] w fun e W' => e = .returned (.bool (sMay xs)) ∧ Below w.heap.size w W' := by
  rw [← edOk_sMay hwf]
  have H := Lib.hid h
  obtain ⟨ao, cap, rfl, _⟩ := h
  obtain ⟨n, hn⟩ : ∃ n, xs.length = n := ⟨_, rfl⟩
  rw [hn] at H ⊢
  have hst := edges_stops 4 (by decide) (w.heap.size + 2) _ xs hx w H.out
  rw [hn] at hst
  clear hn
  refine (callsIn_wide (n := 5)).1 ?_
  refine callsIn_of_wp_marks Try.func101 rfl trivial ?_ rfl
  simp only [Try.ntmps101, List.size_toArray, List.length_cons, List.length_nil, Nat.reduceAdd, Nat.reduceSub, Array.replicate_succ, Array.replicate_zero, List.push_toArray, List.append_toArray, List.nil_append, List.cons_append]
  gi_wp2_with (refine ⟨trivial, ?_⟩; gi_at_call 104; refine (callsIn_wide.2 (edges_any _ _ _ _)).mono ?_; rintro e w1 ⟨rfl, rfl⟩)
  have b0 := Boxed.new w 4 (.bool false)
  have b1 := Boxed.new (w.alloc (.cells #[.bool false] 4)) 3 (.int .i64 (-1))
  have b2 := Boxed.new ((w.alloc (.cells #[.bool false] 4)).alloc (.cells #[.int .i64 (-1)] 3)) 24 (.slice ao n cap)
  have hB0 : Below w.heap.size w (((w.alloc (.cells #[.bool false] 4)).alloc (.cells #[.int .i64 (-1)] 3)).alloc (.cells #[.slice ao n cap] 24)) := (((Below.refl _ w).alloc (Nat.le_refl _) _).alloc (by simp) _).alloc (by simp; omega) _
  have b0' := (b0.alloc (.cells #[.int .i64 (-1)] 3)).alloc (.cells #[.slice ao n cap] 24)
  have b1' := b1.alloc (.cells #[.slice ao n cap] 24)
  rw [World.size_alloc] at b1 b1' b2
  rw [World.size_alloc] at b2
  obtain ⟨w3, hw3⟩ : ∃ X, (((w.alloc (.cells #[.bool false] 4)).alloc (.cells #[.int .i64 (-1)] 3)).alloc (.cells #[.slice ao n cap] 24)) = X := ⟨_, rfl⟩
  have hsz : w3.heap.size = w.heap.size + 3 := by rw [← hw3]; simp
  rw [hw3] at b0' b1' b2 hB0 ⊢
  have hst := hst w3 hB0 (by omega) b2.cell
  clear hw3 b0 b1
  refine wpIn_rangeFunc_ownF rfl (by decide) (gf := 105) (lb := #[.pointer (some ⟨w.heap.size + 2, 0, none⟩)]) rfl trivial (enters_of Try.func105 (by kernel_rfl) rfl)
    hst (fun h k => ks_t h k) (ks_b (by omega)) (Below.refl _ _) (fun _ => rfl)
    (fun pre W => (edOk (-1) pre = true ∧ Boxed W w.heap.size 4 (.bool false) ∧ Boxed W (w.heap.size + 1) 3 (.int .i64 (edLast (-1) pre))) ∧ Below w.heap.size w W)
    (fun c pre W => (c = .ret ∧ edOk (-1) pre = false ∧ Boxed W w.heap.size 4 (.bool false)) ∧ Below w.heap.size w W)
    (OwnFrom.and (Own.from (fun s A B row hs hg hr => ⟨hs.1, boxed_turn hs.2.1 hg hr, boxed_turn hs.2.2 hg hr⟩) _) (ownFrom_below (Nat.le_refl _) (by omega)))
    (fun c => OwnFrom.and (Own.from (fun s A B row hs hg hr => ⟨hs.1, hs.2.1, boxed_turn hs.2.2 hg hr⟩) _) (ownFrom_below (Nat.le_refl _) (by omega)))
    ⟨⟨rfl, b0', b1'⟩, hB0⟩
    (fun x => { tmps := #[.slice ao n cap, undef, .pointer (some ⟨w.heap.size, 0, none⟩), .pointer (some ⟨w.heap.size + 1, 0, none⟩), .int .i64 x.1, .slice ao n cap, .func (.func 105) #[] #[.pointer (some ⟨w.heap.size + 2, 0, none⟩)], .int .i64 x.1, .bool x.2, undef, undef, undef, undef, undef, undef, undef, undef], defers := [] }) ?assign ?body ?done ?stop
  case assign =>
    intro l x W K hK
    gi_wp2
    exact hK
  case body =>
    rintro l pre x W ⟨⟨hp, c0, c1⟩, hB⟩ _
    obtain ⟨L, hL⟩ : ∃ L, edLast (-1) pre = L := ⟨_, rfl⟩
    have hsn := edOk_snoc (e := x) hp
    rw [hL] at c1 hsn
    have d0 := c0.cell
    have f0 := c0.frozen
    have d1 := c1.cell
    have f1 := c1.frozen
    obtain ⟨a, bg⟩ := x
    dsimp only at hsn ⊢
    by_cases hok : L < a ∧ a ≤ 20000
    · rw [decide_eq_true hok] at hsn
      have e1 : ¬ a ≤ L := by omega
      have e2 : ¬ (20000 : Int) < a := by omega
      have Hsn := Lib.hid hsn
      clear hsn hp
      gi_wp2
      exact ⟨KeepsOthers.setCell _ _ _, KS.set c1 (by decide) (by omega), ⟨Hsn.out, boxed_far _ c0 (by omega), by rw [edLast_snoc]; exact c1.set _⟩, hB.setCell (p := ⟨w.heap.size + 1, 0, none⟩) (by show _ ≤ w.heap.size + 1; omega) _⟩
    · rw [decide_eq_false hok] at hsn
      have Hsn := Lib.hid hsn
      clear hsn hp
      rcases (show a ≤ L ∨ (¬ a ≤ L ∧ (20000 : Int) < a) by omega) with e1 | ⟨e1, e2⟩
      all_goals
        gi_wp2
        exact ⟨KeepsOthers.setCell _ _ _, ⟨rfl, Hsn.out, c0.set _⟩, hB.setCell (p := ⟨w.heap.size, 0, none⟩) (Nat.le_refl _) _⟩
  case done =>
    rintro D ys W hD rfl ⟨⟨hne, c0, c1⟩, hB⟩ hK
    have d0 := c0.cell
    have f0 := c0.frozen
    gi_wp2
    have hK' := (KeepsOthers.setCell W ⟨w.heap.size, 0, none⟩ (.bool true)).same D _ hK rfl
    refine ⟨by simp, .inl ⟨_, _, rfl, run_takeDeferred hK', ?_⟩⟩
    have hc5 := cell_kept (c0.set (.bool true)).cell (grownBy_putObj' _ D (.deferred none)) (fun r e => by cases e; exact ⟨_, hK', rfl⟩)
    refine ⟨.bool true, ?_, by rw [hne], (hB.setCell (p := ⟨w.heap.size, 0, none⟩) (Nat.le_refl _) _).trans (belowK_b (w := w) (Nat.le_refl _) _ D _ _ (by omega) hK' rfl rfl)⟩
    simp [results, Try.f101, go_sem, hc5]
  case stop =>
    rintro D c pre W hD hpre ⟨⟨rfl, hno, c0⟩, hB⟩ hK
    gi_wp2
    refine ⟨by simp, .inl ⟨_, _, rfl, run_takeDeferred hK, ?_⟩⟩
    have hc5 := cell_kept c0.cell (grownBy_putObj' _ D (.deferred none)) (fun r e => by cases e; exact ⟨_, hK, rfl⟩)
    have hf : edOk (-1) (edL xs) = false := by
      cases hz : edOk (-1) (edL xs) with
      | false => rfl
      | true =>
        obtain ⟨t, ht⟩ := hpre
        rw [← ht] at hz
        rw [edOk_part hz] at hno
        cases hno
    refine ⟨.bool false, ?_, by rw [hf], hB.trans (belowK_b (w := w) (Nat.le_refl _) W D _ _ (by omega) hK rfl rfl)⟩
    simp [results, Try.f101, go_sem, hc5]
end Go.Proofs.Ytnlajfdgpdijjaa
