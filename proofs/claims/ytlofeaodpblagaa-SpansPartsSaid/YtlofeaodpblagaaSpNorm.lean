/- spans.Norm. -/
import Derived.Test.YtlofeaodpblagaaSpSort
import Derived.Test.YtlofeaodpblagaaSpansAsked
namespace Go.Proofs.Ytlofeaodpblagaa
open Go.RowKit

theorem SpErrPost.no {b : Bool} {l : List Sp} {w w' : World} (h : b = false) (hb : Below w.heap.size w w') : SpErrPost b l w (.returned (.tuple #[.slice none 0 0, .int .i64 1])) w' := ⟨_, by rw [h]; rfl, by rw [h]; exact SpAt.nil _, hb⟩
theorem SpErrPost.yes {b : Bool} {l : List Sp} {w w' : World} {v : Value} (h : b = true) (hv : SpAt w' v l) (hb : Below w.heap.size w w') : SpErrPost b l w (.returned (.tuple #[v, .int .i64 0])) w' := ⟨_, by rw [h]; rfl, by rw [h]; exact hv, hb⟩
theorem take_all_ok {xs : List Sp} {k : Nat} (hk : k < xs.length) (h : (xs.take k).all spOk = true) (hs : spOk (xs.getD k (0, 0)) = true) : (xs.take (k + 1)).all spOk = true := by
  rw [List.take_succ_eq_append_getElem hk, List.all_append, h, getD_cell hk, List.all_cons, hs]
  rfl
theorem not_all_ok {xs : List Sp} {k : Nat} (hk : k < xs.length) (hs : spOk (xs.getD k (0, 0)) = false) : xs.all spOk = false := by
  cases hz : xs.all spOk with
  | false => rfl
  | true =>
    rw [List.all_eq_true] at hz
    have := hz xs[k] (List.getElem_mem hk)
    rw [getD_cell hk, hs] at this
    cases this
set_option maxRecDepth 100000 in
set_option maxHeartbeats 4000000 in
theorem spNorm_any (v : Value) (xs : List Sp) (w : World) (h : SpAt w v xs) (hx : xs.length ≤ 1000000) (hwf : sWf xs) :
    Calls Try.prog 10 #[v] w (SpErrPost (xs.all spOk) (sMade (sMark xs) 20000) w) := by
  have H := Lib.hid h
  have HW := Lib.hid hwf
  obtain ⟨ao, cap, rfl, _⟩ := h
  obtain ⟨n, hn⟩ : ∃ n, xs.length = n := ⟨_, rfl⟩
  have hcl := fun W (q : SpAt W (.slice ao n cap) xs) => clone_any ao n cap xs W q hx hn
  rw [hn] at H hx ⊢
  have HN := Lib.hid hn
  clear hn hwf
  go_enter Try.func10, Try.ntmps10
  go_wp2_with fail
  go_loopw [9] (fun i wr => ∃ k : Nat, i = .int .i64 k ∧ k ≤ n ∧ (xs.take k).all spOk = true ∧ Below w.heap.size w wr) (fun i _ => n - (intOf i).toNat)
  case atStart => exact ⟨0, rfl, Nat.zero_le _, rfl, Below.refl _ _⟩
  case round =>
    obtain ⟨k, rfl, hk, hok, hB⟩ := hrel
    rcases Nat.lt_or_ge k n with hlt | hge
    · have hkx : k < xs.length := by rw [HN.out]; exact hlt
      obtain ⟨b, off, cap', hvv, c0, c1⟩ := (H.out.below hB).at hkx
      rw [HN.out] at hvv
      cases hvv
      have hki : (0 : Int) ≤ (k : Int) ∧ (k : Int) < (n : Int) := ⟨by omega, by omega⟩
      obtain ⟨s, hss⟩ : ∃ s, xs.getD k (0, 0) = s := ⟨_, rfl⟩
      have hws := HW.out s (by rw [← hss, ← getD_cell hkx]; exact List.getElem_mem hkx)
      have b1 := wf_i64 hws.1
      have b2 := wf_i64 hws.2
      have hnx := fun q => take_all_ok hkx hok q
      have hno := fun q => not_all_ok hkx q
      rw [hss] at c0 c1 hnx hno
      obtain ⟨p, q⟩ := s
      dsimp only at *
      have Hnx := Lib.hid hnx
      have Hno := Lib.hid hno
      have HB := Lib.hid hB
      clear hnx hno hB hok hss hws hcl
      by_cases g1 : p < 0
      · have hC := Lib.hid (Hno.out (decide_eq_false (by dsimp only; omega)))
        go_wp2
        go_ret2
        exact SpErrPost.no hC.out (HB.out.alloc HB.out.size _)
      · have hw1 : IntKind.i64.wrap (20000 - p) = 20000 - p := by simp only [IntKind.wrap_i64]; omega
        by_cases g2 : q < 0
        · have hC := Lib.hid (Hno.out (decide_eq_false (by dsimp only; omega)))
          go_wp2
          go_ret2
          exact SpErrPost.no hC.out (HB.out.alloc HB.out.size _)
        · by_cases g3 : 20000 - p < q
          · have hC := Lib.hid (Hno.out (decide_eq_false (by dsimp only; omega)))
            go_wp2
            go_ret2
            exact SpErrPost.no hC.out (HB.out.alloc HB.out.size _)
          · have hC := Lib.hid (Hnx.out (decide_eq_true (by dsimp only; omega)))
            go_wp2
            exact ⟨⟨k + 1, by go_num, by omega, hC.out, HB.out.alloc HB.out.size _⟩, by simp [intOf]; omega⟩
    · obtain rfl : k = n := by omega
      rw [List.take_of_length_le (by rw [HN.out]; exact Nat.le_refl _)] at hok
      have hcl := hcl _ (H.out.below hB)
      have HOK := Lib.hid hok
      have HB := Lib.hid hB
      clear hok hB
      go_wp2_with fail
      refine hcl.mono ?_
      clear hcl
      rintro e w2 ⟨vc, rfl, ho2, hb2⟩
      have hB2 := HB.out.trans (hb2.mono HB.out.size)
      have hso := sort_any vc xs wr.heap.size w2 ho2 (by rw [HN.out]; exact hx)
      obtain ⟨aq, cq, hvq, _⟩ := id (SpAt.of_own ho2)
      subst hvq
      have hsz2 := hb2.size
      clear ho2 hb2
      go_wp2_with fail
      refine hso.mono ?_
      clear hso
      rintro e w3 ⟨rfl, ⟨ys, hys, hay, hly⟩, hb3⟩
      have hB3 := hB2.trans ((hb3 hsz2).mono HB.out.size)
      have hlay := spLay_any w3.heap.size (.slice none 0 0) _ [] ys 0 0 w3 (Nat.le_refl _) (World.ownsRow_nil _ _ _ _) hay (fun b _ e => by cases e) (PutOK.nil 0)
        (fun s hs => by
          have hq := HOK.out
          rw [List.all_eq_true] at hq
          have := of_decide_eq_true (hq s (hys.perm.mem_iff.1 hs))
          omega) hys.up (.inr (by omega)) (by simp) (by rw [hly, HN.out]; exact hx)
      rw [norm_list hys HOK.out] at hlay
      have HB3 := Lib.hid hB3
      clear hys hay hly hb3 hB3 hB2
      go_wp2_with fail
      refine hlay.mono ?_
      clear hlay
      rintro e w4 ⟨v4, rfl, ho4, hb4⟩
      have HP := Lib.hid (SpErrPost.yes HOK.out (SpAt.of_own ho4) (HB3.out.trans (hb4.mono HB3.out.size)))
      clear ho4 hb4
      go_wp2
      go_ret2
      exact HP.out
end Go.Proofs.Ytlofeaodpblagaa
