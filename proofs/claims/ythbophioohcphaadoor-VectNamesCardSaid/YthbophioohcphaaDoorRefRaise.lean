/- The document's vectors: Raise. -/
import Derived.Test.YthbophioohcphaaDoorRefMerge
namespace Go.Proofs.YthbophioohcphaaDoor
open Go.RowKit

/-- The error that Raise tells. -/
def raiseC (xs : List Int) (s q : Int) : Int := if (vMay xs && nMay s q) = false then 1 else if vCount xs s = 1099511627776 then 7 else if q ≠ vCount xs s + 1 then 17 else 0
/-- What Raise tells. -/
def RaisePost (xs : List Int) (s q : Int) (w : World) (e : Ending) (w' : World) : Prop :=
  ∃ v, e = .returned (.tuple #[v, .int .i64 (raiseC xs s q)]) ∧ Reads64 w' v (if raiseC xs s q = 0 then vRaise xs s q else []) ∧ Below w.heap.size w w'
theorem RaisePost.no {xs : List Int} {s q c : Int} {w w' : World} (hc : raiseC xs s q = c) (h0 : c ≠ 0) (hb : Below w.heap.size w w') : RaisePost xs s q w (.returned (.tuple #[.slice none 0 0, .int .i64 c])) w' :=
  ⟨_, by rw [hc], by rw [hc, if_neg h0]; exact Reads64.nil _, hb⟩
theorem RaisePost.yes {xs : List Int} {s q : Int} {w w' : World} {v : Value} (hc : raiseC xs s q = 0) (hr : Reads64 w' v (vRaise xs s q)) (hb : Below w.heap.size w w') : RaisePost xs s q w (.returned (.tuple #[v, .int .i64 0])) w' :=
  ⟨v, by rw [hc], by rw [hc, if_pos rfl]; exact hr, hb⟩
theorem cell_keeps {W W' : World} {p : Addr} {v : Value} (hb : Below W.heap.size W W') (h : W.cell? p = some v) : W'.cell? p = some v := by
  rcases Nat.lt_or_ge p.block W.heap.size with g | g
  · rw [hb.cell g]
    exact h
  · simp [World.cell?, Array.getElem?_eq_none g] at h
/-- A name's box. -/
def NBox (N : Nat) (s q : Int) (w W : World) : Prop := W.cell? ⟨N, 0, none⟩ = some (.int .i64 s) ∧ W.cell? ⟨N, 1, none⟩ = some (.int .i64 q) ∧ Below N w W
theorem NBox.keep {N : Nat} {s q : Int} {w W W' : World} (h : NBox N s q w W) (hb : Below W.heap.size W W') : NBox N s q w W' := by
  have hl : N < W.heap.size := World.block_lt_of_cell? W _ h.1
  exact ⟨cell_keeps hb h.1, cell_keeps hb h.2.1, h.2.2.trans (hb.mono (Nat.le_of_lt hl))⟩
theorem NBox.new (s q : Int) (w : World) (t : TypeId) : NBox w.heap.size s q w (w.alloc (.cells #[.int .i64 s, .int .i64 q] t)) := by
  have h := heap_alloc_new w (.cells #[.int .i64 s, .int .i64 q] t)
  exact ⟨cell_of_row _ _ 0 _ _ _ h, cell_of_row _ _ 1 _ _ _ h, (Below.refl _ w).alloc (Nat.le_refl _) _⟩
theorem NBox.draws {N : Nat} {s q : Int} {w W : World} (h : NBox N s q w W) (n : Nat) : NBox N s q w (W.drewN n) := ⟨h.1, h.2.1, below_draws h.2.2 n⟩
theorem NBox.set {N : Nat} {s q : Int} {w W : World} (h : NBox N s q w W) {p : Addr} (hp : N < p.block) (x : Value) : NBox N s q w (W.setCell p x) := by
  refine ⟨?_, ?_, h.2.2.setCell (Nat.le_of_lt hp) _⟩
  · rw [World.cell?_setCell_other _ _ _ _ (by intro e; rw [e] at hp; exact absurd hp (Nat.lt_irrefl _))]; exact h.1
  · rw [World.cell?_setCell_other _ _ _ _ (by intro e; rw [e] at hp; exact absurd hp (Nat.lt_irrefl _))]; exact h.2.1
set_option maxRecDepth 100000 in
set_option maxHeartbeats 4000000 in
theorem rRaise_any (v : Value) (xs : List Int) (s q : Int) (w : World) (h : Reads64 w v xs) (hx : xs.length ≤ 1000000000) (hq0 : -9223372036854775808 ≤ q) (hq1 : q ≤ 9223372036854775807) :
    Calls Tryd.prog 28 #[v, nmV s q] w (RaisePost xs s q w) := by
  have hN := NBox.new s q w 23
  have hV := fun W hW => rMayV_any v xs W hW hx
  have hM := fun W => rMayName_any s q W
  unfold nmV at hM ⊢
  have h0 := h.below hN.2.2
  by_cases hv : vMay xs = true
  · rw [hv] at hV
    by_cases hn : nMay s q = true
    · rw [hn] at hM
      have hs := of_decide_eq_true hn
      have hC := fun W hW => rCount_any v xs s W hW (by omega) hx
      have hcb := vCount_bounds (vMay_parts hv).2.1 s
      have HR := Lib.hid (show raiseC xs s q = if vCount xs s = 1099511627776 then 7 else if q ≠ vCount xs s + 1 then 17 else 0 by unfold raiseC; rw [hv, hn]; rfl)
      by_cases h7 : vCount xs s = 1099511627776
      · have HP := Lib.hid (show raiseC xs s q = 7 by rw [HR.out, if_pos h7])
        rw [h7] at hC
        clear h7 hcb HR hv hn hs
        go_enter Tryd.func28, Tryd.ntmps28
        go_wp2_with fail
        refine (hV _ h0).mono ?_
        rintro e _ ⟨rfl, rfl⟩
        obtain ⟨c0, c1, _⟩ := id hN
        go_wp2_with fail
        refine (hM _).mono ?_
        rintro e w2 ⟨rfl, hb2⟩
        have hN2 := hN.keep hb2
        have h2 := h0.below hb2
        clear c0 c1 hN
        obtain ⟨c0, c1, _⟩ := id hN2
        go_wp2_with fail
        refine (hC _ h2).mono ?_
        rintro e _ ⟨rfl, rfl⟩
        go_wp2
        go_ret2
        exact RaisePost.no HP.out (by decide) hN2.2.2
      · by_cases h17 : q = vCount xs s + 1
        · have HP := Lib.hid (show raiseC xs s q = 0 by rw [HR.out, if_neg h7, if_neg (fun g => g h17)])
          obtain ⟨m, rfl⟩ : ∃ m : Nat, s = (m : Int) + 1 := ⟨(s - 1).toNat, by omega⟩
          have hm16 : m < 16 := by omega
          have HMD := Lib.hid (show vMade (fun j => if j = m then q else upTo (fun i => xs.getD i 0) 16 j) = vRaise xs ((m : Int) + 1) q from vMade_congr fun j hj => by
            unfold upTo
            rw [if_pos hj]
            by_cases e : j = m
            · rw [if_pos e, if_pos (by omega)]
            · rw [if_neg e, if_neg (by omega)])
          obtain ⟨hz, hi⟩ := zero_of_info zero16
          have hu := Tryd.underlying58
          rw [← arr16_zero] at hz
          have hK := fun (k : Nat) W hW => rCount_any v xs ((k : Int) + 1) W hW (by omega) hx
          generalize vCount xs ((m : Int) + 1) = c at *
          have h17b : (q != c + 1) = false := by simpa using h17
          have h7b : (c == 1099511627776) = false := beq_eq_false_iff_ne.2 h7
          have hwc : IntKind.i64.wrap (c + 1) = c + 1 := by simp only [IntKind.wrap_i64]; omega
          have hq2 : q ≤ 1099511627776 := hs.2.2.2
          clear h7 HR hv hn hs h17
          go_enter Tryd.func28, Tryd.ntmps28
          go_wp2_with fail
          refine (hV _ h0).mono ?_
          rintro e _ ⟨rfl, rfl⟩
          obtain ⟨c0, c1, _⟩ := id hN
          go_wp2_with fail
          refine (hM _).mono ?_
          rintro e w2 ⟨rfl, hb2⟩
          have hN2 := hN.keep hb2
          have h2 := h0.below hb2
          clear c0 c1 hN
          obtain ⟨c0, c1, _⟩ := id hN2
          go_wp2_with fail
          refine (hC _ h2).mono ?_
          rintro e _ ⟨rfl, rfl⟩
          go_wp2_with fail
          have hC2 := hC _ (h2.drew 1)
          go_region_held (fun W => W.cell? ⟨w.heap.size, 0, none⟩ = some (.int .i64 ((m : Int) + 1)) ∧ W.cell? ⟨w.heap.size, 1, none⟩ = some (.int .i64 q))
            (first | exact ⟨c0, c1⟩ | assumption)
            (first | (go_at_call 26; refine hC2.mono ?_; rintro e _ ⟨rfl, rfl⟩))
          all_goals
            rename_i hHeld
            clear hHeld hC2 hC hM hV c0 c1 h17b h7b hwc
            have hN3 := hN2.draws 1
            have h3 := h2.drew 1
            change NBox _ _ _ _ w2.drew at hN3
            change Reads64 w2.drew _ _ at h3
            have hlt2 : w.heap.size < w2.drew.heap.size := World.block_lt_of_cell? w2.drew _ hN3.1
            have hB0 : Box16 w2.drew.heap.size (upTo (fun i => xs.getD i 0) 0) w2.drew (w2.drew.alloc (.cells (arr16 fun _ => 0) 58)) := ⟨by rw [upTo_zero]; exact heap_alloc_new w2.drew _, (Below.refl _ w2.drew).alloc (Nat.le_refl _) _⟩
            have hN4 := hN3.keep ((Below.refl _ w2.drew).alloc (Nat.le_refl _) (.cells (arr16 fun _ => 0) 58))
            have HB0 := Lib.hid hB0
            have HN4 := Lib.hid hN4
            have H3 := Lib.hid h3
            clear hN2 hN3 h2 h3 hB0 hN4 h0 hb2
            go_wp2_with fail
            clear hz
            go_loopw [7] (fun i wr => ∃ k : Nat, i = .int .i64 ((k : Int) + 1) ∧ k ≤ 16 ∧ Box16 w2.drew.heap.size (upTo (fun i => xs.getD i 0) k) w2.drew wr ∧ NBox w.heap.size ((m : Int) + 1) q w wr) (fun i _ => 17 - (intOf i).toNat)
            case atStart => exact ⟨0, rfl, Nat.zero_le _, HB0.out, HN4.out⟩
            case round =>
              rename_i wr
              obtain ⟨k, rfl, hk, hbx, hnb⟩ := hrel
              rcases Nat.lt_or_ge k 16 with hlt | hge
              · have a1 := hK k wr (H3.out.over rfl hbx)
                rw [vCount_nat] at a1
                have hb1 := hbx.set k (xs.getD k 0)
                have hNX : (fun j => if j = k then xs.getD k 0 else upTo (fun i => xs.getD i 0) k j) = upTo (fun i => xs.getD i 0) (k + 1) := upTo_next (fun i => xs.getD i 0) k
                rw [hNX] at hb1
                have hn1 := hnb.set (p := ⟨w2.drew.heap.size, k, none⟩) hlt2 (.int .i64 (xs.getD k 0))
                have hcell : wr.cell? ⟨w2.heap.size, k, none⟩ = _ := hbx.cell k hlt
                have hfro : wr.frozen? ⟨w2.heap.size, k, none⟩ = false := hbx.frozen k
                have HB1 := Lib.hid hb1
                have HN1 := Lib.hid hn1
                clear hNX hb1 hn1 hbx hnb hK HMD
                generalize xs.getD k 0 = x at *
                have hidx : (0 : Int) ≤ (k : Int) ∧ (k : Int) < 16 := ⟨by omega, by omega⟩
                go_wp2_with fail
                refine a1.mono ?_
                clear a1
                rintro e _ ⟨rfl, rfl⟩
                go_wp2_with fail
                exact ⟨⟨k + 1, by go_num, by omega, HB1.out, HN1.out⟩, by simp [intOf]; omega⟩
              · obtain rfl : k = 16 := by omega
                have hb1 := hbx.set m q
                have hM := rMade_any (fun j => if j = m then q else upTo (fun i => xs.getD i 0) 16 j) (wr.setCell ⟨w2.heap.size, m, none⟩ (.int .i64 q))
                rw [HMD.out] at hM
                have hh : (wr.setCell ⟨w2.heap.size, m, none⟩ (.int .i64 q)).heap[w2.heap.size]? = _ := hb1.1
                have hzw : Below w.heap.size w (wr.setCell ⟨w2.heap.size, m, none⟩ (.int .i64 q)) := (hnb.set (p := ⟨w2.drew.heap.size, m, none⟩) hlt2 (.int .i64 q)).2.2
                have hcell : wr.cell? ⟨w2.heap.size, m, none⟩ = _ := hbx.cell m hm16
                have hfro : wr.frozen? ⟨w2.heap.size, m, none⟩ = false := hbx.frozen m
                obtain ⟨c0, c1, _⟩ := id hnb
                clear hbx hb1 hnb hK HMD HB0 HN4
                generalize (fun j => if j = m then q else upTo (fun i => xs.getD i 0) 16 j) = g at *
                generalize upTo (fun i => xs.getD i 0) 16 m = y at *
                have hi' : (Tryd.prog.info? 58).map (·.size) = some (arr16 g).size := by rw [arr16_size]; exact hi
                have hidx : (0 : Int) ≤ (m : Int) ∧ (m : Int) < 16 := ⟨by omega, by omega⟩
                go_wp2_with (refine wpList_load_row rfl 58 _ rfl w2.heap.size rfl 58 _ (0, 0) _ hh hu rfl hi' ?_)
                refine hM.mono ?_
                rintro e w5 ⟨v5, rfl, hr5, hb5⟩
                have hzz := hzw.trans (hb5.mono hzw.size)
                go_wp2
                go_ret2
                exact RaisePost.yes HP.out hr5 hzz
        · have HP := Lib.hid (show raiseC xs s q = 17 by rw [HR.out, if_neg h7, if_pos h17])
          generalize vCount xs s = c at *
          have h17b : (q != c + 1) = true := by simpa using h17
          have h7b : (c == 1099511627776) = false := beq_eq_false_iff_ne.2 h7
          have hwc : IntKind.i64.wrap (c + 1) = c + 1 := by simp only [IntKind.wrap_i64]; omega
          clear h7 HR hv hn hs h17
          go_enter Tryd.func28, Tryd.ntmps28
          go_wp2_with fail
          refine (hV _ h0).mono ?_
          rintro e _ ⟨rfl, rfl⟩
          obtain ⟨c0, c1, _⟩ := id hN
          go_wp2_with fail
          refine (hM _).mono ?_
          rintro e w2 ⟨rfl, hb2⟩
          have hN2 := hN.keep hb2
          have h2 := h0.below hb2
          clear c0 c1 hN
          obtain ⟨c0, c1, _⟩ := id hN2
          go_wp2_with fail
          refine (hC _ h2).mono ?_
          rintro e _ ⟨rfl, rfl⟩
          go_wp2_with fail
          have hC2 := hC _ (h2.drew 1)
          go_region_held (fun W => W.cell? ⟨w.heap.size, 0, none⟩ = some (.int .i64 s) ∧ W.cell? ⟨w.heap.size, 1, none⟩ = some (.int .i64 q))
            (first | exact ⟨c0, c1⟩ | assumption)
            (first | (go_at_call 26; refine hC2.mono ?_; rintro e _ ⟨rfl, rfl⟩))
          all_goals
            rename_i hHeld
            clear hHeld
            go_wp2
            go_ret2
            exact RaisePost.no HP.out (by decide) (below_draws hN2.2.2 1)
    · have HP := Lib.hid (show raiseC xs s q = 1 by unfold raiseC; rw [show nMay s q = false by simpa using hn, Bool.and_false]; rfl)
      rw [show nMay s q = false by simpa using hn] at hM
      clear hv hn
      go_enter Tryd.func28, Tryd.ntmps28
      go_wp2_with fail
      refine (hV _ h0).mono ?_
      rintro e _ ⟨rfl, rfl⟩
      obtain ⟨c0, c1, _⟩ := id hN
      go_wp2_with fail
      refine (hM _).mono ?_
      rintro e w2 ⟨rfl, hb2⟩
      have hz := (hN.keep hb2).2.2
      go_wp2
      go_ret2
      exact RaisePost.no HP.out (by decide) hz
  · have HP := Lib.hid (show raiseC xs s q = 1 by unfold raiseC; rw [show vMay xs = false by simpa using hv, Bool.false_and]; rfl)
    rw [show vMay xs = false by simpa using hv] at hV
    clear hv
    go_enter Tryd.func28, Tryd.ntmps28
    go_wp2_with fail
    refine (hV _ h0).mono ?_
    rintro e _ ⟨rfl, rfl⟩
    go_wp2
    go_ret2
    exact RaisePost.no HP.out (by decide) hN.2.2
end Go.Proofs.YthbophioohcphaaDoor
