/- The document's vectors: Least. -/
import Derived.Test.YthbophioohcphaaDoorRefMerge
namespace Go.Proofs.YthbophioohcphaaDoor
open Go.RowKit

/-- A slice of slices of ints. -/
def RowsAt (W : World) (v : Value) (vs : Nat → Value) (xss : List (List Int)) : Prop :=
  ∃ ao cap, v = .slice ao xss.length cap ∧ (0 < xss.length → ∃ b off, ao = some ⟨b, off, none⟩ ∧ ∀ i, i < xss.length → W.cell? ⟨b, off + i, none⟩ = some (vs i)) ∧
    ∀ i, i < xss.length → Reads64 W (vs i) (xss.getD i []) ∧ (xss.getD i []).length ≤ 1000000000
theorem cell_stays {W W' : World} {p : Addr} {v : Value} (hb : Below W.heap.size W W') (h : W.cell? p = some v) : W'.cell? p = some v := by
  rcases Nat.lt_or_ge p.block W.heap.size with g | g
  · rw [hb.cell g]
    exact h
  · simp [World.cell?, Array.getElem?_eq_none g] at h
theorem RowsAt.below {W W' : World} {v : Value} {vs : Nat → Value} {xss : List (List Int)} (h : RowsAt W v vs xss) (hb : Below W.heap.size W W') : RowsAt W' v vs xss := by
  obtain ⟨ao, cap, hv, h1, h2⟩ := h
  refine ⟨ao, cap, hv, fun h0 => ?_, fun i hi => ⟨(h2 i hi).1.below hb, (h2 i hi).2⟩⟩
  obtain ⟨b, off, ha, hc⟩ := h1 h0
  exact ⟨b, off, ha, fun i hi => cell_stays hb (hc i hi)⟩
theorem RowsAt.at {W : World} {v : Value} {vs : Nat → Value} {xss : List (List Int)} (h : RowsAt W v vs xss) {i : Nat} (hi : i < xss.length) : ∃ b off cap, v = .slice (some ⟨b, off, none⟩) xss.length cap ∧ W.cell? ⟨b, off + i, none⟩ = some (vs i) ∧ Reads64 W (vs i) (xss.getD i []) ∧ (xss.getD i []).length ≤ 1000000000 := by
  obtain ⟨ao, cap, hv, h1, h2⟩ := h
  obtain ⟨b, off, ha, hc⟩ := h1 (by omega)
  exact ⟨b, off, cap, by rw [hv, ha], hc i hi, (h2 i hi).1, (h2 i hi).2⟩
theorem RowsAt.cell {W : World} {b off n cap : Nat} {vs : Nat → Value} {xss : List (List Int)} (h : RowsAt W (.slice (some ⟨b, off, none⟩) n cap) vs xss) {i : Nat} (hi : i < xss.length) : W.cell? ⟨b, off + i, none⟩ = some (vs i) ∧ Reads64 W (vs i) (xss.getD i []) ∧ (xss.getD i []).length ≤ 1000000000 := by
  obtain ⟨b', off', cap', hv, h1, h2, h3⟩ := h.at hi
  cases hv
  exact ⟨h1, h2, h3⟩
theorem Box16.again {N k : Nat} {a : Int} {g : Nat → Int} {w W : World} (h : Box16 N (fun j => if j = k then a else g j) w W) (z : Int) : Box16 N (fun j => if j = k then z else g j) w (W.setCell ⟨N, k, none⟩ (.int .i64 z)) := by
  have := h.set k z
  rw [show (fun j => if j = k then z else (fun i => if i = k then a else g i) j) = fun j => if j = k then z else g j by funext j; by_cases e : j = k <;> simp [e]] at this
  exact this
theorem minL_snoc (m : Int) (l : List (List Int)) (y : List Int) (s : Nat) : minL m (l ++ [y]) s = if y.getD s 0 < minL m l s then y.getD s 0 else minL m l s := by
  induction l generalizing m with
  | nil => rfl
  | cons x l ih => exact ih _
theorem minL_next (m : Int) (x : List Int) (l : List (List Int)) (c s : Nat) (hc : c < (x :: l).length) (h1 : 1 ≤ c) :
    minL m (l.take (c + 1 - 1)) s = if ((x :: l).getD c []).getD s 0 < minL m (l.take (c - 1)) s then ((x :: l).getD c []).getD s 0 else minL m (l.take (c - 1)) s := by
  obtain ⟨d, rfl⟩ : ∃ d, c = d + 1 := ⟨c - 1, by omega⟩
  have hd : d < l.length := by simpa using hc
  rw [show d + 1 + 1 - 1 = d + 1 by omega, show d + 1 - 1 = d by omega, List.take_succ_eq_append_getElem hd, minL_snoc]
  rw [show (x :: l).getD (d + 1) [] = l[d] by simp [List.getD, hd]]
set_option maxRecDepth 100000 in
set_option maxHeartbeats 8000000 in
theorem rLeast_any (v : Value) (vs : Nat → Value) (x : List Int) (l : List (List Int)) (w : World) (h : RowsAt w v vs (x :: l)) (hn : (x :: l).length ≤ 1000000) :
    Calls Tryd.prog 33 #[v] w (MadePost (vLeast (x :: l)) w) := by
  obtain ⟨hz, hi⟩ := zero_of_info zero16
  have hu := Tryd.underlying58
  rw [← arr16_zero] at hz
  obtain ⟨F, hF⟩ : ∃ F : Nat → Int, F = fun s => minL (x.getD s 0) l s := ⟨_, rfl⟩
  have hvm : vLeast (x :: l) = vMade F := by rw [hF]; rfl
  rw [hvm]
  clear hvm
  have hB0 : Box16 w.heap.size (upTo F 0) w (w.alloc (.cells (arr16 fun _ => 0) 58)) := ⟨by rw [upTo_zero]; exact heap_alloc_new w _, (Below.refl _ w).alloc (Nat.le_refl _) _⟩
  have HB0 := Lib.hid hB0
  have HF := Lib.hid hF
  have H := Lib.hid h
  obtain ⟨n, hnl⟩ : ∃ n, (x :: l).length = n := ⟨_, rfl⟩
  have hn1 : 1 ≤ n := by rw [← hnl]; simp
  rw [hnl] at hn
  obtain ⟨b, off, cap, hv, _⟩ := h.at (i := 0) (by rw [hnl]; omega)
  rw [hnl] at hv
  have HNL := Lib.hid hnl
  subst hv
  clear hB0 hF h hnl
  go_enter Tryd.func33, Tryd.ntmps33
  go_wp2
  clear hz
  go_loopw [4] (fun i wr => ∃ k : Nat, i = .int .i64 ((k : Int) + 1) ∧ k ≤ 16 ∧ Box16 w.heap.size (upTo F k) w wr) (fun i _ => 17 - (intOf i).toNat)
  case atStart => exact ⟨0, rfl, Nat.zero_le _, HB0.out⟩
  case round =>
    rename_i wr
    obtain ⟨k, rfl, hk, hbx⟩ := hrel
    rcases Nat.lt_or_ge k 16 with hlt | hge
    · obtain ⟨hc0, hr0, hl0⟩ := (H.out.below hbx.2).cell (i := 0) (by rw [HNL.out]; omega)
      rw [Nat.add_zero] at hc0
      have a1 := rCount_any (vs 0) x ((k : Int) + 1) wr hr0 (by omega) hl0
      rw [vCount_nat] at a1
      obtain ⟨y, hy⟩ : ∃ y, x.getD k 0 = y := ⟨_, rfl⟩
      rw [hy] at a1
      have hb1 := hbx.set k y
      have hcell := hbx.cell k hlt
      have hfro := hbx.frozen k
      have HB1 := Lib.hid hb1
      have HY := Lib.hid hy
      have hidx : (0 : Int) ≤ (k : Int) ∧ (k : Int) < 16 := ⟨by omega, by omega⟩
      have hi0 : (0 : Int) < (n : Int) := by omega
      generalize hv0 : vs 0 = v0 at *
      clear hb1 hy hbx hr0
      go_wp2_with fail
      refine a1.mono ?_
      clear a1
      rintro e _ ⟨rfl, rfl⟩
      go_wp2_with fail
      clear hcell hfro hc0 hi0
      go_loopw [5] (fun i wr' => ∃ c : Nat, i = .int .i64 c ∧ 1 ≤ c ∧ c ≤ n ∧ Box16 w.heap.size (fun j => if j = k then minL y (l.take (c - 1)) k else upTo F k j) w wr') (fun i _ => n - (intOf i).toNat)
      case atStart => exact ⟨1, rfl, Nat.le_refl _, hn1, HB1.out⟩
      case round =>
        obtain ⟨c, rfl, hc1, hcn, hbq⟩ := hrel
        rcases Nat.lt_or_ge c n with hclt | hcge
        · obtain ⟨hcc, hrc, hlc⟩ := (H.out.below hbq.2).cell (i := c) (by rw [HNL.out]; exact hclt)
          have b1 := rCount_any (vs c) ((x :: l).getD c []) ((k : Int) + 1) wr.drew (hrc.drew 1) (by omega) hlc
          rw [vCount_nat] at b1
          have hNX := minL_next y x l c k (by rw [HNL.out]; exact hclt) hc1
          obtain ⟨z, hz⟩ : ∃ z, ((x :: l).getD c []).getD k 0 = z := ⟨_, rfl⟩
          rw [hz] at b1 hNX
          have hcell := hbq.cell k hlt
          have hfro := hbq.frozen k
          rw [if_pos rfl] at hcell
          have HBQ := Lib.hid hbq
          have HNX := Lib.hid hNX
          have hcc' : wr.cell? ⟨b, off + c, none⟩ = some (vs c) := hcc
          generalize hvc : vs c = vc at *
          have HVC := Lib.hid hvc
          clear hz hNX hbq hrc hcc hvc
          obtain ⟨m, hm⟩ : ∃ m, minL y (l.take (c - 1)) k = m := ⟨_, rfl⟩
          rw [hm] at hcell
          have HM := Lib.hid hm
          clear hm
          have hci : (0 : Int) ≤ (c : Int) ∧ (c : Int) < (n : Int) := ⟨by omega, by omega⟩
          have hkt : ((k : Int) + 1 - 1).toNat = k := by omega
          have hwk : IntKind.i64.wrap (k : Int) = (k : Int) := by simp only [IntKind.wrap_i64]; omega
          have hcd : wr.drew.cell? ⟨w.heap.size, k, none⟩ = some (.int .i64 m) := hcell
          have hfd : wr.drew.frozen? ⟨w.heap.size, k, none⟩ = false := hfro
          have hccd : wr.drew.cell? ⟨b, off + c, none⟩ = some vc := hcc'
          clear hcell hfro hcc'
          by_cases hzm : z < m
          · go_wp2_with fail
            go_region_held (fun W => W.cell? ⟨b, off + c, none⟩ = some vc ∧ W.cell? ⟨w.heap.size, k, none⟩ = some (.int .i64 m))
              (first | exact ⟨hccd, hcd⟩ | assumption)
              (first | (go_at_call 26; refine b1.mono ?_; rintro e _ ⟨rfl, rfl⟩))
            all_goals
              rename_i hHeld
              clear hHeld
              go_wp2_with fail
              refine b1.mono ?_
              clear b1
              rintro e _ ⟨rfl, rfl⟩
              go_wp2_with fail
              have hb4 := (HBQ.out.draws 1).again z
              have hmz : minL y (l.take (c + 1 - 1)) k = z := by rw [HNX.out, HM.out, if_pos hzm]
              rw [← hmz] at hb4
              have HB4 := Lib.hid hb4
              have HMZ := Lib.hid hmz
              clear hb4 hmz
              refine ⟨⟨c + 1, by go_num, by omega, by omega, ?_⟩, by simp [intOf]; omega⟩
              have hb5 := HB4.out
              rw [show (Value.int .i64 (minL y (l.take (c + 1 - 1)) k)) = .int .i64 z by rw [HMZ.out]] at hb5
              exact hb5
          · have hb4 := HBQ.out.draws 1
            rw [show minL y (l.take (c - 1)) k = minL y (l.take (c + 1 - 1)) k by rw [HNX.out, HM.out, if_neg hzm]] at hb4
            have HB4 := Lib.hid hb4
            clear hb4
            go_wp2_with fail
            go_region_held (fun W => W.cell? ⟨b, off + c, none⟩ = some vc ∧ W.cell? ⟨w.heap.size, k, none⟩ = some (.int .i64 m))
              (first | exact ⟨hccd, hcd⟩ | assumption)
              (first | (go_at_call 26; refine b1.mono ?_; rintro e _ ⟨rfl, rfl⟩))
            all_goals
              rename_i hHeld
              clear hHeld
              go_wp2_with fail
              exact ⟨⟨c + 1, by go_num, by omega, by omega, HB4.out⟩, by simp [intOf]; omega⟩
        · obtain rfl : c = n := by omega
          have hFk : F k = minL y l k := by
            rw [HF.out]
            show minL (x.getD k 0) l k = _
            rw [HY.out]
          have hb4 := hbq
          rw [show l.take (c - 1) = l from List.take_of_length_le (by have := HNL.out; simp only [List.length_cons] at this; omega), show (fun j => if j = k then minL y l k else upTo F k j) = upTo F (k + 1) by rw [← hFk]; exact upTo_next F k] at hb4
          have HB4 := Lib.hid hb4
          clear hb4 hbq hFk
          go_wp2_with fail
          exact ⟨⟨k + 1, by go_num, by omega, HB4.out⟩, by simp [intOf]; omega⟩
    · obtain rfl : k = 16 := by omega
      have hM := rMade_any (upTo F 16) wr
      rw [vMade_upTo] at hM
      have hh := hbx.1
      have hz := hbx.2
      clear hbx
      generalize upTo F 16 = g at *
      have hi' : (Tryd.prog.info? 58).map (·.size) = some (arr16 g).size := by rw [arr16_size]; exact hi
      go_wp2_with (refine wpList_load_row rfl 58 _ rfl w.heap.size rfl 58 _ (0, 0) _ hh hu rfl hi' ?_)
      refine hM.mono ?_
      rintro e w5 ⟨v5, rfl, hr5, hb5⟩
      have hzz := hz.trans (hb5.mono hz.size)
      go_wp2
      go_ret
      exact ⟨_, rfl, hr5, hzz⟩
end Go.Proofs.YthbophioohcphaaDoor
