/- The document's vectors: Merge. -/
import Derived.Test.YthbophioohcphaaDoorRefMade
import Derived.Deep.WholeRow
import Derived.Deep.RegionHeld
import Derived.Laws.ResultCell
namespace Go.Proofs.YthbophioohcphaaDoor
open Go.RowKit

theorem arr16_zero : arr16 (fun _ => 0) = Array.replicate 16 (.int .i64 0) := by
  apply Array.ext_getElem?
  intro i
  by_cases h : i < 16
  · rw [arr16_at _ i h]; simp [h]
  · rw [Array.getElem?_eq_none (by simp [arr16_size]; omega), Array.getElem?_eq_none (by simp; omega)]
theorem zero16 : (Tryd.prog.info? 58).map (fun i => (i.zero, i.size)) = some (some (.agg (Array.replicate 16 (.int .i64 0))), 16) := by kernel_rfl
/-- The counts of the first k sites, as f has them, the others 0. -/
def upTo (f : Nat → Int) (k : Nat) : Nat → Int := fun s => if s < k then f s else 0
theorem upTo_zero (f : Nat → Int) : upTo f 0 = fun _ => 0 := by funext s; simp [upTo]
theorem upTo_next (f : Nat → Int) (k : Nat) : (fun j => if j = k then f k else upTo f k j) = upTo f (k + 1) := by
  funext j
  unfold upTo
  by_cases e : j = k
  · subst e; simp
  · rw [if_neg e]
    by_cases h : j < k
    · rw [if_pos h, if_pos (by omega)]
    · rw [if_neg h, if_neg (by omega)]
theorem upTo_set (f : Nat → Int) (k : Nat) (x : Int) (y : Int) : (fun j => if j = k then y else (fun i => if i = k then x else upTo f k i) j) = fun j => if j = k then y else upTo f k j := by
  funext j
  by_cases e : j = k <;> simp [e]
theorem vMade_upTo (f : Nat → Int) : vMade (upTo f 16) = vMade f := vMade_congr fun s hs => by unfold upTo; rw [if_pos hs]
/-- The sixteen counts' box. -/
def Box16 (N : Nat) (f : Nat → Int) (w W : World) : Prop := W.heap[N]? = some (.cells (arr16 f) 58 (0, 0)) ∧ Below N w W
theorem Box16.keep {N : Nat} {f : Nat → Int} {w W W' : World} (h : Box16 N f w W) (hb : Below W.heap.size W W') : Box16 N f w W' := by
  have hl : N < W.heap.size := (Array.getElem?_eq_some_iff.1 h.1).1
  exact ⟨(hb.block N hl).trans h.1, h.2.trans (hb.mono (Nat.le_of_lt hl))⟩
theorem Box16.draws {N : Nat} {f : Nat → Int} {w W : World} (h : Box16 N f w W) (n : Nat) : Box16 N f w (W.drewN n) := ⟨h.1, below_draws h.2 n⟩
theorem Box16.set {N : Nat} {f : Nat → Int} {w W : World} (h : Box16 N f w W) (k : Nat) (x : Int) : Box16 N (fun j => if j = k then x else f j) w (W.setCell ⟨N, k, none⟩ (.int .i64 x)) := by
  refine ⟨?_, h.2.setCell (Nat.le_refl _) _⟩
  have := heap_setCell_same W N k _ _ (Value.int .i64 x) h.1
  rw [arr16_set] at this
  exact this
theorem Box16.cell {N : Nat} {f : Nat → Int} {w W : World} (h : Box16 N f w W) (k : Nat) (hk : k < 16) : W.cell? ⟨N, k, none⟩ = some (.int .i64 (f k)) := (cell_of_row _ _ k _ _ _ h.1).trans (arr16_at f k hk)
theorem Box16.frozen {N : Nat} {f : Nat → Int} {w W : World} (h : Box16 N f w W) (k : Nat) : W.frozen? ⟨N, k, none⟩ = false := frozen_of_row _ _ k _ _ h.1
theorem Reads64.over {N : Nat} {u : Value} {xs : List Int} {w W : World} {f : Nat → Int} (h : Reads64 w u xs) (hN : N = w.heap.size) (hb : Box16 N f w W) : Reads64 W u xs := h.below (by rw [← hN]; exact hb.2)
set_option maxRecDepth 100000 in
set_option maxHeartbeats 4000000 in
theorem rMerge_any (u v : Value) (xs ys : List Int) (w : World) (h1 : Reads64 w u xs) (h2 : Reads64 w v ys) (hx : xs.length ≤ 1000000000) (hy : ys.length ≤ 1000000000) :
    Calls Tryd.prog 31 #[u, v] w (MadePost (vMerge xs ys) w) := by
  obtain ⟨hz, hi⟩ := zero_of_info zero16
  have hu := Tryd.underlying58
  rw [← arr16_zero] at hz
  have hB0 : Box16 w.heap.size (upTo (fun s => if xs.getD s 0 < ys.getD s 0 then ys.getD s 0 else xs.getD s 0) 0) w (w.alloc (.cells (arr16 fun _ => 0) 58)) := ⟨by rw [upTo_zero]; exact heap_alloc_new w _, (Below.refl _ w).alloc (Nat.le_refl _) _⟩
  have HB0 := Lib.hid hB0
  clear hB0
  go_enter Tryd.func31, Tryd.ntmps31
  go_wp2
  clear hz
  go_loopw [6] (fun i wr => ∃ k : Nat, i = .int .i64 ((k : Int) + 1) ∧ k ≤ 16 ∧ Box16 w.heap.size (upTo (fun s => if xs.getD s 0 < ys.getD s 0 then ys.getD s 0 else xs.getD s 0) k) w wr) (fun i _ => 17 - (intOf i).toNat)
  case atStart => exact ⟨0, rfl, Nat.zero_le _, HB0.out⟩
  case round =>
    rename_i wr
    obtain ⟨k, rfl, hk, hbx⟩ := hrel
    rcases Nat.lt_or_ge k 16 with hlt | hge
    · have hNX : (fun j => if j = k then (if xs.getD k 0 < ys.getD k 0 then ys.getD k 0 else xs.getD k 0) else upTo (fun s => if xs.getD s 0 < ys.getD s 0 then ys.getD s 0 else xs.getD s 0) k j) = upTo (fun s => if xs.getD s 0 < ys.getD s 0 then ys.getD s 0 else xs.getD s 0) (k + 1) := upTo_next (fun s => if xs.getD s 0 < ys.getD s 0 then ys.getD s 0 else xs.getD s 0) k
      have a1 := rCount_any u xs ((k : Int) + 1) wr (h1.over rfl hbx) (by omega) hx
      rw [vCount_nat] at a1
      have hb1 := hbx.set k (xs.getD k 0)
      have b1 := rCount_any v ys ((k : Int) + 1) (wr.setCell ⟨w.heap.size, k, none⟩ (.int .i64 (xs.getD k 0))).drew (h2.over rfl (hb1.draws 1)) (by omega) hy
      rw [vCount_nat] at b1
      have hcell := hbx.cell k hlt
      have hfro := hbx.frozen k
      have hcell1 := hb1.cell k hlt
      have hfro1 := hb1.frozen k
      rw [if_pos rfl] at hcell1
      have hb2 : Box16 w.heap.size (fun j => if j = k then xs.getD k 0 else upTo (fun s => if xs.getD s 0 < ys.getD s 0 then ys.getD s 0 else xs.getD s 0) k j) w (wr.setCell ⟨w.heap.size, k, none⟩ (.int .i64 (xs.getD k 0))).drew := hb1.draws 1
      have hcell2 := hb2.cell k hlt
      have hfro2 := hb2.frozen k
      rw [if_pos rfl] at hcell2
      have HB3 := Lib.hid (hb2.set k (ys.getD k 0))
      have HB2 := Lib.hid hb2
      have HST := Lib.hid (fun y => upTo_set (fun s => if xs.getD s 0 < ys.getD s 0 then ys.getD s 0 else xs.getD s 0) k (xs.getD k 0) y)
      clear hb2
      have HNX := Lib.hid hNX
      have HB1 := Lib.hid hb1
      clear hNX hb1 hbx
      generalize xs.getD k 0 = x at *
      generalize ys.getD k 0 = y at *
      have hkt : ((k : Int) + 1 - 1).toNat = k := by omega
      clear hcell1 hfro1
      have hidx : (0 : Int) ≤ (k : Int) ∧ (k : Int) < 16 := ⟨by omega, by omega⟩
      have hwk : IntKind.i64.wrap (k : Int) = (k : Int) := by simp only [IntKind.wrap_i64]; omega
      by_cases hxy : x < y
      · rw [if_pos hxy] at HNX
        go_wp2_with fail
        refine a1.mono ?_
        clear a1
        rintro e _ ⟨rfl, rfl⟩
        go_wp2_with fail
        clear hcell hfro
        generalize wr.setCell ⟨w.heap.size, k, none⟩ (.int .i64 x) = W1 at *
        go_region_held (fun W => W.cell? ⟨w.heap.size, k, none⟩ = some (.int .i64 x))
          (first | exact hcell2 | assumption)
          (first | (go_at_call 26; refine b1.mono ?_; rintro e _ ⟨rfl, rfl⟩))
        all_goals
          rename_i hHeld
          clear hHeld
          go_wp2_with fail
          refine b1.mono ?_
          clear b1
          rintro e _ ⟨rfl, rfl⟩
          go_wp2_with fail
          have HB4 := HB3.out
          rw [HST.out, HNX.out] at HB4
          have HB5 := Lib.hid HB4
          clear HB4 HB3 HST
          go_wp2_with fail
          exact ⟨⟨k + 1, by go_num, by omega, HB5.out⟩, by simp [intOf]; omega⟩
      · rw [if_neg hxy] at HNX
        go_wp2_with fail
        refine a1.mono ?_
        clear a1
        rintro e _ ⟨rfl, rfl⟩
        go_wp2_with fail
        clear hcell hfro
        generalize wr.setCell ⟨w.heap.size, k, none⟩ (.int .i64 x) = W1 at *
        go_region_held (fun W => W.cell? ⟨w.heap.size, k, none⟩ = some (.int .i64 x))
          (first | exact hcell2 | assumption)
          (first | (go_at_call 26; refine b1.mono ?_; rintro e _ ⟨rfl, rfl⟩))
        all_goals
          rename_i hHeld
          clear hHeld
          have HB4 := HB2.out
          rw [HNX.out] at HB4
          have HB5 := Lib.hid HB4
          clear HB4 HB2 HST HB3
          go_wp2_with fail
          exact ⟨⟨k + 1, by go_num, by omega, HB5.out⟩, by simp [intOf]; omega⟩
    · obtain rfl : k = 16 := by omega
      have hM := rMade_any (upTo (fun s => if xs.getD s 0 < ys.getD s 0 then ys.getD s 0 else xs.getD s 0) 16) wr
      rw [vMade_upTo] at hM
      have hh := hbx.1
      have hz := hbx.2
      clear hbx
      generalize upTo (fun s => if xs.getD s 0 < ys.getD s 0 then ys.getD s 0 else xs.getD s 0) 16 = g at *
      have hi' : (Tryd.prog.info? 58).map (·.size) = some (arr16 g).size := by rw [arr16_size]; exact hi
      go_wp2_with (refine wpList_load_row rfl 58 _ rfl w.heap.size rfl 58 _ (0, 0) _ hh hu rfl hi' ?_)
      refine hM.mono ?_
      rintro e w5 ⟨v5, rfl, hr5, hb5⟩
      have hzz := hz.trans (hb5.mono hz.size)
      go_wp2
      go_ret
      exact ⟨_, rfl, hr5, hzz⟩
end Go.Proofs.YthbophioohcphaaDoor
