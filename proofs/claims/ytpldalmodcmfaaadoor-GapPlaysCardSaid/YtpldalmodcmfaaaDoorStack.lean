/- The stack of places, at its two types. -/
import Derived.Test.YtpldalmodcmfaaaDoorWorlds
import Derived.WalkKit
import Derived.WalkSpells
import Derived.Lib.Hide
import Derived.Deep.QuietTactic
import Derived.BigQuiet
import Derived.BigRegion
import Derived.RegionTactic
import Derived.IntWalk
import Derived.Maps.AppendAt
namespace Go.Proofs.YtpldalmodcmfaaaDoor
open Go.RowKit

/-- What push leaves: the box's cell holds the new row; its own block, and the row's, alone have turned. -/
def PushPost (B o : Nat) (cs : Array Value) (t e : TypeId) (v : Value) (xs : List Int) (p : Int) (w : World) (en : Ending) (w' : World) : Prop :=
  en = .returned (.tuple #[]) ∧ ∃ v', w'.heap[B]? = some (.cells (cs.setIfInBounds o v') t (0, 0)) ∧ Ints w' e .i64 v' (xs ++ [p]) ∧ (v'.ownBlock = v.ownBlock ∨ ∃ g, v'.ownBlock = some g ∧ w.heap.size ≤ g) ∧
    Keep (fun k => k = B ∨ v.ownBlock = some k) w.heap.size w w'

theorem infoF : (Tryd.prog.info? 93).map (fun i => (i.zero, i.size, i.bytes)) = some (some (.int .i64 0), 1, 8) := by kernel_rfl
set_option maxRecDepth 100000 in
set_option maxHeartbeats 1000000 in
theorem sizeF (B o : Nat) (cs : Array Value) (t : TypeId) (v : Value) (xs : List Int) (w : World) (hB : w.heap[B]? = some (.cells cs t (0, 0))) (ho : cs[o]? = some v) (hown : Ints w 93 .i64 v xs) :
    Calls Tryd.prog 53 #[.pointer (some ⟨B, o, none⟩)] w fun e w' => e = .returned (.int .i64 xs.length) ∧ w = w' := by
  obtain ⟨ao, cap, rfl, hc, hm, hg⟩ := hown.shape
  have hcell := (box_cell hB o).trans ho
  clear hB ho hg hown
  unfold maxLen at hm
  obtain ⟨n, hn⟩ : ∃ n, xs.length = n := ⟨_, rfl⟩
  rw [hn] at hcell hc ⊢
  clear hn
  go_enter Tryd.func53, Tryd.ntmps53
  go_wp2
  go_ret
  exact ⟨rfl, rfl⟩
set_option maxRecDepth 100000 in
set_option maxHeartbeats 1000000 in
theorem topF (B o : Nat) (cs : Array Value) (t : TypeId) (v : Value) (xs : List Int) (p : Int) (w : World) (hB : w.heap[B]? = some (.cells cs t (0, 0))) (ho : cs[o]? = some v) (hown : Ints w 93 .i64 v (xs ++ [p])) :
    Calls Tryd.prog 69 #[.pointer (some ⟨B, o, none⟩)] w fun e w' => e = .returned (.int .i64 p) ∧ ∃ q, w' = w.drewN q := by
  obtain ⟨ao, cap, rfl, hc, hm, hg⟩ := hown.shape
  obtain ⟨g, rfl⟩ := hg (by simp)
  have hcell := (box_cell hB o).trans ho
  have hp := hown.cell xs.length (by simp)
  clear hB ho hg hown
  unfold maxLen at hm
  rw [List.length_append, List.length_cons, List.length_nil] at hcell hc
  obtain ⟨n, hn⟩ : ∃ n, xs.length = n := ⟨_, rfl⟩
  simp only [List.getD_eq_getElem?_getD, List.getElem?_append_right (Nat.le_refl _), Nat.sub_self, List.getElem?_cons_zero, Option.getD_some] at hp
  rw [hn] at hcell hc hp
  clear hn
  have e1 : IntKind.i64.wrap (((n + 1 : Nat) : Int) - 1) = (n : Int) := by rw [show (((n + 1 : Nat) : Int) - 1) = (n : Int) by omega]; exact IntWalk.i64_in _ (by omega)
  have e2 : ((n : Int)).toNat = n := rfl
  have e3 : (n : Int) < ((n + 1 : Nat) : Int) := by omega
  have e4 : (0 : Int) ≤ n := by omega
  go_enter Tryd.func69, Tryd.ntmps69
  go_wp2
  go_quiet (fail)
  go_wp2
  go_ret
  exact ⟨rfl, _, rfl⟩
set_option maxRecDepth 100000 in
set_option maxHeartbeats 1000000 in
theorem pushF (B o : Nat) (cs : Array Value) (t : TypeId) (ht : t ≠ 93) (v : Value) (xs : List Int) (p : Int) (w : World) (hB : w.heap[B]? = some (.cells cs t (0, 0))) (ho : cs[o]? = some v) (hown : Ints w 93 .i64 v xs) (hl : xs.length ≤ 900000) :
    Calls Tryd.prog 61 #[.pointer (some ⟨B, o, none⟩), .int .i64 p] w (PushPost B o cs t 93 v xs p w) := by
  obtain ⟨i0, hi, hz0, hz1, hz2⟩ := info_parts infoF
  have hlt := box_lt hB
  have hne := hown.ne hB ht
  have hown0 := hown
  obtain ⟨ao, cap, hv, hc, hm, hg⟩ := hown.shape
  have hcell := (box_cell hB o).trans ho
  have hown1 : (w.alloc (.cells #[.int .i64 p] 93)).ownsRow 0 93 1 v xs.length (xs.map (Value.int .i64)) := hown.alloc _
  have hc1 : (w.alloc (.cells #[.int .i64 p] 93)).cell? ⟨w.heap.size, 0, none⟩ = some (.int .i64 p) := by rw [World.cell?_alloc_at _ _ _ _ (by simp)]; rfl
  have hB1 : (w.alloc (.cells #[.int .i64 p] 93)).heap[B]? = some (.cells cs t (0, 0)) := (Below.heap_alloc _ _ _ hlt).trans hB
  have hsz1 : (w.alloc (.cells #[.int .i64 p] 93)).heap.size = w.heap.size + 1 := by simp
  have Hown := Lib.hid hown
  have HB := Lib.hid hB
  have HB1 := Lib.hid hB1
  have Hown1 := Lib.hid hown1
  have Hv := Lib.hid hv
  have Hne := Lib.hid hne
  have Hsz1 := Lib.hid hsz1
  clear hB ho hg hown hown0 hown1 hB1 hv hne hsz1
  go_enter Tryd.func61, Tryd.ntmps61
  go_wp2_with (at_builtin; refine wpList_append_where rfl (.tmp 8) (.tmp 10) 64 rfl 93 i0 (.int .i64 0) Tryd.underlying64 hi hz0 hz1 rfl v xs.length _ rfl Hown1.out ⟨w.heap.size, 0, none⟩ 1 (.int .i64 p) rfl hc1 rfl (by omega) (by rw [hz2]; decide) ?_)
  intro v' w' h2 h3 h4
  have h2' : Ints w' 93 .i64 v' (xs ++ [p]) := by
    unfold Ints
    rw [List.length_append, List.map_append]
    exact h2
  obtain ⟨ao', cap', rfl, hc', hm', hg'⟩ := h2'.shape
  have hB2 : w'.heap[B]? = some (.cells cs t (0, 0)) := (h3.block B (by rw [Hsz1.out]; omega) (fun e => Hne.out e.symm)).trans HB1.out
  have hcell2 := (box_cell hB2 o)
  have hfz2 := (box_frozen hB2 o)
  have hcell3 : w'.cell? ⟨B, o, none⟩ = some v := by rw [h3.cell (w := w.alloc (.cells #[.int .i64 p] 93)) (a := ⟨B, o, none⟩) (v := v) (by rw [← hcell]; exact World.cell?_of_block (a := ⟨B, o, none⟩) (by rw [HB1.out, HB.out])) (by show some B ≠ _; exact fun e => Hne.out e.symm)]
  have H2 := Lib.hid h2'
  have H3 := Lib.hid h3
  have H4 := Lib.hid h4
  have HB2 := Lib.hid hB2
  have Hl : ((xs.length + 1 : Nat)) = (xs ++ [p]).length := by simp
  clear h2 h2' h3 h4 hB2 hcell2 hg' Hl
  go_wp2
  go_end0
  have H2' := H2.out
  have H4' := H4.out
  simp only [List.length_append, List.length_cons, List.length_nil, Nat.zero_add] at H2' H4'
  refine ⟨rfl, _, box_set HB2.out o _, ?_, ?_, ?_⟩
  · exact H2'.of_kept fun g hgo => box_other (fun e => H2'.ne HB2.out ht (by rw [hgo, e])) _ _
  · rcases H4' with h | h
    · exact .inl h
    · exact .inr ⟨_, h, Nat.le_succ _⟩
  · exact (((Keep.refl _ _ w).alloc (Nat.le_refl _) _).grown H3.out (by rw [Hsz1.out]; omega) (fun g hgr => .inl (.inr hgr))).setCell (.inl (.inl rfl)) _
set_option maxRecDepth 100000 in
set_option maxHeartbeats 1000000 in
theorem popF (B o : Nat) (cs : Array Value) (t : TypeId) (v : Value) (xs : List Int) (p : Int) (w : World) (hB : w.heap[B]? = some (.cells cs t (0, 0))) (ho : cs[o]? = some v) (hown : Ints w 93 .i64 v (xs ++ [p])) :
    Calls Tryd.prog 71 #[.pointer (some ⟨B, o, none⟩)] w fun e w' => e = .returned (.int .i64 p) ∧ ∃ g cap q, v = .slice (some ⟨g, 0, none⟩) (xs.length + 1) cap ∧ w' = (w.drewN q).setCell ⟨B, o, none⟩ (.slice (some ⟨g, 0, none⟩) xs.length cap) := by
  have hT := topF B o cs t v xs p w hB ho hown
  obtain ⟨ao, cap, rfl, hc, hm, hg⟩ := hown.shape
  obtain ⟨g, rfl⟩ := hg (by simp)
  have hcell := (box_cell hB o).trans ho
  have hfz := box_frozen hB o
  clear hB ho hg hown
  unfold maxLen at hm
  rw [List.length_append, List.length_cons, List.length_nil] at hcell hc ⊢
  obtain ⟨n, hn⟩ : ∃ n, xs.length = n := ⟨_, rfl⟩
  rw [hn] at hcell hc ⊢
  clear hn
  have e1 : IntKind.i64.wrap (((n + 1 : Nat) : Int) - 1) = (n : Int) := by rw [show (((n + 1 : Nat) : Int) - 1) = (n : Int) by omega]; exact IntWalk.i64_in _ (by omega)
  have e2 : ((n : Int)).toNat = n := rfl
  have e4 : (0 : Int) ≤ n := by omega
  have e5 : (n : Int) ≤ cap := by omega
  go_enter Tryd.func71, Tryd.ntmps71
  go_wp2_with (go_at_call 69; refine hT.mono ?_; clear hT; rintro e w' ⟨rfl, q, rfl⟩)
  go_region
  all_goals
    go_wp2
    go_ret
    exact ⟨rfl, g, cap, _, rfl, rfl⟩

theorem infoK : (Tryd.prog.info? 94).map (fun i => (i.zero, i.size, i.bytes)) = some (some (.int .i64 0), 1, 8) := by kernel_rfl
set_option maxRecDepth 100000 in
set_option maxHeartbeats 1000000 in
theorem sizeK (B o : Nat) (cs : Array Value) (t : TypeId) (v : Value) (xs : List Int) (w : World) (hB : w.heap[B]? = some (.cells cs t (0, 0))) (ho : cs[o]? = some v) (hown : Ints w 94 .i64 v xs) :
    Calls Tryd.prog 54 #[.pointer (some ⟨B, o, none⟩)] w fun e w' => e = .returned (.int .i64 xs.length) ∧ w = w' := by
  obtain ⟨ao, cap, rfl, hc, hm, hg⟩ := hown.shape
  have hcell := (box_cell hB o).trans ho
  clear hB ho hg hown
  unfold maxLen at hm
  obtain ⟨n, hn⟩ : ∃ n, xs.length = n := ⟨_, rfl⟩
  rw [hn] at hcell hc ⊢
  clear hn
  go_enter Tryd.func54, Tryd.ntmps54
  go_wp2
  go_ret
  exact ⟨rfl, rfl⟩
set_option maxRecDepth 100000 in
set_option maxHeartbeats 1000000 in
theorem topK (B o : Nat) (cs : Array Value) (t : TypeId) (v : Value) (xs : List Int) (p : Int) (w : World) (hB : w.heap[B]? = some (.cells cs t (0, 0))) (ho : cs[o]? = some v) (hown : Ints w 94 .i64 v (xs ++ [p])) :
    Calls Tryd.prog 62 #[.pointer (some ⟨B, o, none⟩)] w fun e w' => e = .returned (.int .i64 p) ∧ ∃ q, w' = w.drewN q := by
  obtain ⟨ao, cap, rfl, hc, hm, hg⟩ := hown.shape
  obtain ⟨g, rfl⟩ := hg (by simp)
  have hcell := (box_cell hB o).trans ho
  have hp := hown.cell xs.length (by simp)
  clear hB ho hg hown
  unfold maxLen at hm
  rw [List.length_append, List.length_cons, List.length_nil] at hcell hc
  obtain ⟨n, hn⟩ : ∃ n, xs.length = n := ⟨_, rfl⟩
  simp only [List.getD_eq_getElem?_getD, List.getElem?_append_right (Nat.le_refl _), Nat.sub_self, List.getElem?_cons_zero, Option.getD_some] at hp
  rw [hn] at hcell hc hp
  clear hn
  have e1 : IntKind.i64.wrap (((n + 1 : Nat) : Int) - 1) = (n : Int) := by rw [show (((n + 1 : Nat) : Int) - 1) = (n : Int) by omega]; exact IntWalk.i64_in _ (by omega)
  have e2 : ((n : Int)).toNat = n := rfl
  have e3 : (n : Int) < ((n + 1 : Nat) : Int) := by omega
  have e4 : (0 : Int) ≤ n := by omega
  go_enter Tryd.func62, Tryd.ntmps62
  go_wp2
  go_quiet (fail)
  go_wp2
  go_ret
  exact ⟨rfl, _, rfl⟩
set_option maxRecDepth 100000 in
set_option maxHeartbeats 1000000 in
theorem pushK (B o : Nat) (cs : Array Value) (t : TypeId) (ht : t ≠ 94) (v : Value) (xs : List Int) (p : Int) (w : World) (hB : w.heap[B]? = some (.cells cs t (0, 0))) (ho : cs[o]? = some v) (hown : Ints w 94 .i64 v xs) (hl : xs.length ≤ 900000) :
    Calls Tryd.prog 70 #[.pointer (some ⟨B, o, none⟩), .int .i64 p] w (PushPost B o cs t 94 v xs p w) := by
  obtain ⟨i0, hi, hz0, hz1, hz2⟩ := info_parts infoK
  have hlt := box_lt hB
  have hne := hown.ne hB ht
  have hown0 := hown
  obtain ⟨ao, cap, hv, hc, hm, hg⟩ := hown.shape
  have hcell := (box_cell hB o).trans ho
  have hown1 : (w.alloc (.cells #[.int .i64 p] 94)).ownsRow 0 94 1 v xs.length (xs.map (Value.int .i64)) := hown.alloc _
  have hc1 : (w.alloc (.cells #[.int .i64 p] 94)).cell? ⟨w.heap.size, 0, none⟩ = some (.int .i64 p) := by rw [World.cell?_alloc_at _ _ _ _ (by simp)]; rfl
  have hB1 : (w.alloc (.cells #[.int .i64 p] 94)).heap[B]? = some (.cells cs t (0, 0)) := (Below.heap_alloc _ _ _ hlt).trans hB
  have hsz1 : (w.alloc (.cells #[.int .i64 p] 94)).heap.size = w.heap.size + 1 := by simp
  have Hown := Lib.hid hown
  have HB := Lib.hid hB
  have HB1 := Lib.hid hB1
  have Hown1 := Lib.hid hown1
  have Hv := Lib.hid hv
  have Hne := Lib.hid hne
  have Hsz1 := Lib.hid hsz1
  clear hB ho hg hown hown0 hown1 hB1 hv hne hsz1
  go_enter Tryd.func70, Tryd.ntmps70
  go_wp2_with (at_builtin; refine wpList_append_where rfl (.tmp 8) (.tmp 10) 67 rfl 94 i0 (.int .i64 0) Tryd.underlying67 hi hz0 hz1 rfl v xs.length _ rfl Hown1.out ⟨w.heap.size, 0, none⟩ 1 (.int .i64 p) rfl hc1 rfl (by omega) (by rw [hz2]; decide) ?_)
  intro v' w' h2 h3 h4
  have h2' : Ints w' 94 .i64 v' (xs ++ [p]) := by
    unfold Ints
    rw [List.length_append, List.map_append]
    exact h2
  obtain ⟨ao', cap', rfl, hc', hm', hg'⟩ := h2'.shape
  have hB2 : w'.heap[B]? = some (.cells cs t (0, 0)) := (h3.block B (by rw [Hsz1.out]; omega) (fun e => Hne.out e.symm)).trans HB1.out
  have hcell2 := (box_cell hB2 o)
  have hfz2 := (box_frozen hB2 o)
  have hcell3 : w'.cell? ⟨B, o, none⟩ = some v := by rw [h3.cell (w := w.alloc (.cells #[.int .i64 p] 94)) (a := ⟨B, o, none⟩) (v := v) (by rw [← hcell]; exact World.cell?_of_block (a := ⟨B, o, none⟩) (by rw [HB1.out, HB.out])) (by show some B ≠ _; exact fun e => Hne.out e.symm)]
  have H2 := Lib.hid h2'
  have H3 := Lib.hid h3
  have H4 := Lib.hid h4
  have HB2 := Lib.hid hB2
  have Hl : ((xs.length + 1 : Nat)) = (xs ++ [p]).length := by simp
  clear h2 h2' h3 h4 hB2 hcell2 hg' Hl
  go_wp2
  go_end0
  have H2' := H2.out
  have H4' := H4.out
  simp only [List.length_append, List.length_cons, List.length_nil, Nat.zero_add] at H2' H4'
  refine ⟨rfl, _, box_set HB2.out o _, ?_, ?_, ?_⟩
  · exact H2'.of_kept fun g hgo => box_other (fun e => H2'.ne HB2.out ht (by rw [hgo, e])) _ _
  · rcases H4' with h | h
    · exact .inl h
    · exact .inr ⟨_, h, Nat.le_succ _⟩
  · exact (((Keep.refl _ _ w).alloc (Nat.le_refl _) _).grown H3.out (by rw [Hsz1.out]; omega) (fun g hgr => .inl (.inr hgr))).setCell (.inl (.inl rfl)) _
set_option maxRecDepth 100000 in
set_option maxHeartbeats 1000000 in
theorem popK (B o : Nat) (cs : Array Value) (t : TypeId) (v : Value) (xs : List Int) (p : Int) (w : World) (hB : w.heap[B]? = some (.cells cs t (0, 0))) (ho : cs[o]? = some v) (hown : Ints w 94 .i64 v (xs ++ [p])) :
    Calls Tryd.prog 63 #[.pointer (some ⟨B, o, none⟩)] w fun e w' => e = .returned (.int .i64 p) ∧ ∃ g cap q, v = .slice (some ⟨g, 0, none⟩) (xs.length + 1) cap ∧ w' = (w.drewN q).setCell ⟨B, o, none⟩ (.slice (some ⟨g, 0, none⟩) xs.length cap) := by
  have hT := topK B o cs t v xs p w hB ho hown
  obtain ⟨ao, cap, rfl, hc, hm, hg⟩ := hown.shape
  obtain ⟨g, rfl⟩ := hg (by simp)
  have hcell := (box_cell hB o).trans ho
  have hfz := box_frozen hB o
  clear hB ho hg hown
  unfold maxLen at hm
  rw [List.length_append, List.length_cons, List.length_nil] at hcell hc ⊢
  obtain ⟨n, hn⟩ : ∃ n, xs.length = n := ⟨_, rfl⟩
  rw [hn] at hcell hc ⊢
  clear hn
  have e1 : IntKind.i64.wrap (((n + 1 : Nat) : Int) - 1) = (n : Int) := by rw [show (((n + 1 : Nat) : Int) - 1) = (n : Int) by omega]; exact IntWalk.i64_in _ (by omega)
  have e2 : ((n : Int)).toNat = n := rfl
  have e4 : (0 : Int) ≤ n := by omega
  have e5 : (n : Int) ≤ cap := by omega
  go_enter Tryd.func63, Tryd.ntmps63
  go_wp2_with (go_at_call 62; refine hT.mono ?_; clear hT; rintro e w' ⟨rfl, q, rfl⟩)
  go_region
  all_goals
    go_wp2
    go_ret
    exact ⟨rfl, g, cap, _, rfl, rfl⟩
end Go.Proofs.YtpldalmodcmfaaaDoor
