/- Split: the runes of a text. -/
import Derived.Test.YtpldalmodcmfaaaDoorLen
import Derived.Maps.AppendAt
namespace Go.Proofs.YtpldalmodcmfaaaDoor
open Go.RowKit Go.Shelf
attribute [local go_sem] Oper.semAt_some

theorem infoI32 : (Tryd.prog.info? 21).map (fun i => (i.zero, i.size, i.bytes)) = some (some (.int .i32 0), 1, 4) := by kernel_rfl

set_option maxHeartbeats 1000000 in
theorem split_none (s : ByteArray) (hs : s.size ≤ 1000000) (w : World) (hT : Lib.Utf8Tabs 0 1 w) (hr : runesL s.data.toList = none) :
    Calls Tryd.prog 43 #[.string s] w fun e W' => e = .returned (.tuple #[.slice none 0 0, .int .i64 2]) ∧ Below w.heap.size w W' := by
  have hL := len_any s (by unfold maxLen; omega) w hT
  rw [lenL_none hr] at hL
  refine (callsIn_wide (n := 5)).1 ?_
  refine callsIn_of_wp_marks Tryd.func43 rfl trivial ?_ rfl
  simp only [Tryd.ntmps43, List.size_toArray, List.length_cons, List.length_nil, Nat.reduceAdd, Nat.reduceSub, Array.replicate_succ, Array.replicate_zero, List.push_toArray, List.append_toArray, List.nil_append, List.cons_append]
  clear hr
  gi_wp2_with (refine ⟨trivial, ?_⟩; gi_at_call 42; refine (callsIn_wide.2 hL).mono ?_; rintro e w1 ⟨rfl, hb⟩)
  exact ⟨.tuple #[.slice none 0 0, .int .i64 2], by simp [results, Tryd.f43, go_sem], rfl, hb⟩

set_option maxRecDepth 100000 in
set_option maxHeartbeats 2000000 in
theorem split_some (s : ByteArray) (hs : s.size ≤ 1000000) (w : World) (hT : Lib.Utf8Tabs 0 1 w) (rs : List Int) (hr : runesL s.data.toList = some rs) :
    Calls Tryd.prog 43 #[.string s] w fun e W' => ∃ v, e = .returned (.tuple #[v, .int .i64 0]) ∧ W'.ownsRow w.heap.size 21 1 v rs.length (rs.map (Value.int .i32)) ∧ Below w.heap.size w W' := by
  have hL := len_any s (by unfold maxLen; omega) w hT
  rw [lenL_some hr] at hL
  obtain ⟨i0, hi, hz0, hz1, hz2⟩ := info_parts infoI32
  have hlen : rs.length ≤ s.size := by
    have h1 := itF_length s.data.toList.length 0 s.data.toList (Nat.le_refl _)
    rw [itF_some _ 0 _ rs (Nat.le_refl _) hr, ← Lib.size_eq] at h1
    have h2 := congrArg List.length (placesL_snd 0 rs)
    rw [List.length_map] at h2
    omega
  have hit : itL 0 s.data.toList = placesL 0 rs := itF_some _ 0 _ rs (Nat.le_refl _) hr
  clear hr
  refine (callsIn_wide (n := 5)).1 ?_
  refine callsIn_of_wp_marks Tryd.func43 rfl trivial ?_ rfl
  simp only [Tryd.ntmps43, List.size_toArray, List.length_cons, List.length_nil, Nat.reduceAdd, Nat.reduceSub, Array.replicate_succ, Array.replicate_zero, List.push_toArray, List.append_toArray, List.nil_append, List.cons_append]
  have Hit := Lib.hid hit
  clear hit
  gi_wp2_with (first
    | (refine ⟨trivial, ?_⟩; gi_at_call 42; refine (callsIn_wide.2 hL).mono ?_; clear hL; rintro e w1 ⟨rfl, hb⟩)
    | (gi_at_make; refine wpListIn_make_own _ rfl _ _ 29 rfl w.heap.size 21 i0 (.int .i32 0) 1 Tryd.underlying29 hi hz0 hz1 _ _ _ rs.length rfl rfl rfl (by rw [hz2]; omega) (by unfold maxLen; omega) (by have := hb.size; simp; omega) ?_; intro w2 hown hgr)
    | (refine ⟨trivial, ?_⟩; gi_at_call 59; refine (callsIn_wide.2 (along_any s _)).mono ?_; rintro e w1 ⟨rfl, rfl⟩))
  have hsz := hb.size
  have hsz2 := hgr.size
  have bO := Boxed.new w2 29 (.slice (some ⟨w1.heap.size, 0, none⟩) 0 rs.length)
  have bS := Boxed.new (w2.alloc (.cells #[.slice (some ⟨w1.heap.size, 0, none⟩) 0 rs.length] 29)) 9 (.string s)
  rw [World.size_alloc] at bS
  have hB2 : Below w.heap.size w w2 := hb.grown hgr hb.size (fun k e => by cases e)
  have hB0 : Below w.heap.size w ((w2.alloc (.cells #[.slice (some ⟨w1.heap.size, 0, none⟩) 0 rs.length] 29)).alloc (.cells #[.string s] 9)) := (hB2.alloc hB2.size _).alloc (by simp; omega) _
  refine wpIn_rangeFunc_ownG rfl (by decide) (gf := 67) (lb := #[.pointer (some ⟨w2.heap.size + 1, 0, none⟩)]) rfl trivial (enters_of Tryd.func67 (by kernel_rfl) rfl)
    (along_stops 4 (by decide) (w2.heap.size + 1) s (by unfold maxLen; omega) w hT _ hB0 (by simp) bS.cell) (fun h k => kp_t h k) (kp_b (by simp; omega) (by simp)) (Below.refl _ _) (fun _ => rfl)
    (fun pre W => (∃ v, Boxed W w2.heap.size 29 v ∧ W.ownsRow w.heap.size 21 1 v pre.length ((pre.map (·.2)).map (Value.int .i32)) ∧ True) ∧ (Boxed W (w2.heap.size + 1) 9 (.string s) ∧ Below w.heap.size w W))
    (fun _ _ _ => False)
    (OwnFrom.and (Own.from (holdsRow_own w.heap.size w2.heap.size 29 21 1 (fun pre : List (Nat × Int) => pre.length) (fun pre => (pre.map (·.2)).map (Value.int .i32)) (fun _ _ => True)) _) (OwnFrom.and (Own.from (boxed_own _ _ _) _) (ownFrom_below (Nat.le_refl _) (by simp; omega))))
    (fun _ _ _ _ _ hs _ _ => hs)
    ⟨⟨_, bO.alloc _, (hown.alloc _).alloc _, trivial⟩, bS, hB0⟩
    (fun x => { tmps := #[.string s, undef, .slice none 0 0, .int .i64 0, .int .i64 rs.length, .pointer (some ⟨w2.heap.size, 0, none⟩), undef, .int .i32 x.2, .string s, .int .i64 rs.length, .int .i64 rs.length, .bool (decide ((rs.length : Int) < 0)), .int .i64 rs.length, .slice (some ⟨w1.heap.size, 0, none⟩) 0 rs.length, .string s, .func (.func 67) #[] #[.pointer (some ⟨w2.heap.size + 1, 0, none⟩)], .int .i64 x.1, .int .i32 x.2, undef, undef, undef, undef, undef], defers := [] }) ?assign ?body ?done ?stop
  case assign =>
    intro l x W K hK
    gi_wp2
    exact hK
  case body =>
    rintro l pre x W ⟨⟨v, hv, hrow, _⟩, hS, hB⟩ hlt
    have hc := hv.cell
    gi_wp2_with (gi_at_builtin; go_must (refine wpListIn_append_own _ rfl _ _ 29 rfl w.heap.size 21 i0 (.int .i32 0) 1 4 Tryd.underlying29 hi hz0 hz1 hz2 rfl (by decide) _ _ _ rfl (hrow.alloc _) ⟨W.heap.size, 0, none⟩ 1 1 [.int .i32 x.2] rfl rfl (cell_one_new _ _ _) (by simp [Value.oneCell']) (by unfold maxLen; omega) (by omega) (by have := hB.size; simp; omega) ?_; intro v' w3 hown' hgrow _; obtain ⟨g', cap', rfl⟩ := ownsRow_succ hown'; obtain ⟨hv1, hv2, hr2, hk2, hb2⟩ := hv.appended (by decide) hrow hB.size (by omega) hown' hgrow; have hc1 := hv1.cell; have hf1 := hv1.frozen))
    have hS3 := ((hS.alloc _).kept hgrow (hS.not_row (by decide) hrow)).other (B' := w2.heap.size) (by omega) (.slice (some ⟨g', 0, none⟩) (pre.length + 1) cap')
    exact ⟨hk2.from _, ⟨hb2, hS3.cell.trans hS.cell.symm⟩, ⟨_, hv2, by simpa using hr2, trivial⟩, hS3, hB.trans hb2⟩
  case done =>
    rintro D ys W hD rfl ⟨⟨v, hv, hrow, _⟩, hS, hB⟩ hK
    have hc := hv.cell
    have hps := placesL_snd 0 rs
    rw [Hit.out] at hrow
    rw [hps] at hrow
    have hpl : (placesL 0 rs).length = rs.length := by
      have h2 := congrArg List.length (placesL_snd 0 rs)
      rwa [List.length_map] at h2
    rw [hpl] at hrow
    clear hpl hps
    gi_wp2
    refine ⟨by simp, .inl ⟨_, _, rfl, run_takeDeferred hK, ?_⟩⟩
    exact ⟨.tuple #[v, .int .i64 0], by simp [results, Tryd.f43, go_sem], v, rfl, ownsRow_putObj hrow _ hK rfl, hB.trans (belowK_b (w := w) (Nat.le_refl _) W D _ _ (by simp at hD; omega) hK rfl rfl)⟩
  case stop =>
    rintro D c pre W _ _ h _
    exact h.elim
end Go.Proofs.YtpldalmodcmfaaaDoor
