/- A buffer's parts, and the text of some runes. -/
import Derived.Test.YtpldalmodcmfaaaDoorBuf2
import Derived.Test.YtpldalmodcmfaaaDoorJoin
namespace Go.Proofs.YtpldalmodcmfaaaDoor
open Go.RowKit Go.Shelf

set_option maxRecDepth 100000 in
set_option maxHeartbeats 2000000 in
theorem parts_nil {B : Nat} {w : World} (h0 : w.cell? ⟨B, 0, none⟩ = some (.slice none 0 0)) (h1 : w.cell? ⟨B, 1, none⟩ = some (.int .i64 0)) (h2 : w.cell? ⟨B, 2, none⟩ = some (.int .i64 0)) :
    Calls Tryd.prog 49 #[.pointer (some ⟨B, 0, none⟩), .int .i64 0, .int .i64 0] w (PartsRaw none 0 0 0 0 w) := by
  have hw := fun q => width_at (B := B) (w := w.drewN q) (f := 0) (t := 0) h1 h2 (by omega)
  have hw0 := width_at (B := B) (w := w) (f := 0) (t := 0) h1 h2 (by omega)
  go_enter Tryd.func49, Tryd.ntmps49
  go_wp2_with (go_at_call 32; (first | refine hw0.mono ?_ | refine (hw _).mono ?_); rintro e _ ⟨rfl, q, rfl⟩)
  go_quiet (fail)
  go_wp2
  all_goals
    go_ret2
    exact ⟨_, _, _, _, _, _, rfl, by omega, by omega, ⟨_, by first | rfl | exact World.drewN_drewN _ _ _⟩, fun h g' hg => by first | omega | (cases hg; rfl), fun h g' hg => by first | omega | (cases hg; rfl)⟩

theorem reads_of {w : World} {ao : Option Addr} {p c g off : Nat} {xs : List Int} (hp : p = xs.length) (ha : 0 < p → ao = some ⟨g, off, none⟩) (hc : ∀ i, i < xs.length → w.cell? ⟨g, off + i, none⟩ = some (.int .i32 (xs.getD i 0))) : Reads32 w (.slice ao p c) xs := by
  subst hp
  exact ⟨ao, c, rfl, fun hx => ⟨g, off, ha (List.length_pos_iff.2 hx), hc⟩⟩

set_option maxHeartbeats 2000000 in
theorem parts_any {S : Nat → Prop} {N r B : Nat} {zs ys : List Int} {w : World} (h : Bf S N r B zs ys w) (at' n : Nat) (hn : at' + n ≤ zs.length + ys.length) :
    Calls Tryd.prog 49 #[.pointer (some ⟨B, 0, none⟩), .int .i64 at', .int .i64 n] w (PartsPost zs ys at' n w) := by
  obtain ⟨gs, ao, cap, hl, _, hc, hm, h0, h1, h2, hao⟩ := h.cells
  have l1 : ((zs.drop at').take n).length = min n (zs.length - at') := by simp
  have l2 : ((ys.drop (at' - zs.length)).take (n - (zs.length - at'))).length = min (n - (zs.length - at')) (ys.length - (at' - zs.length)) := by simp
  rcases hao with ⟨rfl, rfl, h3⟩ | ⟨g, rfl, hcell⟩
  · have hz : zs = [] := List.eq_nil_of_length_eq_zero (by omega)
    have hg : gs = [] := List.eq_nil_of_length_eq_zero (by omega)
    have hy : ys = [] := List.eq_nil_of_length_eq_zero (by omega)
    subst hz hg hy
    obtain ⟨rfl, rfl⟩ : at' = 0 ∧ n = 0 := by simp at hn; omega
    refine (parts_nil h0 h1 h2).mono ?_
    rintro e w' ⟨a1, a2, p1, p2, q1, q2, rfl, rfl, rfl, hq, _, _⟩
    exact ⟨_, _, rfl, hq, reads_of (g := 0) (off := 0) rfl (fun hh => absurd hh (by omega)) (fun i hi => absurd hi (by simp)), reads_of (g := 0) (off := 0) rfl (fun hh => absurd hh (by omega)) (fun i hi => absurd hi (by simp))⟩
  · have fin : ∀ m, ((at' < zs.length ∧ zs.length ≤ at' + n ∧ m = zs.length) ∨ (at' < zs.length ∧ at' + n < zs.length ∧ m = at' + n) ∨ (zs.length ≤ at' ∧ m = at')) → Calls Tryd.prog 49 #[.pointer (some ⟨B, 0, none⟩), .int .i64 at', .int .i64 n] w (PartsRaw (some ⟨g, 0, none⟩) gs.length at' n m w) →
        Calls Tryd.prog 49 #[.pointer (some ⟨B, 0, none⟩), .int .i64 at', .int .i64 n] w (PartsPost zs ys at' n w) := by
      intro m hm' hcall
      refine hcall.mono ?_
      rintro e w' ⟨a1, a2, p1, p2, q1, q2, rfl, hp1, hp2, ⟨q, rfl⟩, ha1, ha2⟩
      refine ⟨_, _, rfl, ⟨q, rfl⟩, reads_of (g := g) (off := at') (by omega) (fun hh => ha1 (by omega) g rfl) ?_, reads_of (g := g) (off := m + gs.length) (by omega) (fun hh => ha2 (by omega) g rfl) ?_⟩
      · intro i hi
        rw [hcell (at' + i) (by omega)]
        congr 2
        have hi1 : i < n := by omega
        have hi2 : at' + i < zs.length := by omega
        simp [List.getD, hi1, List.getElem?_append_left hi2]
      · intro i hi
        rw [hcell (m + gs.length + i) (by omega)]
        congr 2
        have hi1 : i < n - (zs.length - at') := by omega
        rw [List.getD_eq_getElem?_getD, List.getD_eq_getElem?_getD, List.getElem?_append_right (by omega), List.getElem?_append_right (by omega), List.getElem?_take, if_pos hi1, List.getElem?_drop]
        congr 2
        omega
    by_cases ca : at' < zs.length
    · by_cases cb : zs.length ≤ at' + n
      · exact fin _ (.inl ⟨ca, cb, rfl⟩) (parts_a h0 h1 h2 (by omega) hc hm (by omega) (by omega) (by omega))
      · exact fin _ (.inr (.inl ⟨ca, by omega, rfl⟩)) (parts_b h0 h1 h2 (by omega) hc hm (by omega) (by omega) (by omega))
    · exact fin _ (.inr (.inr ⟨by omega, rfl⟩)) (parts_c h0 h1 h2 (by omega) hc hm (by omega) (by omega))

/-- The runes from a place on. -/
theorem cut_parts (zs ys : List Int) (at' n : Nat) : (zs.drop at').take n ++ (ys.drop (at' - zs.length)).take (n - (zs.length - at')) = ((zs ++ ys).drop at').take n := by
  rw [List.drop_append, List.take_append, List.length_drop]

theorem joinL_le (l : List Int) : (joinL l).length ≤ 4 * l.length := joinL_length_le l

theorem join_ok (v : Value) (l : List Int) (hl : l.length ≤ 20000) (hv : allValid l = true) (w : World) (r : Reads32 w v l) :
    Calls Tryd.prog 50 #[v] w fun e w' => e = .returned (.tuple #[.string ⟨(joinL l).toArray⟩, .int .i64 0]) ∧ Below w.heap.size w w' := by
  refine (join_any v l (by omega) w r).mono ?_
  rintro e w' ⟨rfl, hb⟩
  exact ⟨by rw [if_pos hv], hb⟩
theorem ret_strB {a b : ByteArray} (h : a = b) : Ending.returned (.string a) = .returned (.string b) := by rw [h]
def TextPost (l : List Int) (w : World) (e : Ending) (w' : World) : Prop := e = .returned (.string ⟨(joinL l).toArray⟩) ∧ Below w.heap.size w w'
set_option maxRecDepth 100000 in
set_option maxHeartbeats 2000000 in
theorem text_at {S : Nat → Prop} {N r B : Nat} {zs ys : List Int} {w : World} (h : Bf S N r B zs ys w) (hv : allValid (zs ++ ys) = true) (at' n : Nat) (hn : at' + n ≤ zs.length + ys.length) :
    Calls Tryd.prog 33 #[.pointer (some ⟨B, 0, none⟩), .int .i64 at', .int .i64 n] w (TextPost (((zs ++ ys).drop at').take n) w) := by
  have hP := parts_any h at' n hn
  have hle := h.le
  have hv' := allValid_iff.1 hv
  have v1 : allValid ((zs.drop at').take n) = true := allValid_iff.2 fun r hr => hv' r (List.mem_append_left _ (List.mem_of_mem_drop (List.mem_of_mem_take hr)))
  have v2 : allValid ((ys.drop (at' - zs.length)).take (n - (zs.length - at'))) = true := allValid_iff.2 fun r hr => hv' r (List.mem_append_right _ (List.mem_of_mem_drop (List.mem_of_mem_take hr)))
  have l1 : ((zs.drop at').take n).length ≤ 20000 := by simp; omega
  have l2 : ((ys.drop (at' - zs.length)).take (n - (zs.length - at'))).length ≤ 20000 := by simp; omega
  have hcp := cut_parts zs ys at' n
  obtain ⟨L1, hL1⟩ : ∃ L1, (zs.drop at').take n = L1 := ⟨_, rfl⟩
  obtain ⟨L2, hL2⟩ : ∃ L2, (ys.drop (at' - zs.length)).take (n - (zs.length - at')) = L2 := ⟨_, rfl⟩
  rw [hL1] at v1 l1 hcp
  rw [hL2] at v2 l2 hcp
  rw [← hcp]
  unfold PartsPost at hP
  rw [hL1, hL2] at hP
  have V1 := Lib.hid v1
  have V2 := Lib.hid v2
  have j1 := joinL_le L1
  have j2 := joinL_le L2
  clear v1 v2 hcp hL1 hL2 hv hv' h hle hn
  have hj : joinL (L1 ++ L2) = joinL L1 ++ joinL L2 := joinL_append _ _
  have Hj := Lib.hid hj
  clear hj
  go_enter Tryd.func33, Tryd.ntmps33
  go_wp2_with (go_at_call 49; refine hP.mono ?_; clear hP; rintro e w1 ⟨u1, u2, rfl, ⟨q, rfl⟩, r1, r2⟩)
  have hJ1 := join_ok u1 L1 l1 V1.out (w.drewN q) r1
  go_wp2_with (go_at_call 50; refine hJ1.mono ?_; clear hJ1; rintro e w2 ⟨rfl, hb2⟩)
  have hJ2 := join_ok u2 L2 l2 V2.out w2 (Reads32.below (W := w.drewN q) r2 hb2)
  go_wp2_with (go_at_call 50; refine hJ2.mono ?_; clear hJ2; rintro e w3 ⟨rfl, hb3⟩)
  go_ret
  refine ⟨ret_strB ?_, (below_drewN (Below.refl _ w) q).trans (Below.trans (b := w2) hb2 (hb3.mono hb2.size))⟩
  rw [Hj.out]
  apply ByteArray.ext
  simp

set_option maxRecDepth 100000 in
set_option maxHeartbeats 2000000 in
theorem btext_any {S : Nat → Prop} {N r B : Nat} {zs ys : List Int} {w : World} (h : Bf S N r B zs ys w) (hv : allValid (zs ++ ys) = true) :
    Calls Tryd.prog 15 #[.pointer (some ⟨B, 0, none⟩)] w (TextPost (zs ++ ys) w) := by
  have hL := blen_any h
  have hT := fun q => text_at (h.drewN q) hv 0 (zs.length + ys.length) (by omega)
  have e : ((zs ++ ys).drop 0).take (zs.length + ys.length) = zs ++ ys := by rw [List.drop_zero, List.take_of_length_le (by simp)]
  rw [e] at hT
  have hle := h.le
  obtain ⟨m, hm⟩ : ∃ m, zs.length + ys.length = m := ⟨_, rfl⟩
  simp only [hm] at hT
  rw [hm] at hL
  clear e hm h hv hle
  go_enter Tryd.func15, Tryd.ntmps15
  go_wp2_with (first
    | (go_at_call 14; refine hL.mono ?_; clear hL; rintro e _ ⟨rfl, q, rfl⟩)
    | (go_at_call 33; refine (hT _).mono ?_; clear hT; rintro e w2 ⟨rfl, hb⟩))
  go_ret
  exact ⟨rfl, (below_drewN (Below.refl _ w) q).trans hb⟩

set_option maxRecDepth 100000 in
set_option maxHeartbeats 2000000 in
theorem slice_yes {S : Nat → Prop} {N r B : Nat} {zs ys : List Int} {w : World} (h : Bf S N r B zs ys w) (hv : allValid (zs ++ ys) = true) (at' n : Nat) (hn : at' + n ≤ zs.length + ys.length) :
    Calls Tryd.prog 28 #[.pointer (some ⟨B, 0, none⟩), .int .i64 at', .int .i64 n] w fun e w' => e = .returned (.tuple #[.string ⟨(joinL (((zs ++ ys).drop at').take n)).toArray⟩, .int .i64 0]) ∧ Below w.heap.size w w' := by
  have hL := has_any h at' n
  rw [show hasB (zs.length + ys.length) at' n = true from decide_eq_true ⟨by omega, by omega, by omega, by omega⟩] at hL
  have hT := fun q => text_at (h.drewN q) hv at' n hn
  clear h hv hn
  go_enter Tryd.func28, Tryd.ntmps28
  go_wp2_with (first
    | (go_at_call 38; refine hL.mono ?_; clear hL; rintro e _ ⟨rfl, q, rfl⟩)
    | (go_at_call 33; refine (hT _).mono ?_; clear hT; rintro e w2 ⟨rfl, hb⟩))
  go_ret2
  exact ⟨rfl, (below_drewN (Below.refl _ w) q).trans hb⟩
set_option maxRecDepth 100000 in
set_option maxHeartbeats 2000000 in
theorem slice_no {S : Nat → Prop} {N r B : Nat} {zs ys : List Int} {w : World} (h : Bf S N r B zs ys w) (at' n : Int) (hn : hasB (zs.length + ys.length) at' n = false) :
    Calls Tryd.prog 28 #[.pointer (some ⟨B, 0, none⟩), .int .i64 at', .int .i64 n] w fun e w' => e = .returned (.tuple #[.string ⟨#[]⟩, .int .i64 3]) ∧ Below w.heap.size w w' := by
  have hL := has_any h at' n
  rw [hn] at hL
  clear h hn
  go_enter Tryd.func28, Tryd.ntmps28
  go_wp2_with (go_at_call 38; refine hL.mono ?_; clear hL; rintro e _ ⟨rfl, q, rfl⟩)
  go_ret2
  exact ⟨rfl, below_drewN (Below.refl _ _) _⟩
end Go.Proofs.YtpldalmodcmfaaaDoor
