/- The program's frames: Get. -/
import Derived.Test.YtckknopjhmpnhaaFrameFields
import Derived.Test.YtckknopjhmpnhaaFrameEnds
import Derived.Test.YtckknopjhmpnhaaFrameOf
namespace Go.Proofs.Ytckknopjhmpnhaa
open Go.RowKit Go.Shelf

theorem numS_suf {l : List UInt8} {e : Int} {most : Nat} {l' : List UInt8} {e' : Int} {n : Nat} (h : numS (l, e) most = ((l', e'), n)) : ∃ pre, l = pre ++ l' := by
  unfold numS at h
  split at h
  · split at h
    · cases h; exact ⟨[], rfl⟩
    · rename_i k _
      cases h; exact ⟨l.take k, (List.take_append_drop _ _).symm⟩
  · cases h; exact ⟨[], rfl⟩
theorem textS_suf {l : List UInt8} {e : Int} {most : Nat} {l' x : List UInt8} {e' : Int} (h : textS (l, e) most = ((l', e'), x)) : ∃ pre, l = pre ++ l' := by
  unfold textS at h
  split at h
  · split at h
    · cases h; exact ⟨[], rfl⟩
    · rename_i n k _
      cases h
      refine ⟨l.take k ++ (l.drop k).take n, ?_⟩
      rw [List.append_assoc, List.take_append_drop, List.take_append_drop]
  · cases h; exact ⟨[], rfl⟩
theorem looks (L : List UInt8) (r : List UInt8 × Int) (X : Except Int Fr) :
    (if r.2 ≠ 0 then .error r.2 else if r.1.length < 4 then .error 8 else if 4 < r.1.length then .error 11 else if sumB (L.take (L.length - 4)) ≠ r.1 then .error 10 else X) = if endC L r ≠ 0 then .error (endC L r) else X := by
  by_cases h3 : r.2 = 0
  · rw [if_neg (fun q => q h3)]
    by_cases h4 : r.1.length < 4
    · rw [show endC L r = 8 by unfold endC; rw [if_neg (fun q => q h3), if_pos h4], if_pos h4, if_pos (by decide)]
    · rw [if_neg h4]
      by_cases h5 : 4 < r.1.length
      · rw [show endC L r = 11 by unfold endC; rw [if_neg (fun q => q h3), if_neg h4, if_pos h5], if_pos h5, if_pos (by decide)]
      · rw [if_neg h5]
        by_cases h6 : sumB (L.take (L.length - 4)) = r.1
        · rw [show endC L r = 0 by unfold endC sumC; rw [if_neg (fun q => q h3), if_neg h4, if_neg h5, if_pos h6], if_neg (fun q => q h6), if_neg (fun q => q rfl)]
        · rw [show endC L r = 10 by unfold endC sumC; rw [if_neg (fun q => q h3), if_neg h4, if_neg h5, if_neg h6], if_pos h6, if_pos (by decide)]
  · rw [show endC L r = r.2 by unfold endC; rw [if_pos h3]]
    rw [if_pos h3, if_pos h3]
/-- Get, by its three looks. -/
theorem frGet_looks (L : List UInt8) : frGet L = if begC L ≠ 0 then .error (begC L) else
    (let r := frRead (L.getD 2 0 == 1) (L.drop 3)
     if endC L r.1 ≠ 0 then .error (endC L r.1)
     else if frMay ⟨(L.getD 2 0).toNat, r.2.1, r.2.2.1, r.2.2.2.1, r.2.2.2.2⟩ then .ok ⟨(L.getD 2 0).toNat, r.2.1, r.2.2.1, r.2.2.2.1, r.2.2.2.2⟩ else .error 9) := by
  unfold frGet begC
  by_cases h1 : L.length < 3
  · rw [if_pos h1, if_pos h1, if_pos (by decide)]
  · rw [if_neg h1, if_neg h1]
    by_cases h2 : L.getD 0 0 ≠ 70 ∨ L.getD 1 0 ≠ 83 ∨ (L.getD 2 0 ≠ 1 ∧ L.getD 2 0 ≠ 2)
    · rw [if_pos h2, if_pos h2, if_pos (by decide)]
    · rw [if_neg h2, if_neg h2, if_neg (fun q : (0 : Int) ≠ 0 => q rfl)]
      exact looks L _ _
/-- Get's answer out of its box. -/
theorem pfr_result {fn : Func} {p u : Tmp} (hfn : fn.results = #[.cell p 28, .tmp u]) (tmps : Array Value) (W : World) (g : Nat) (cs : Array Value) (c : Value) (hp : tmps.getD p undef = .pointer (some ⟨g, 0, none⟩)) (hc : tmps.getD u undef = c)
    (hg : W.heap[g]? = some (.cells cs 28 (0, 0))) (h5 : cs.size = 5) : (results fn tmps).run Try.prog W = .ok (.tuple #[.agg cs, c]) W := by
  rw [results_cell_tmp hfn, hp, hc]
  have hl := run_loadVar_row (P := Try.prog) W g 28 28 cs (0, 0) _ hg Try.underlying28 rfl (by rw [h5]; exact info28)
  simp [asAddr, Result.andThen, hl]
/-- How far the loop over the fields came: what of the bytes is left, what is in the frame. -/
def GetAt (F B : Nat) (W1 : World) (r : List UInt8) (e : Int) (k s q a : Int) (b : ByteArray) (W : World) : Prop := Keep (fun k => k = B ∨ k = F) W1.heap.size W1 W ∧ Rd B ⟨r.toArray⟩ e W ∧ Fm F k s q a b W
set_option maxRecDepth 100000 in
set_option maxHeartbeats 4000000 in
theorem pFGet_bad (s : ByteArray) (w : World) (hs : s.size ≤ 1000000) (hb : begC s.data.toList ≠ 0) :
    Calls Try.prog 14 #[.string s] w fun e w' => e = .returned (getV (frGet s.data.toList)) ∧ Below w.heap.size w w' := by
  have HG := Lib.hid (show frGet s.data.toList = .error (begC s.data.toList) by rw [frGet_looks, if_pos hb])
  have hB := fun w => begins_any s w hs
  have hbb : (begC s.data.toList != 0) = true := by simpa using hb
  generalize begC s.data.toList = c at *
  go_enter Try.func14, Try.ntmps14
  go_wp2_with fail
  refine (hB _).mono ?_
  rintro e _ ⟨rfl, rfl⟩
  go_wp2
  exact bodyPost_ret (pfr_result (fn := Try.f14) (p := 2) (u := 3) rfl _ _ w.heap.size _ _ rfl rfl (heap_alloc_new w _) rfl) rfl ⟨by rw [HG.out]; rfl, (Below.refl _ w).alloc (Nat.le_refl _) _⟩
end Go.Proofs.Ytckknopjhmpnhaa
