/- Plain facts on lines and places. -/
import Derived.Test.YtpldalmodcmfaaaDoorGapAlive
namespace Go.Proofs.YtpldalmodcmfaaaDoor

theorem cnt_spec {P : List Int} (hP : P.Pairwise (· < ·)) (m : Int) : (∀ k, k < cnt P m → P.getD k 0 < m) ∧ (∀ k, cnt P m ≤ k → k < P.length → m ≤ P.getD k 0) := by
  induction P with
  | nil => simp [cnt]
  | cons p P ih =>
    have hp := List.pairwise_cons.1 hP
    obtain ⟨i1, i2⟩ := ih hp.2
    unfold cnt at i1 i2 ⊢
    by_cases h : p < m
    · rw [List.countP_cons_of_pos (by simpa using h)]
      refine ⟨fun k hk => ?_, fun k hk hl => ?_⟩
      · cases k with
        | zero => simpa using h
        | succ k => simpa using i1 k (by omega)
      · cases k with
        | zero => omega
        | succ k => simpa using i2 k (by omega) (by simpa using hl)
    · have h0 : P.countP (fun q => decide (q < m)) = 0 := by
        rw [List.countP_eq_zero]
        intro q hq
        have := hp.1 q hq
        simp; omega
      rw [List.countP_cons_of_neg (by simpa using h), h0]
      refine ⟨fun k hk => by omega, fun k _ hl => ?_⟩
      cases k with
      | zero => simp; omega
      | succ k =>
        have hk : k < P.length := by simpa using hl
        have := hp.1 _ (List.getElem_mem hk)
        simp [List.getD, hk]; omega

/-- Place and At go there and back. -/
theorem at_place (xs : List Int) (a : Nat) (ha : a ≤ xs.length) : atX xs (cnt (fd xs) a) ((a : Int) - begL xs (cnt (fd xs) a)) = ((a : Int), 0) := by
  have hs := cnt_spec (P := fd xs) (lfs_sorted 0 xs) (a : Int)
  have hc := cnt_le (fd xs) (a : Int)
  have hb : begL xs (cnt (fd xs) a) ≤ a := by
    unfold begL
    split
    · omega
    · have := hs.1 (cnt (fd xs) a - 1) (by omega)
      have e : (fd xs).getD (cnt (fd xs) a - 1) 0 < a := this
      omega
  have he : (a : Int) ≤ endL xs (cnt (fd xs) a) := by
    unfold endL
    split
    · omega
    · rename_i h
      exact hs.2 (cnt (fd xs) a) (Nat.le_refl _) (by omega)
  unfold atX
  rw [Int.toNat_natCast, if_pos ⟨by omega, by omega, by omega, by omega⟩]
  congr 1
  omega

theorem text_of {s : ByteArray} {xs : List Int} (h : runesL s.data.toList = some xs) : (⟨(joinL xs).toArray⟩ : ByteArray) = s ∧ allValid xs = true := by
  obtain ⟨e, hv⟩ := runesL_join h
  refine ⟨?_, allValid_iff.2 hv⟩
  rw [← e]
theorem insX_zero {xs : List Int} {a : Int} {o : Option (List Int)} (h : (insX xs a o).2 = 0) : ∃ l k, o = some l ∧ a = (k : Nat) ∧ k ≤ xs.length ∧ xs.length + l.length ≤ 20000 ∧ (insX xs a o).1 = xs.take k ++ (l ++ xs.drop k) := by
  unfold insX at h ⊢
  cases o with
  | none => simp at h
  | some l =>
    simp only at h ⊢
    by_cases ha : 0 ≤ a ∧ a ≤ xs.length
    · by_cases hf : xs.length + l.length ≤ 20000
      · rw [if_pos ha, if_pos hf]
        exact ⟨l, a.toNat, rfl, by omega, by omega, hf, rfl⟩
      · rw [if_pos ha, if_neg hf] at h; simp at h
    · rw [if_neg ha] at h; simp at h
theorem insX_nonzero {xs : List Int} {a : Int} {o : Option (List Int)} (h : (insX xs a o).2 ≠ 0) : (insX xs a o).1 = xs := by
  unfold insX at h ⊢
  cases o with
  | none => rfl
  | some l =>
    simp only at h ⊢
    split
    · split
      · rename_i h1 h2; rw [if_pos h1, if_pos h2] at h; exact absurd rfl h
      · rfl
    · rfl
/-- What goes in and out again leaves what was. -/
theorem del_ins (xs l : List Int) (k : Nat) (hk : k ≤ xs.length) : delX (xs.take k ++ (l ++ xs.drop k)) k l.length = (xs, 0) := by
  have e1 : (xs.take k ++ (l ++ xs.drop k)).length = xs.length + l.length := by simp; omega
  have lk : (xs.take k).length = k := by rw [List.length_take]; omega
  unfold delX
  rw [show hasB (xs.take k ++ (l ++ xs.drop k)).length k l.length = true from decide_eq_true ⟨by omega, by omega, by omega, by omega⟩, if_pos rfl, Int.toNat_natCast, Int.toNat_natCast]
  have e2 : (xs.take k ++ (l ++ xs.drop k)).take k = xs.take k := List.take_left' lk
  have e3 : (xs.take k ++ (l ++ xs.drop k)).drop (k + l.length) = xs.drop k := by
    rw [← List.drop_drop, List.drop_left' lk, List.drop_left]
  rw [e2, e3, List.take_append_drop]
theorem cut_ins (xs l : List Int) (k : Nat) (hk : k ≤ xs.length) : ((xs.take k ++ (l ++ xs.drop k)).drop k).take l.length = l := by
  have lk : (xs.take k).length = k := by rw [List.length_take]; omega
  rw [List.drop_left' lk, List.take_left]
end Go.Proofs.YtpldalmodcmfaaaDoor
