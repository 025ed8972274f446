/- A reader, faulted or not: Num and Text as the lists of bytes have them. -/
import Derived.Test.YtckknopjhmpnhaaFramePlain
namespace Go.Proofs.Ytckknopjhmpnhaa
open Go.RowKit Go.Shelf

set_option maxRecDepth 100000 in
set_option maxHeartbeats 2000000 in
theorem readU_faulted (B a m : Nat) (s : ByteArray) (f : Int) (w : World) (h : Rd B s f w) (hf : f ≠ 0) :
    Calls Try.prog 49 #[.pointer (some ⟨B, 0, none⟩), .func (.func 50) #[] #[.pointer (some ⟨a, 0, none⟩), .pointer (some ⟨m, 0, none⟩)]] w fun e w' => e = .returned (.int .u64 0) ∧ Below w.heap.size w w' := by
  have hb1 := (Below.refl w.heap.size w).alloc (Nat.le_refl _) (.cells #[.pointer (some ⟨B, 0, none⟩)] 72)
  have h1 := h.below hb1 h.lt
  have hF := fault_any B s f _ h1
  have hfb : (f != 0) = true := by simpa using hf
  go_enter_defers Try.func49, Try.ntmps49
  go_wp2_with fail
  refine hF.mono ?_
  clear hF
  rintro e w1 ⟨rfl, hw1⟩
  rw [hw1] at hb1
  clear h1 hw1
  go_wp2_with fail
  simp [bodyPostD, Leaves, results, Try.results49, go_sem]
  exact hb1

set_option maxRecDepth 100000 in
set_option maxHeartbeats 2000000 in
theorem num_faulted (B : Nat) (s : ByteArray) (f : Int) (most : Int) (w : World) (h : Rd B s f w) (hf : f ≠ 0) :
    Calls Try.prog 39 #[.pointer (some ⟨B, 0, none⟩), .int .u64 most] w fun e w' => e = .returned (.int .u64 0) ∧ Below w.heap.size w w' := by
  have hmf : ∀ (fn : Fn) (first cap : Array Value) (w : World), (Instr.makeFunc fn first cap).run Try.prog w = .ok (.func fn first cap) w := fun _ _ _ _ => rfl
  have hB := h.lt
  have hb2 := ((Below.refl w.heap.size w).alloc (Nat.le_refl _) (.cells #[.pointer (some ⟨B, 0, none⟩)] 72)).alloc (by simp) (.cells #[.int .u64 most] 55)
  have h2 := h.below hb2 hB
  have hR := fun a m => readU_faulted B a m s f _ h2 hf
  go_enter Try.func39, Try.ntmps39
  go_wp2_with fail
  refine (hR _ _).mono ?_
  rintro e w' ⟨rfl, hb⟩
  have hbb := hb2.trans (hb.mono hb2.size)
  clear hR hb
  go_wp2
  go_ret
  exact ⟨rfl, hbb⟩

set_option maxRecDepth 100000 in
set_option maxHeartbeats 2000000 in
theorem readT_faulted (B a m : Nat) (s : ByteArray) (f : Int) (w : World) (h : Rd B s f w) (hf : f ≠ 0) :
    Calls Try.prog 52 #[.pointer (some ⟨B, 0, none⟩), .func (.func 53) #[] #[.pointer (some ⟨a, 0, none⟩), .pointer (some ⟨m, 0, none⟩)]] w fun e w' => e = .returned (.string ⟨#[]⟩) ∧ Below w.heap.size w w' := by
  have hb1 := (Below.refl w.heap.size w).alloc (Nat.le_refl _) (.cells #[.pointer (some ⟨B, 0, none⟩)] 72)
  have h1 := h.below hb1 h.lt
  have hF := fault_any B s f _ h1
  have hfb : (f != 0) = true := by simpa using hf
  go_enter_defers Try.func52, Try.ntmps52
  go_wp2_with fail
  refine hF.mono ?_
  clear hF
  rintro e w1 ⟨rfl, hw1⟩
  rw [hw1] at hb1
  clear h1 hw1
  go_wp2_with fail
  simp [bodyPostD, Leaves, results, Try.results52, go_sem]
  exact hb1

set_option maxRecDepth 100000 in
set_option maxHeartbeats 2000000 in
theorem text_faulted (B : Nat) (s : ByteArray) (f : Int) (most : Int) (w : World) (h : Rd B s f w) (hf : f ≠ 0) :
    Calls Try.prog 43 #[.pointer (some ⟨B, 0, none⟩), .int .i64 most] w fun e w' => e = .returned (.string ⟨#[]⟩) ∧ Below w.heap.size w w' := by
  have hmf : ∀ (fn : Fn) (first cap : Array Value) (w : World), (Instr.makeFunc fn first cap).run Try.prog w = .ok (.func fn first cap) w := fun _ _ _ _ => rfl
  have hB := h.lt
  have hb2 := ((Below.refl w.heap.size w).alloc (Nat.le_refl _) (.cells #[.pointer (some ⟨B, 0, none⟩)] 72)).alloc (by simp) (.cells #[.int .i64 most] 3)
  have h2 := h.below hb2 hB
  have hR := fun a m => readT_faulted B a m s f _ h2 hf
  go_enter Try.func43, Try.ntmps43
  go_wp2_with fail
  refine (hR _ _).mono ?_
  rintro e w' ⟨rfl, hb⟩
  have hbb := hb2.trans (hb.mono hb2.size)
  clear hR hb
  go_wp2
  go_ret
  exact ⟨rfl, hbb⟩

theorem bytes_of_list (s : ByteArray) : (⟨s.data.toList.toArray⟩ : ByteArray) = s := by cases s; simp
theorem extract_list (s : ByteArray) (k : Nat) (g : k ≤ s.size) : s.extract k s.size = ⟨(s.data.toList.drop k).toArray⟩ := by
  have h := extract_rest (s := s) (a := s.data.toList.take k) (r := s.data.toList.drop k) (List.take_append_drop _ _).symm
  rw [List.length_take, ← Lib.size_eq] at h
  rwa [Nat.min_eq_left g] at h

/-- Num of any reader. -/
theorem numR_any (B : Nat) (l : List UInt8) (f : Int) (most : Nat) (w : World) (h : Rd B ⟨l.toArray⟩ f w) (hs : l.length ≤ 1000000000) :
    Calls Try.prog 39 #[.pointer (some ⟨B, 0, none⟩), .int .u64 most] w fun e w' =>
      e = .returned (.int .u64 (numS (l, f) most).2) ∧ Rd B ⟨(numS (l, f) most).1.1.toArray⟩ (numS (l, f) most).1.2 w' ∧ Keep (fun k => k = B) w.heap.size w w' := by
  by_cases hf : f = 0
  · subst hf
    refine (num_any B ⟨l.toArray⟩ most w h (by rw [Lib.size_eq]; exact hs)).mono ?_
    rintro e w' (⟨c, hc, rfl, hr, hk⟩ | ⟨n, k, hn, rfl, hr, hk⟩)
    · have hq : numS (l, 0) most = ((l, c), 0) := by
        unfold numS
        rw [if_pos rfl, show takeL l most = .error c from hc]
      rw [hq]
      exact ⟨rfl, hr, hk⟩
    · have hq : numS (l, 0) most = ((l.drop k, 0), n) := by
        unfold numS
        rw [if_pos rfl, show takeL l most = .ok (n, k) from hn]
      have hkl := (takeL_ok hn).2.2.1
      rw [hq]
      refine ⟨rfl, ?_, hk⟩
      rw [extract_list _ k (by rw [Lib.size_eq]; exact hkl)] at hr
      exact hr
  · have hq : numS (l, f) most = ((l, f), 0) := by unfold numS; rw [if_neg hf]
    rw [hq]
    refine (num_faulted B ⟨l.toArray⟩ f most w h hf).mono ?_
    rintro e w' ⟨rfl, hb⟩
    exact ⟨rfl, h.below hb h.lt, Keep.of_below hb (Nat.le_refl _)⟩

/-- Text of any reader. -/
theorem textR_any (B : Nat) (l : List UInt8) (f : Int) (most : Int) (M : Nat) (hM : max most 0 = M) (hMb : M ≤ 9223372036854775807) (w : World) (h : Rd B ⟨l.toArray⟩ f w) (hs : l.length ≤ 1000000000) :
    Calls Try.prog 43 #[.pointer (some ⟨B, 0, none⟩), .int .i64 most] w fun e w' =>
      e = .returned (.string ⟨(textS (l, f) M).2.toArray⟩) ∧ Rd B ⟨(textS (l, f) M).1.1.toArray⟩ (textS (l, f) M).1.2 w' ∧ Keep (fun k => k = B) w.heap.size w w' := by
  by_cases hf : f = 0
  · subst hf
    refine (text_any B ⟨l.toArray⟩ most M hM hMb w h (by rw [Lib.size_eq]; exact hs)).mono ?_
    rintro e w' (⟨c, hc, rfl, hr, hk⟩ | ⟨n, k, hn, rfl, hr, hk⟩)
    · have hq : textS (l, 0) M = ((l, c), []) := by
        unfold textS
        rw [if_pos rfl, show textL l M = .error c from hc]
      rw [hq]
      exact ⟨rfl, hr, hk⟩
    · have hn' : textL l M = .ok (n, k) := hn
      have hq : textS (l, 0) M = (((l.drop k).drop n, 0), (l.drop k).take n) := by
        unfold textS
        rw [if_pos rfl, hn']
      have hkl : k ≤ l.length ∧ n ≤ l.length - k := by
        unfold textL at hn'
        split at hn'
        · cases hn'
        · rename_i n' k' hk'
          split at hn'
          · cases hn'
          · cases hn'
            exact ⟨(takeL_ok hk').2.2.1, by omega⟩
      rw [hq]
      have hx := extract_list ⟨l.toArray⟩ k (by rw [Lib.size_eq]; exact hkl.1)
      have hd : ((⟨l.toArray⟩ : ByteArray).extract k (⟨l.toArray⟩ : ByteArray).size).data.toList = l.drop k := by rw [hx]
      have h2 := extract_list ((⟨l.toArray⟩ : ByteArray).extract k (⟨l.toArray⟩ : ByteArray).size) n (by rw [Lib.size_eq, hd, List.length_drop]; exact hkl.2)
      have h3 := extract_head (s := (⟨l.toArray⟩ : ByteArray).extract k (⟨l.toArray⟩ : ByteArray).size) (a := (l.drop k).take n) (r := (l.drop k).drop n) (by rw [hd]; exact (List.take_append_drop _ _).symm)
      rw [List.length_take, List.length_drop, Nat.min_eq_left hkl.2] at h3
      rw [hd] at h2
      rw [h2] at hr
      rw [h3]
      exact ⟨rfl, hr, hk⟩
  · have hq : textS (l, f) M = ((l, f), []) := by unfold textS; rw [if_neg hf]
    rw [hq]
    refine (text_faulted B ⟨l.toArray⟩ f most w h hf).mono ?_
    rintro e w' ⟨rfl, hb⟩
    exact ⟨rfl, h.below hb h.lt, Keep.of_below hb (Nat.le_refl _)⟩
end Go.Proofs.Ytckknopjhmpnhaa
