/- A row is read: Text. -/
import Derived.Test.YtnlajfdgpdijjaaNumsNum
namespace Go.Proofs.Ytnlajfdgpdijjaa
open Go.RowKit Go.Shelf

/-- The row that stands next: how many bytes it has, how many its length; or the fault. -/
def textL (l : List UInt8) (most : Nat) : Except Int (Nat × Nat) :=
  match takeL l most with
  | .error c => .error c
  | .ok (n, k) => if l.length - k < n then .error 8 else .ok (n, k)
/-- What a take of a row leaves. -/
def TakeRowPost (B : Nat) (s : ByteArray) (most : Nat) (w : World) (e : Ending) (w' : World) : Prop :=
  (∃ c s', textL s.data.toList most = .error c ∧ e = faultEnd c ∧ Rd B s' 0 w' ∧ Keep (fun k => k = B) w.heap.size w w') ∨
  (∃ n k, textL s.data.toList most = .ok (n, k) ∧ e = .returned (.string ((s.extract k s.size).extract 0 n)) ∧ Rd B ((s.extract k s.size).extract n (s.extract k s.size).size) 0 w' ∧ Keep (fun k => k = B) w.heap.size w w')

set_option maxRecDepth 100000 in
set_option maxHeartbeats 2000000 in
theorem takeT_any (B : Nat) (s : ByteArray) (most : Nat) (w : World) (h : Rd B s 0 w) (hs : s.size ≤ 1000000000) (hm : most ≤ 9223372036854775807) :
    Calls Try.prog 131 #[.pointer (some ⟨B, 0, none⟩), .int .i64 most] w (TakeRowPost B s most w) := by
  have hT := take_any B s 0 most w h hs
  have hB := h.lt
  go_enter Try.func131, Try.ntmps131
  go_wp2_with fail
  refine hT.mono ?_
  rintro e w' (⟨c, hc, rfl, rfl⟩ | ⟨n, k, hk, rfl, hw⟩)
  · have hP : TakeRowPost B s most w' (faultEnd c) w' := .inl ⟨c, s, by unfold textL; rw [hc], rfl, h, Keep.refl _ _ _⟩
    unfold faultEnd
    go_wp2
    exact ⟨rfl, hP⟩
  · have h1 : Rd B (s.extract k s.size) 0 w' := by rw [hw]; exact h.put0 _
    have hk1 : Keep (fun k => k = B) w.heap.size w w' := by rw [hw]; exact (Keep.refl (fun k => k = B) w.heap.size w).setCell (p := ⟨B, 0, none⟩) (.inl rfl) _
    have hsz : w.heap.size ≤ w'.heap.size := hk1.size
    have hn64 := (takeL_ok hk).2.1
    have hkl := (takeL_ok hk).2.2.1
    have hsl : s.data.toList.length = s.size := (Lib.size_eq s).symm
    rw [hsl] at hkl
    have hz1 : (s.extract k s.size).size = s.size - k := by simp
    clear hw hT
    by_cases hlt : s.size - k < n
    · have hP : TakeRowPost B s most w (faultEnd 8) w' := .inl ⟨8, _, by unfold textL; rw [hk]; simp only; rw [hsl, if_pos hlt], rfl, h1, hk1⟩
      have c0 := h1.c0
      generalize s.extract k s.size = s1 at *
      clear hk
      go_wp2
      exact ⟨rfl, hP⟩
    · have hP : ∀ w'', Rd B ((s.extract k s.size).extract n (s.extract k s.size).size) 0 w'' → Keep (fun k => k = B) w.heap.size w w'' → TakeRowPost B s most w (.returned (.string ((s.extract k s.size).extract 0 n))) w'' := fun w'' q1 q2 => .inr ⟨n, k, by unfold textL; rw [hk]; simp only; rw [hsl, if_neg hlt], rfl, q1, q2⟩
      have HP := Lib.hid hP
      have c0 := h1.c0
      generalize s.extract k s.size = s1 at *
      have hC := fun w1 => clone_any (s1.extract 0 n) w1 (by simp; omega)
      clear hk hP
      go_wp2_with fail
      refine (hC w').mono ?_
      rintro e w2 ⟨rfl, hb⟩
      have h2 := h1.below hb h1.lt
      have c2 := h2.c0
      have g2 := h2.f0
      have hk2 : Keep (fun k => k = B) w.heap.size w w2 := hk1.trans (Keep.of_below hb hsz)
      have HP3 := Lib.hid (HP.out _ (h2.put0 _) (hk2.setCell (p := ⟨B, 0, none⟩) (.inl rfl) _))
      clear hC c0 hk2 hk1
      go_wp2
      go_ret
      have q := HP3.out
      rw [hz1] at q
      exact q

theorem text1_any (B a m : Nat) (s : ByteArray) (most : Int) (M : Nat) (hM : max most 0 = M) (w : World) (h : Rd B s 0 w) (hs : s.size ≤ 1000000000) (hm : M ≤ 9223372036854775807) (ha : w.cell? ⟨a, 0, none⟩ = some (.pointer (some ⟨B, 0, none⟩))) (hc : w.cell? ⟨m, 0, none⟩ = some (.int .i64 most)) :
    Calls Try.prog 130 #[.pointer (some ⟨a, 0, none⟩), .pointer (some ⟨m, 0, none⟩)] w (TakeRowPost B s M w) := by
  have hT := takeT_any B s M w h hs hm
  go_enter Try.func130, Try.ntmps130
  go_wp2_with fail
  refine hT.mono ?_
  rintro e w' (⟨c, s', hc, rfl, hr, hk⟩ | ⟨n, k, hk, rfl, hr, hkp⟩)
  · have hP : TakeRowPost B s M w (faultEnd c) w' := .inl ⟨c, s', hc, rfl, hr, hk⟩
    unfold faultEnd
    go_wp2
    exact ⟨rfl, hP⟩
  · have hP : TakeRowPost B s M w _ w' := .inr ⟨n, k, hk, rfl, hr, hkp⟩
    clear hk hr hkp hT
    generalize (s.extract k s.size).extract 0 n = t at *
    go_wp2
    go_ret
    exact hP

/-- What the reading of a row leaves. -/
def RowPost (B : Nat) (s : ByteArray) (most : Nat) (w : World) (e : Ending) (w' : World) : Prop :=
  (∃ c, textL s.data.toList most = .error c ∧ e = .returned (.string ⟨#[]⟩) ∧ Rd B s c w' ∧ Keep (fun k => k = B) w.heap.size w w') ∨
  (∃ n k, textL s.data.toList most = .ok (n, k) ∧ e = .returned (.string ((s.extract k s.size).extract 0 n)) ∧ Rd B ((s.extract k s.size).extract n (s.extract k s.size).size) 0 w' ∧ Keep (fun k => k = B) w.heap.size w w')
theorem RowPost.weak {B : Nat} {s : ByteArray} {most : Nat} {w w1 w' : World} {e : Ending} (h : RowPost B s most w1 e w') (hb : Below w.heap.size w w1) : RowPost B s most w e w' := by
  rcases h with ⟨c, hc, he, hr, hk⟩ | ⟨n, k, hn, he, hr, hk⟩
  · exact .inl ⟨c, hc, he, hr, (Keep.of_below hb (Nat.le_refl _)).trans (hk.weak hb.size (fun _ _ q => q))⟩
  · exact .inr ⟨n, k, hn, he, hr, (Keep.of_below hb (Nat.le_refl _)).trans (hk.weak hb.size (fun _ _ q => q))⟩

set_option maxRecDepth 100000 in
set_option maxHeartbeats 4000000 in
theorem readT_any (B a m : Nat) (s : ByteArray) (most : Int) (M : Nat) (hM : max most 0 = M) (hMb : M ≤ 9223372036854775807) (w : World) (h : Rd B s 0 w) (hs : s.size ≤ 1000000000) (ha : w.cell? ⟨a, 0, none⟩ = some (.pointer (some ⟨B, 0, none⟩))) (hm : w.cell? ⟨m, 0, none⟩ = some (.int .i64 most)) :
    Calls Try.prog 129 #[.pointer (some ⟨B, 0, none⟩), .func (.func 130) #[] #[.pointer (some ⟨a, 0, none⟩), .pointer (some ⟨m, 0, none⟩)]] w (RowPost B s M w) := by
  have hmf : ∀ (fn : Fn) (first cap : Array Value) (w : World), (Instr.makeFunc fn first cap).run Try.prog w = .ok (.func fn first cap) w := fun _ _ _ _ => rfl
  have hB := h.lt
  go_enter_defers Try.func129, Try.ntmps129
  go_wp2_with fail
  have hb1 := (Below.refl w.heap.size w).alloc (Nat.le_refl _) (.cells #[.pointer (some ⟨B, 0, none⟩)] 36)
  have h1 := h.below hb1 hB
  have ha1 := cell_alloc_old ha (.cells #[.pointer (some ⟨B, 0, none⟩)] 36)
  have hm1 := cell_alloc_old hm (.cells #[.pointer (some ⟨B, 0, none⟩)] 36)
  have c0 := h1.c0
  have hz1 : (w.alloc (.cells #[.pointer (some ⟨B, 0, none⟩)] 36)).heap.size = w.heap.size + 1 := by simp
  have hr1 : (w.alloc (.cells #[.pointer (some ⟨B, 0, none⟩)] 36)).cell? ⟨w.heap.size, 0, none⟩ = some (.pointer (some ⟨B, 0, none⟩)) := by
    rw [World.cell?_alloc_mark]; rfl
  refine (fault_any B s 0 _ h1).mono ?_
  rintro e w1 ⟨rfl, hw1⟩
  rw [hw1] at hb1 h1 ha1 hm1 c0 hz1 hr1
  clear hw1
  go_wp2_with fail
  have hb2 := hb1.alloc hb1.size (.cells #[.string s] 9)
  have h2 : Rd B s 0 (w1.alloc (.cells #[.string s] 9)) := h.below hb2 hB
  have ha2 := cell_alloc_old ha1 (.cells #[.string s] 9)
  have hm2 := cell_alloc_old hm1 (.cells #[.string s] 9)
  have hr2 := cell_alloc_old hr1 (.cells #[.string s] 9)
  have hf2 : (w1.alloc (.cells #[.string s] 9)).cell? ⟨w.heap.size + 1, 0, none⟩ = some (.string s) := by
    rw [← hz1, World.cell?_alloc_mark]; rfl
  have hz2 : (w1.alloc (.cells #[.string s] 9)).heap.size = w.heap.size + 2 := by simp [hz1]
  refine (text1_any B a m s most M hM _ h2 hs hMb ha2 hm2).mono ?_
  rintro e w' (⟨c, s', hc, rfl, hr, hkp⟩ | ⟨n, k, hk, rfl, hr, hkp⟩)
  · rw [← hkp.cell (p := ⟨w.heap.size, 0, none⟩) (by simp only [hz2]; omega) (by simp only; omega)] at hr2
    rw [← hkp.cell (p := ⟨w.heap.size + 1, 0, none⟩) (by simp only [hz2]; omega) (by simp only; omega)] at hf2
    have hsz := hkp.size
    unfold faultEnd
    show bodyPostD _ _ _ (Exit.panic _) _ _
    refine leaves_cons (f := 132) (args := #[.pointer (some ⟨w.heap.size, 0, none⟩), .pointer (some ⟨w.heap.size + 1, 0, none⟩)]) (by simp) (by simp [go_sem]) ?_
    refine (catchT_panicking B _ _ s' s 0 c [] _ hr hr2 hf2).mono ?_
    rintro e u' w'' ⟨rfl, rfl, hrd, hkq⟩
    have hN : RowPost B s M w (.returned (.string ⟨#[]⟩)) w'' := .inl ⟨c, hc, rfl, hrd, ((Keep.of_below hb2 (Nat.le_refl _)).trans (hkp.weak hb2.size (fun _ _ q => q))).trans (hkq.weak (Nat.le_trans hb2.size hsz) (fun _ _ q => q))⟩
    simp [Leaves, settle, results, Try.results129, go_sem]
    exact hN
  · have hN : RowPost B s M w _ w' := .inr ⟨n, k, hk, rfl, hr, (Keep.of_below (S := fun k => k = B) hb2 (Nat.le_refl _)).trans (hkp.weak hb2.size (fun _ _ q => q))⟩
    clear hk hr hkp
    generalize (s.extract k s.size).extract 0 n = t at *
    go_wp2
    refine leaves_cons (f := 132) (args := #[.pointer (some ⟨w.heap.size, 0, none⟩), .pointer (some ⟨w.heap.size + 1, 0, none⟩)]) (by simp) (by simp [go_sem]) ?_
    refine (catchT_idle _ _ _).mono ?_
    rintro e u' w'' ⟨rfl, rfl, rfl⟩
    simp [Leaves, settle, results, Try.results129, go_sem]
    exact hN

set_option maxRecDepth 100000 in
set_option maxHeartbeats 1000000 in
/-- Text of a reader that hasn't faulted. -/
theorem text_any (B : Nat) (s : ByteArray) (most : Int) (M : Nat) (hM : max most 0 = M) (hMb : M ≤ 9223372036854775807) (w : World) (h : Rd B s 0 w) (hs : s.size ≤ 1000000000) :
    Calls Try.prog 128 #[.pointer (some ⟨B, 0, none⟩), .int .i64 most] w (RowPost B s M w) := by
  have hmf : ∀ (fn : Fn) (first cap : Array Value) (w : World), (Instr.makeFunc fn first cap).run Try.prog w = .ok (.func fn first cap) w := fun _ _ _ _ => rfl
  have hB := h.lt
  go_enter Try.func128, Try.ntmps128
  go_wp2_with fail
  have hb2 := ((Below.refl w.heap.size w).alloc (Nat.le_refl _) (.cells #[.pointer (some ⟨B, 0, none⟩)] 36)).alloc (by simp) (.cells #[.int .i64 most] 3)
  have h2 := h.below hb2 hB
  have hr2 := cell_alloc_old (p := ⟨w.heap.size, 0, none⟩) (v := .pointer (some ⟨B, 0, none⟩)) (w := w.alloc (.cells #[.pointer (some ⟨B, 0, none⟩)] 36)) (by rw [World.cell?_alloc_mark]; rfl) (.cells #[.int .i64 most] 3)
  have hm2 : ((w.alloc (.cells #[.pointer (some ⟨B, 0, none⟩)] 36)).alloc (.cells #[.int .i64 most] 3)).cell? ⟨w.heap.size + 1, 0, none⟩ = some (.int .i64 most) := by
    rw [show w.heap.size + 1 = (w.alloc (.cells #[.pointer (some ⟨B, 0, none⟩)] 36)).heap.size by simp, World.cell?_alloc_mark]; rfl
  refine (readT_any B _ _ s most M hM hMb _ h2 hs hr2 hm2).mono ?_
  intro e w' hp
  replace hp := hp.weak hb2
  clear h2 hb2 hr2 hm2
  rcases hp with ⟨c, hc, rfl, hp⟩ | ⟨n, k, hk, rfl, hp⟩
  · have hN : RowPost B s M w (.returned (.string ⟨#[]⟩)) w' := .inl ⟨c, hc, rfl, hp⟩
    go_wp2
    go_ret
    exact hN
  · have hN : RowPost B s M w _ w' := .inr ⟨n, k, hk, rfl, hp⟩
    clear hk hp
    generalize (s.extract k s.size).extract 0 n = t at *
    go_wp2
    go_ret
    exact hN
end Go.Proofs.Ytnlajfdgpdijjaa
