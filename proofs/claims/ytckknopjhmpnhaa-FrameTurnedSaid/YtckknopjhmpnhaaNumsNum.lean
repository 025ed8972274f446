/- A number is read: Num, Int. -/
import Derived.Test.YtckknopjhmpnhaaNumsCatch
namespace Go.Proofs.Ytckknopjhmpnhaa
open Go.RowKit Go.Shelf

theorem num1_any (B a m : Nat) (s : ByteArray) (f : Int) (most : Nat) (w : World) (h : Rd B s f w) (hs : s.size ≤ 1000000000) (ha : w.cell? ⟨a, 0, none⟩ = some (.pointer (some ⟨B, 0, none⟩))) (hm : w.cell? ⟨m, 0, none⟩ = some (.int .u64 most)) :
    Calls Try.prog 50 #[.pointer (some ⟨a, 0, none⟩), .pointer (some ⟨m, 0, none⟩)] w (TakePost B s most w) := by
  have hT := take_any B s f most w h hs
  go_enter Try.func50, Try.ntmps50
  go_wp2_with fail
  refine hT.mono ?_
  rintro e w' (⟨c, hc, rfl, rfl⟩ | ⟨n, k, hk, rfl, rfl⟩)
  · unfold faultEnd
    go_wp2
    exact ⟨rfl, .inl ⟨c, hc, rfl, rfl⟩⟩
  · go_wp2
    go_ret
    exact .inr ⟨n, k, hk, rfl, rfl⟩

/-- What the reading of a number leaves. -/
def NumPost (B : Nat) (s : ByteArray) (most : Nat) (w : World) (e : Ending) (w' : World) : Prop :=
  (∃ c, takeL s.data.toList most = .error c ∧ e = .returned (.int .u64 0) ∧ Rd B s c w' ∧ Keep (fun k => k = B) w.heap.size w w') ∨ (∃ n k, takeL s.data.toList most = .ok (n, k) ∧ e = .returned (.int .u64 n) ∧ Rd B (s.extract k s.size) 0 w' ∧ Keep (fun k => k = B) w.heap.size w w')

theorem NumPost.weak {B : Nat} {s : ByteArray} {most : Nat} {w w1 w' : World} {e : Ending} (h : NumPost B s most w1 e w') (hb : Below w.heap.size w w1) : NumPost B s most w e w' := by
  rcases h with ⟨c, hc, he, hr, hk⟩ | ⟨n, k, hn, he, hr, hk⟩
  · exact .inl ⟨c, hc, he, hr, (Keep.of_below hb (Nat.le_refl _)).trans (hk.weak hb.size (fun _ _ q => q))⟩
  · exact .inr ⟨n, k, hn, he, hr, (Keep.of_below hb (Nat.le_refl _)).trans (hk.weak hb.size (fun _ _ q => q))⟩
set_option maxRecDepth 100000 in
set_option maxHeartbeats 4000000 in
theorem readU_any (B a m : Nat) (s : ByteArray) (most : Nat) (w : World) (h : Rd B s 0 w) (hs : s.size ≤ 1000000000) (ha : w.cell? ⟨a, 0, none⟩ = some (.pointer (some ⟨B, 0, none⟩))) (hm : w.cell? ⟨m, 0, none⟩ = some (.int .u64 most)) :
    Calls Try.prog 49 #[.pointer (some ⟨B, 0, none⟩), .func (.func 50) #[] #[.pointer (some ⟨a, 0, none⟩), .pointer (some ⟨m, 0, none⟩)]] w (NumPost B s most w) := by
  have hmf : ∀ (fn : Fn) (first cap : Array Value) (w : World), (Instr.makeFunc fn first cap).run Try.prog w = .ok (.func fn first cap) w := fun _ _ _ _ => rfl
  have hB := h.lt
  go_enter_defers Try.func49, Try.ntmps49
  go_wp2_with fail
  have hb1 := (Below.refl w.heap.size w).alloc (Nat.le_refl _) (.cells #[.pointer (some ⟨B, 0, none⟩)] 72)
  have h1 := h.below hb1 hB
  have ha1 := cell_alloc_old ha (.cells #[.pointer (some ⟨B, 0, none⟩)] 72)
  have hm1 := cell_alloc_old hm (.cells #[.pointer (some ⟨B, 0, none⟩)] 72)
  have c0 := h1.c0
  have hz1 : (w.alloc (.cells #[.pointer (some ⟨B, 0, none⟩)] 72)).heap.size = w.heap.size + 1 := by simp
  have hr1 : (w.alloc (.cells #[.pointer (some ⟨B, 0, none⟩)] 72)).cell? ⟨w.heap.size, 0, none⟩ = some (.pointer (some ⟨B, 0, none⟩)) := by
    rw [World.cell?_alloc_mark]; rfl
  refine (fault_any B s 0 _ h1).mono ?_
  rintro e w1 ⟨rfl, hw1⟩
  rw [hw1] at hb1 h1 ha1 hm1 c0 hz1 hr1
  clear hw1
  go_wp2_with fail
  have hb2 := hb1.alloc hb1.size (.cells #[.string s] 9)
  have h2 : Rd B s 0 (w1.alloc (.cells #[.string s] 9)) := h.below hb2 hB
  have ha2 := cell_alloc_old ha1 (.cells #[.string s] 9)
  have hm2 := cell_alloc_old hm1 (.cells #[.string s] 9)
  have hr2 := cell_alloc_old hr1 (.cells #[.string s] 9)
  have hf2 : (w1.alloc (.cells #[.string s] 9)).cell? ⟨w.heap.size + 1, 0, none⟩ = some (.string s) := by
    rw [← hz1, World.cell?_alloc_mark]; rfl
  refine (num1_any B a m s 0 most _ h2 hs ha2 hm2).mono ?_
  rintro e w' (⟨c, hc, rfl, hw⟩ | ⟨n, k, hk, rfl, hw⟩)
  · rw [← hw] at hb2 h2 hr2 hf2
    unfold faultEnd
    show bodyPostD _ _ _ (Exit.panic _) _ _
    refine leaves_cons (f := 58) (args := #[.pointer (some ⟨w.heap.size, 0, none⟩), .pointer (some ⟨w.heap.size + 1, 0, none⟩)]) (by simp) (by simp [go_sem]) ?_
    refine (catchU_panicking B _ _ s s 0 c [] _ h2 hr2 hf2).mono ?_
    rintro e u' w'' ⟨rfl, rfl, hrd, hkp⟩
    have hN : NumPost B s most w (.returned (.int .u64 0)) w'' := .inl ⟨c, hc, rfl, hrd, (Keep.of_below hb2 (Nat.le_refl _)).trans (hkp.weak hb2.size (fun _ _ q => q))⟩
    simp [Leaves, settle, results, Try.results49, go_sem]
    exact hN
  · have hN : NumPost B s most w (.returned (.int .u64 n)) w' := .inr ⟨n, k, hk, rfl, by rw [hw]; exact h2.put0 _, by rw [hw]; exact (Keep.of_below (S := fun k => k = B) hb2 (Nat.le_refl _)).setCell (p := ⟨B, 0, none⟩) (.inl rfl) _⟩
    clear hw
    go_wp2
    refine leaves_cons (f := 58) (args := #[.pointer (some ⟨w.heap.size, 0, none⟩), .pointer (some ⟨w.heap.size + 1, 0, none⟩)]) (by simp) (by simp [go_sem]) ?_
    refine (catchU_idle _ _ _).mono ?_
    rintro e u' w'' ⟨rfl, rfl, rfl⟩
    simp [Leaves, settle, results, Try.results49, go_sem]
    exact hN

set_option maxRecDepth 100000 in
set_option maxHeartbeats 1000000 in
/-- Num of a reader that hasn't faulted. -/
theorem num_any (B : Nat) (s : ByteArray) (most : Nat) (w : World) (h : Rd B s 0 w) (hs : s.size ≤ 1000000000) :
    Calls Try.prog 39 #[.pointer (some ⟨B, 0, none⟩), .int .u64 most] w (NumPost B s most w) := by
  have hmf : ∀ (fn : Fn) (first cap : Array Value) (w : World), (Instr.makeFunc fn first cap).run Try.prog w = .ok (.func fn first cap) w := fun _ _ _ _ => rfl
  have hB := h.lt
  go_enter Try.func39, Try.ntmps39
  go_wp2_with fail
  have hb2 := ((Below.refl w.heap.size w).alloc (Nat.le_refl _) (.cells #[.pointer (some ⟨B, 0, none⟩)] 72)).alloc (by simp) (.cells #[.int .u64 most] 55)
  have h2 := h.below hb2 hB
  have hr2 := cell_alloc_old (p := ⟨w.heap.size, 0, none⟩) (v := .pointer (some ⟨B, 0, none⟩)) (w := w.alloc (.cells #[.pointer (some ⟨B, 0, none⟩)] 72)) (by rw [World.cell?_alloc_mark]; rfl) (.cells #[.int .u64 most] 55)
  have hm2 : ((w.alloc (.cells #[.pointer (some ⟨B, 0, none⟩)] 72)).alloc (.cells #[.int .u64 most] 55)).cell? ⟨w.heap.size + 1, 0, none⟩ = some (.int .u64 most) := by
    rw [show w.heap.size + 1 = (w.alloc (.cells #[.pointer (some ⟨B, 0, none⟩)] 72)).heap.size by simp, World.cell?_alloc_mark]; rfl
  refine (readU_any B _ _ s most _ h2 hs hr2 hm2).mono ?_
  intro e w' hp
  replace hp := hp.weak hb2
  clear h2 hb2 hr2 hm2
  rcases hp with ⟨c, hc, rfl, hp⟩ | ⟨n, k, hk, rfl, hp⟩
  · have hN : NumPost B s most w (.returned (.int .u64 0)) w' := .inl ⟨c, hc, rfl, hp⟩
    go_wp2
    go_ret
    exact hN
  · have hN : NumPost B s most w (.returned (.int .u64 n)) w' := .inr ⟨n, k, hk, rfl, hp⟩
    go_wp2
    go_ret
    exact hN

/-- The number with a sign that stands as n. -/
def unzig (n : Nat) : Int := if n % 2 = 1 then -((n / 2 : Nat) : Int) - 1 else ((n / 2 : Nat) : Int)
theorem unzig_zigzag (m : Int) : unzig (Lib.zigzag m) = m := by
  unfold unzig Lib.zigzag
  split <;> split <;> omega

/-- What the reading of a number with a sign leaves. -/
def IntPost (B : Nat) (s : ByteArray) (w : World) (e : Ending) (w' : World) : Prop :=
  (∃ c, takeL s.data.toList 18446744073709551615 = .error c ∧ e = .returned (.int .i64 0) ∧ Rd B s c w' ∧ Keep (fun k => k = B) w.heap.size w w') ∨ (∃ n k, takeL s.data.toList 18446744073709551615 = .ok (n, k) ∧ e = .returned (.int .i64 (unzig n)) ∧ Rd B (s.extract k s.size) 0 w' ∧ Keep (fun k => k = B) w.heap.size w w')

end Go.Proofs.Ytckknopjhmpnhaa
