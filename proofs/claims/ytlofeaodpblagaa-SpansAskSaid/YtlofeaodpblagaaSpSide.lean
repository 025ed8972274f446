/- spans: edges in a row; a side's box: next, pass. -/
import Derived.Test.YtlofeaodpblagaaSpAsk
import Derived.Test.YtlofeaodpblagaaWorlds
namespace Go.Proofs.Ytlofeaodpblagaa
open Go.RowKit

/-- A slice of edges reads as L. -/
def EdAt (W : World) (v : Value) (L : List Edge) : Prop :=
  ∃ ao cap, v = .slice ao L.length cap ∧ L.length ≤ cap ∧ (L ≠ [] → ∃ b off, ao = some ⟨b, off, none⟩ ∧ (∃ cur fr, W.heap[b]? = some (.cells cur 92 fr)) ∧ ∀ i, i < L.length →
    W.cell? ⟨b, off + i * 2, none⟩ = some (.int .i64 (L.getD i (0, false)).1) ∧ W.cell? ⟨b, off + i * 2 + 1, none⟩ = some (.bool (L.getD i (0, false)).2))
theorem EdAt.turn {W W' : World} {v : Value} {L : List Edge} (h : EdAt W v L) (hb : ∀ (b : Nat) (cur : Array Value) (fr : Nat × Nat), W.heap[b]? = some (.cells cur 92 fr) → W'.heap[b]? = W.heap[b]?) : EdAt W' v L := by
  obtain ⟨ao, cap, rfl, hc, h2⟩ := h
  refine ⟨ao, cap, rfl, hc, fun hx => ?_⟩
  obtain ⟨b, off, rfl, ⟨cur, fr, hrow⟩, hcell⟩ := h2 hx
  have e := hb b cur fr hrow
  refine ⟨b, off, rfl, ⟨cur, fr, e.trans hrow⟩, fun i hi => ?_⟩
  exact ⟨(show W'.cell? ⟨b, off + i * 2, none⟩ = W.cell? ⟨b, off + i * 2, none⟩ from World.cell?_of_block e).trans (hcell i hi).1, (show W'.cell? ⟨b, off + i * 2 + 1, none⟩ = W.cell? ⟨b, off + i * 2 + 1, none⟩ from World.cell?_of_block e).trans (hcell i hi).2⟩
theorem EdAt.below {W W' : World} {v : Value} {L : List Edge} (h : EdAt W v L) (hb : Below W.heap.size W W') : EdAt W' v L :=
  h.turn fun b _ _ hrow => hb.block b (Array.getElem?_eq_some_iff.1 hrow).1
/-- A side's box. -/
def SdBox (W : World) (B : Nat) (v : Value) (i : Bool) : Prop := W.heap[B]? = some (.cells #[v, .bool i] 81 (0, 0))
theorem SdBox.lt {W : World} {B : Nat} {v : Value} {i : Bool} (h : SdBox W B v i) : B < W.heap.size := (Array.getElem?_eq_some_iff.1 h).1
theorem SdBox.c0 {W : World} {B : Nat} {v : Value} {i : Bool} (h : SdBox W B v i) : W.cell? ⟨B, 0, none⟩ = some v := by simp [World.cell?, show W.heap[B]? = _ from h]
theorem SdBox.c1 {W : World} {B : Nat} {v : Value} {i : Bool} (h : SdBox W B v i) : W.cell? ⟨B, 1, none⟩ = some (.bool i) := by simp [World.cell?, show W.heap[B]? = _ from h]
theorem SdBox.f {W : World} {B : Nat} {v : Value} {i : Bool} (h : SdBox W B v i) (o : Nat) : W.frozen? ⟨B, o, none⟩ = false := by simp [World.frozen?, show W.heap[B]? = _ from h]
theorem SdBox.set0 {W : World} {B : Nat} {v : Value} {i : Bool} (h : SdBox W B v i) (u : Value) : SdBox (W.setCell ⟨B, 0, none⟩ u) B u i := box_set h 0 u
theorem SdBox.set1 {W : World} {B : Nat} {v : Value} {i : Bool} (h : SdBox W B v i) (j : Bool) : SdBox (W.setCell ⟨B, 1, none⟩ (.bool j)) B v j := box_set h 1 (.bool j)
set_option maxRecDepth 100000 in
set_option maxHeartbeats 2000000 in
theorem sdNext_any (B : Nat) (v : Value) (i : Bool) (L : List Edge) (W : World) (hB : SdBox W B v i) (hL : EdAt W v L) :
    Calls Try.prog 60 #[.pointer (some ⟨B, 0, none⟩)] W fun e W' => e = .returned (.int .i64 (edNext L)) ∧ W = W' := by
  obtain ⟨ao, cap, rfl, _, h2⟩ := hL
  have c0 := hB.c0
  cases L with
  | nil =>
    clear h2
    go_enter Try.func60, Try.ntmps60
    go_wp2
    go_ret
    exact ⟨rfl, rfl⟩
  | cons x r =>
    obtain ⟨b, off, rfl, _, hc⟩ := h2 (by simp)
    have d0 := (hc 0 (by simp)).1
    rw [Nat.zero_mul, Nat.add_zero] at d0
    obtain ⟨a, bg⟩ := x
    replace d0 : W.cell? ⟨b, off, none⟩ = some (.int .i64 a) := d0
    show Calls Try.prog 60 #[.pointer (some ⟨B, 0, none⟩)] W fun e W' => e = .returned (.int .i64 a) ∧ W = W'
    rw [List.length_cons] at c0
    clear hc h2
    have e1 : (0 : Int) < (r.length : Int) + 1 := by omega
    have e2 : ((r.length : Int) + 1 == 0) = false := beq_eq_false_iff_ne.2 (by omega)
    have e3 : (0 : Int) < ((r.length + 1 : Nat) : Int) := by omega
    generalize r.length = m at *
    go_enter Try.func60, Try.ntmps60
    go_wp2
    go_ret
    exact ⟨rfl, rfl⟩
/-- What pass makes of a side's box. -/
def PassPost (B : Nat) (v : Value) (p : Int) (i : Bool) (L : List Edge) (W : World) (e : Ending) (W' : World) : Prop :=
  ∃ v', e = .returned (.tuple #[]) ∧ SdBox W' B v' (edPass p i L) ∧ (∀ X, EdAt X v L → EdAt X v' (edRest p L)) ∧ Keep (fun k => k = B) W.heap.size W W'
theorem PassPost.mk {B : Nat} {v : Value} {p : Int} {i j : Bool} {L r : List Edge} {W W' : World} {v' : Value} (h1 : SdBox W' B v' j) (hj : edPass p i L = j) (h2 : ∀ X, EdAt X v L → EdAt X v' r) (hr : edRest p L = r) (hk : Keep (fun k => k = B) W.heap.size W W') :
    PassPost B v p i L W (.returned (.tuple #[])) W' := ⟨v', rfl, by rw [hj]; exact h1, by rw [hr]; exact h2, hk⟩
theorem edAt_tail {X : World} {b off n cap : Nat} {x : Edge} {r : List Edge} (h : EdAt X (.slice (some ⟨b, off, none⟩) n cap) (x :: r)) : EdAt X (.slice (some ⟨b, off + 2, none⟩) r.length (cap - 1)) r := by
  obtain ⟨ao, cap', hv, hcap, h2⟩ := h
  cases hv
  obtain ⟨b', off', hv, ⟨cur, fr, hrow⟩, hc⟩ := h2 (by simp)
  cases hv
  refine ⟨_, _, rfl, by rw [List.length_cons] at hcap; omega, fun _ => ⟨b, off + 2, rfl, ⟨cur, fr, hrow⟩, fun j hj => ?_⟩⟩
  have := hc (j + 1) (by rw [List.length_cons]; omega)
  rw [show off + (j + 1) * 2 = off + 2 + j * 2 by omega] at this
  exact this
set_option maxRecDepth 100000 in
set_option maxHeartbeats 2000000 in
theorem sdPass_any (B : Nat) (v : Value) (i : Bool) (L : List Edge) (p : Int) (W : World) (hB : SdBox W B v i) (hL : EdAt W v L) (hp : p ≤ 20000) :
    Calls Try.prog 61 #[.pointer (some ⟨B, 0, none⟩), .int .i64 p] W (PassPost B v p i L W) := by
  have hN := sdNext_any B v i L W hB hL
  obtain ⟨ao, cap, rfl, hcap, h2⟩ := hL
  have c0 := hB.c0
  cases L with
  | nil =>
    clear h2
    have hN : Calls Try.prog 60 #[.pointer (some ⟨B, 0, none⟩)] W fun e W' => e = .returned (.int .i64 20001) ∧ W = W' := hN
    have e1 : ((20001 : Int) == p) = false := beq_eq_false_iff_ne.2 (by omega)
    go_enter Try.func61, Try.ntmps61
    go_wp2_with (go_at_call 60; refine hN.mono ?_; clear hN; rintro e _ ⟨rfl, rfl⟩)
    go_end0
    exact PassPost.mk hB rfl (fun _ q => q) rfl (Keep.refl _ _ _)
  | cons x r =>
    obtain ⟨b, off, rfl, _, hc⟩ := h2 (by simp)
    obtain ⟨a, bg⟩ := x
    have hN : Calls Try.prog 60 #[.pointer (some ⟨B, 0, none⟩)] W fun e W' => e = .returned (.int .i64 a) ∧ W = W' := hN
    by_cases ha : a = p
    · have d1 := (hc 0 (by simp)).2
      rw [Nat.zero_mul, Nat.add_zero] at d1
      replace d1 : W.cell? ⟨b, off + 1, none⟩ = some (.bool bg) := d1
      have f1 := hB.f 1
      have f0 := hB.f 0
      have d2 := hB.c1
      have hrest : ∀ X, EdAt X (.slice (some ⟨b, off, none⟩) ((a, bg) :: r).length cap) ((a, bg) :: r) → EdAt X (.slice (some ⟨b, off + 2, none⟩) r.length (cap - 1)) r := fun X q => edAt_tail q
      have e2 : edRest p ((a, bg) :: r) = r := if_pos ha
      have e3 : edPass p i ((a, bg) :: r) = bg := if_pos ha
      have E2 := Lib.hid e2
      have E3 := Lib.hid e3
      have HR := Lib.hid hrest
      have HB := Lib.hid hB
      rw [List.length_cons] at c0 hcap
      have e1 : (a == p) = true := beq_iff_eq.2 ha
      have e4 : (0 : Int) < ((r.length + 1 : Nat) : Int) := by omega
      have e5 : (0 : Int) < (r.length : Int) + 1 := by omega
      have e6 : (1 : Int) ≤ ((r.length + 1 : Nat) : Int) := by omega
      have e7 : (1 : Int) ≤ (r.length : Int) + 1 := by omega
      subst ha
      have HZ := Lib.hid (show r.length = 0 → r = [] from List.eq_nil_of_length_eq_zero)
      clear hrest hc h2 hB e2 e3
      generalize r.length = m at *
      go_enter Try.func61, Try.ntmps61
      go_wp2_with (go_at_call 60; refine hN.mono ?_; clear hN; rintro e _ ⟨rfl, rfl⟩)
      all_goals
        have HK : Keep (fun k => k = B) W.heap.size W W := Keep.refl _ _ _
        go_end0
      · obtain rfl := HZ.out (by omega)
        exact PassPost.mk ((HB.out.set1 _).set0 _) E3.out (fun X _ => (show EdAt X _ [] from ⟨_, _, by rw [show m = 0 by omega]; rfl, Nat.zero_le _, fun h => absurd rfl h⟩)) E2.out ((HK.setCell (p := ⟨B, 1, none⟩) (.inl rfl) _).setCell (p := ⟨B, 0, none⟩) (.inl rfl) _)
      · exact PassPost.mk ((HB.out.set1 _).set0 _) E3.out HR.out E2.out ((HK.setCell (p := ⟨B, 1, none⟩) (.inl rfl) _).setCell (p := ⟨B, 0, none⟩) (.inl rfl) _)
    · have e2 : edRest p ((a, bg) :: r) = (a, bg) :: r := if_neg ha
      have e3 : edPass p i ((a, bg) :: r) = i := if_neg ha
      have E2 := Lib.hid e2
      have E3 := Lib.hid e3
      have e1 : (a == p) = false := beq_eq_false_iff_ne.2 ha
      clear hc h2 e2 e3
      go_enter Try.func61, Try.ntmps61
      go_wp2_with (go_at_call 60; refine hN.mono ?_; clear hN; rintro e _ ⟨rfl, rfl⟩)
      go_end0
      exact PassPost.mk hB E3.out (fun _ q => q) E2.out (Keep.refl _ _ _)
end Go.Proofs.Ytlofeaodpblagaa
