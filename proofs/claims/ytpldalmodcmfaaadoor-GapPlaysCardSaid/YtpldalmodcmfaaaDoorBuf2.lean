/- A buffer's parts. -/
import Derived.Test.YtpldalmodcmfaaaDoorBuf
namespace Go.Proofs.YtpldalmodcmfaaaDoor
open Go.RowKit

/-- What parts tells: the runes from a place on, those ahead of the gap and those behind it. -/
def PartsPost (zs ys : List Int) (at' n : Nat) (w : World) (e : Ending) (w' : World) : Prop :=
  ∃ v1 v2, e = .returned (.tuple #[v1, v2]) ∧ (∃ q, w' = w.drewN q) ∧ Reads32 w v1 ((zs.drop at').take n) ∧ Reads32 w v2 ((ys.drop (at' - zs.length)).take (n - (zs.length - at')))

def PartsRaw (ao : Option Addr) (G at' n m : Nat) (w : World) (e : Ending) (w' : World) : Prop :=
  ∃ a1 a2 p1 p2 q1 q2, e = .returned (.tuple #[.slice a1 p1 q1, .slice a2 p2 q2]) ∧ p1 = m - at' ∧ p2 = at' + n - m ∧ (∃ q, w' = w.drewN q) ∧
    (0 < m - at' → ∀ g, ao = some ⟨g, 0, none⟩ → a1 = some ⟨g, at', none⟩) ∧ (0 < at' + n - m → ∀ g, ao = some ⟨g, 0, none⟩ → a2 = some ⟨g, m + G, none⟩)

set_option maxRecDepth 100000 in
set_option maxHeartbeats 4000000 in
theorem parts_a {B : Nat} {w : World} {f G y cap at' n g : Nat} (h0 : w.cell? ⟨B, 0, none⟩ = some (.slice (some ⟨g, 0, none⟩) (f + (G + y)) cap)) (h1 : w.cell? ⟨B, 1, none⟩ = some (.int .i64 f)) (h2 : w.cell? ⟨B, 2, none⟩ = some (.int .i64 (f + G : Nat)))
    (hf : f + G + y ≤ 20000) (hc : f + (G + y) ≤ cap) (hm : cap ≤ maxLen) (hn : at' + n ≤ f + y) (ca : (at' : Int) < f) (cb : (f : Int) ≤ (at' : Int) + n) :
    Calls Tryd.prog 49 #[.pointer (some ⟨B, 0, none⟩), .int .i64 at', .int .i64 n] w (PartsRaw (some ⟨g, 0, none⟩) G at' n f w) := by
  have hw := fun q => width_at (B := B) (w := w.drewN q) (f := f) (t := G) h1 h2 (by omega)
  have hw0 := width_at (B := B) (w := w) (f := f) (t := G) h1 h2 (by omega)
  unfold maxLen at hm
  have e1 : IntKind.i64.wrap (((f : Nat) : Int) + (G : Int)) = ((f + G : Nat) : Int) := by rw [show (((f : Nat) : Int) + (G : Int)) = ((f + G : Nat) : Int) by omega]; exact IntWalk.i64_in _ (by omega)
  have e2 : IntKind.i64.wrap (((at' : Int) + (n : Int)) + (G : Int)) = ((at' + n + G : Nat) : Int) := by rw [show (((at' : Int) + (n : Int)) + (G : Int)) = ((at' + n + G : Nat) : Int) by omega]; exact IntWalk.i64_in _ (by omega)
  have e3 : IntKind.i64.wrap (((at' + n : Nat) : Int) + (G : Int)) = ((at' + n + G : Nat) : Int) := by rw [show (((at' + n : Nat) : Int) + (G : Int)) = ((at' + n + G : Nat) : Int) by omega]; exact IntWalk.i64_in _ (by omega)
  have i2 : ((f + G : Nat) : Int) ≤ ((at' + n + G : Nat) : Int) := by omega
  have i3 : ((at' + n + G : Nat) : Int) ≤ (cap : Int) := by omega
  have i4 : ((f : Nat) : Int) ≤ (cap : Int) := by omega
  have i5 : (at' : Int) ≤ ((f : Nat) : Int) := by omega
  go_enter Tryd.func49, Tryd.ntmps49
  go_wp2_with (go_at_call 32; (first | refine hw0.mono ?_ | refine (hw _).mono ?_); rintro e _ ⟨rfl, q, rfl⟩)
  go_quiet (fail)
  go_wp2
  all_goals
    go_ret2
    exact ⟨_, _, _, _, _, _, rfl, by omega, by omega, ⟨_, rfl⟩, fun h g' hg => by first | omega | (cases hg; rfl), fun h g' hg => by first | omega | (cases hg; rfl)⟩

set_option maxRecDepth 100000 in
set_option maxHeartbeats 4000000 in
theorem parts_b {B : Nat} {w : World} {f G y cap at' n g : Nat} (h0 : w.cell? ⟨B, 0, none⟩ = some (.slice (some ⟨g, 0, none⟩) (f + (G + y)) cap)) (h1 : w.cell? ⟨B, 1, none⟩ = some (.int .i64 f)) (h2 : w.cell? ⟨B, 2, none⟩ = some (.int .i64 (f + G : Nat)))
    (hf : f + G + y ≤ 20000) (hc : f + (G + y) ≤ cap) (hm : cap ≤ maxLen) (hn : at' + n ≤ f + y) (ca : (at' : Int) < f) (cb : ¬ ((f : Int) ≤ (at' : Int) + n)) :
    Calls Tryd.prog 49 #[.pointer (some ⟨B, 0, none⟩), .int .i64 at', .int .i64 n] w (PartsRaw (some ⟨g, 0, none⟩) G at' n (at' + n) w) := by
  have hw := fun q => width_at (B := B) (w := w.drewN q) (f := f) (t := G) h1 h2 (by omega)
  have hw0 := width_at (B := B) (w := w) (f := f) (t := G) h1 h2 (by omega)
  unfold maxLen at hm
  have e1 : IntKind.i64.wrap ((((at' + n) : Nat) : Int) + (G : Int)) = (((at' + n) + G : Nat) : Int) := by rw [show ((((at' + n) : Nat) : Int) + (G : Int)) = (((at' + n) + G : Nat) : Int) by omega]; exact IntWalk.i64_in _ (by omega)
  have e2 : IntKind.i64.wrap (((at' : Int) + (n : Int)) + (G : Int)) = ((at' + n + G : Nat) : Int) := by rw [show (((at' : Int) + (n : Int)) + (G : Int)) = ((at' + n + G : Nat) : Int) by omega]; exact IntWalk.i64_in _ (by omega)
  have e3 : IntKind.i64.wrap (((at' + n : Nat) : Int) + (G : Int)) = ((at' + n + G : Nat) : Int) := by rw [show (((at' + n : Nat) : Int) + (G : Int)) = ((at' + n + G : Nat) : Int) by omega]; exact IntWalk.i64_in _ (by omega)
  have i2 : (((at' + n) + G : Nat) : Int) ≤ ((at' + n + G : Nat) : Int) := by omega
  have i3 : ((at' + n + G : Nat) : Int) ≤ (cap : Int) := by omega
  have i4 : (((at' + n) : Nat) : Int) ≤ (cap : Int) := by omega
  have i5 : (at' : Int) ≤ (((at' + n) : Nat) : Int) := by omega
  go_enter Tryd.func49, Tryd.ntmps49
  go_wp2_with (go_at_call 32; (first | refine hw0.mono ?_ | refine (hw _).mono ?_); rintro e _ ⟨rfl, q, rfl⟩)
  go_quiet (fail)
  go_wp2
  all_goals
    go_ret2
    exact ⟨_, _, _, _, _, _, rfl, by omega, by omega, ⟨_, rfl⟩, fun h g' hg => by first | omega | (cases hg; rfl), fun h g' hg => by first | omega | (cases hg; rfl)⟩

set_option maxRecDepth 100000 in
set_option maxHeartbeats 4000000 in
theorem parts_c {B : Nat} {w : World} {f G y cap at' n g : Nat} (h0 : w.cell? ⟨B, 0, none⟩ = some (.slice (some ⟨g, 0, none⟩) (f + (G + y)) cap)) (h1 : w.cell? ⟨B, 1, none⟩ = some (.int .i64 f)) (h2 : w.cell? ⟨B, 2, none⟩ = some (.int .i64 (f + G : Nat)))
    (hf : f + G + y ≤ 20000) (hc : f + (G + y) ≤ cap) (hm : cap ≤ maxLen) (hn : at' + n ≤ f + y) (ca : ¬ ((at' : Int) < f)) :
    Calls Tryd.prog 49 #[.pointer (some ⟨B, 0, none⟩), .int .i64 at', .int .i64 n] w (PartsRaw (some ⟨g, 0, none⟩) G at' n at' w) := by
  have hw := fun q => width_at (B := B) (w := w.drewN q) (f := f) (t := G) h1 h2 (by omega)
  have hw0 := width_at (B := B) (w := w) (f := f) (t := G) h1 h2 (by omega)
  unfold maxLen at hm
  have e1 : IntKind.i64.wrap (((at' : Nat) : Int) + (G : Int)) = ((at' + G : Nat) : Int) := by rw [show (((at' : Nat) : Int) + (G : Int)) = ((at' + G : Nat) : Int) by omega]; exact IntWalk.i64_in _ (by omega)
  have e2 : IntKind.i64.wrap (((at' : Int) + (n : Int)) + (G : Int)) = ((at' + n + G : Nat) : Int) := by rw [show (((at' : Int) + (n : Int)) + (G : Int)) = ((at' + n + G : Nat) : Int) by omega]; exact IntWalk.i64_in _ (by omega)
  have e3 : IntKind.i64.wrap (((at' + n : Nat) : Int) + (G : Int)) = ((at' + n + G : Nat) : Int) := by rw [show (((at' + n : Nat) : Int) + (G : Int)) = ((at' + n + G : Nat) : Int) by omega]; exact IntWalk.i64_in _ (by omega)
  have i2 : ((at' + G : Nat) : Int) ≤ ((at' + n + G : Nat) : Int) := by omega
  have i3 : ((at' + n + G : Nat) : Int) ≤ (cap : Int) := by omega
  have i4 : ((at' : Nat) : Int) ≤ (cap : Int) := by omega
  go_enter Tryd.func49, Tryd.ntmps49
  go_wp2_with (go_at_call 32; (first | refine hw0.mono ?_ | refine (hw _).mono ?_); rintro e _ ⟨rfl, q, rfl⟩)
  go_quiet (fail)
  go_wp2
  all_goals
    go_ret2
    exact ⟨_, _, _, _, _, _, rfl, by omega, by omega, ⟨_, rfl⟩, fun h g' hg => by first | omega | (cases hg; rfl), fun h g' hg => by first | omega | (cases hg; rfl)⟩

end Go.Proofs.YtpldalmodcmfaaaDoor
