/- The program's frames: a field read. -/
import Derived.Test.YtckknopjhmpnhaaFrameField
import Derived.Test.YtckknopjhmpnhaaRefFrameGet
import Derived.Deep.RegionHeld
namespace Go.Proofs.Ytckknopjhmpnhaa
open Go.RowKit Go.Shelf

theorem ck2 {B F : Nat} {w w' : World} {p : Addr} {v : Value} (hk : Keep (fun k => k = B ∨ k = F) w.heap.size w w') (h1 : p.block ≠ B) (h2 : p.block ≠ F) (h : w.cell? p = some v) : w'.cell? p = some v := by
  rcases Nat.lt_or_ge p.block w.heap.size with g | g
  · rw [hk.cell g (fun q => q.elim h1 h2)]
    exact h
  · simp [World.cell?, Array.getElem?_eq_none g] at h
theorem cset {w : World} {a p : Addr} {v u : Value} (hne : p.block ≠ a.block) (h : w.cell? p = some v) : (w.setCell a u).cell? p = some v := by
  rw [World.cell?_setCell_other]
  · exact h
  · intro e; exact hne (by rw [e])

theorem Rd.cell_other {B F : Nat} {s : ByteArray} {f : Int} {w : World} (h : Rd B s f w) (hne : F ≠ B) (i : Nat) (v : Value) : Rd B s f (w.setCell ⟨F, i, none⟩ v) :=
  (box_other (fun e => hne e.symm) i v).trans h
theorem keep_two {B F : Nat} {w w1 : World} (hk : Keep (fun k => k = B) w.drew.heap.size w.drew w1) {a : Addr} (ha : a.block = B ∨ a.block = F) (v : Value) : Keep (fun k => k = B ∨ k = F) w.heap.size w (w1.setCell a v) :=
  (((Keep.refl (fun k => k = B ∨ k = F) w.heap.size w).drewN 1).trans (hk.weak (Nat.le_refl _) (fun _ _ h => .inl h))).setCell (.inl ha) v
set_option maxRecDepth 100000 in
set_option maxHeartbeats 2000000 in
theorem numRead_any (p m F i B R most : Nat) (hmost : most ≤ 1099511627776) (l : List UInt8) (f : Int) (hl : l.length ≤ 1000000000) (cs : Array Value) (v0 : Value) (w : World)
    (hp : w.cell? ⟨p, 0, none⟩ = some (.pointer (some ⟨F, i, none⟩))) (hm : w.cell? ⟨m, 0, none⟩ = some (.int .u64 most)) (hR : w.cell? ⟨R, 0, none⟩ = some (.pointer (some ⟨B, 0, none⟩)))
    (hrd : Rd B ⟨l.toArray⟩ f w) (hF : w.heap[F]? = some (.cells cs 28 (0, 0))) (hi : cs[i]? = some v0)
    (n1 : p ≠ B) (n2 : m ≠ B) (n3 : R ≠ B) (n4 : F ≠ B) (n5 : p ≠ F) (n6 : m ≠ F) (n7 : R ≠ F) :
    Calls Try.prog 38 #[.pointer (some ⟨R, 0, none⟩), .pointer (some ⟨m, 0, none⟩), .pointer (some ⟨p, 0, none⟩)] w fun e w' =>
      e = .returned (.tuple #[]) ∧ Rd B ⟨(numS (l, f) most).1.1.toArray⟩ (numS (l, f) most).1.2 w' ∧ w'.heap[F]? = some (.cells (cs.setIfInBounds i (.int .i64 (numS (l, f) most).2)) 28 (0, 0)) ∧ Keep (fun k => k = B ∨ k = F) w.heap.size w w' := by
  have hN := numR_any B l f most w.drew hrd.drew hl
  have hle := numS_le (l, f) most
  obtain ⟨r', n, hr⟩ : ∃ r' n, numS (l, f) most = (r', n) := ⟨_, _, rfl⟩
  rw [hr] at hN hle ⊢
  simp only at hN hle ⊢
  clear hr
  have hw : IntKind.i64.wrap (n : Int) = (n : Int) := by simp only [IntKind.wrap_i64]; omega
  go_enter Try.func38, Try.ntmps38
  go_wp2
  go_region_held (fun W => W.cell? ⟨p, 0, none⟩ = some (.pointer (some ⟨F, i, none⟩)) ∧ W.cell? ⟨m, 0, none⟩ = some (.int .u64 most) ∧ W.cell? ⟨R, 0, none⟩ = some (.pointer (some ⟨B, 0, none⟩)))
    (first | exact ⟨hp, hm, hR⟩ | exact ⟨ck hk n1 hp, ck hk n2 hm, ck hk n3 hR⟩ | exact ⟨cset n5 (ck hk n1 hp), cset n6 (ck hk n2 hm), cset n7 (ck hk n3 hR)⟩)
    (first | (go_at_call 39; refine hN.mono ?_; rintro e w1 ⟨rfl, hrd', hk⟩; have hF' := (hk.block F (box_lt hF) n4).trans hF; have hc := (cell_of_row _ _ i _ _ _ hF').trans hi; have hz := frozen_of_row _ _ i _ _ hF'))
  exact bodyPost_end (results_none rfl _ _ _) rfl ⟨rfl, hrd'.cell_other n4 _ _, box_set hF' i _, keep_two (F := F) (a := ⟨F, i, none⟩) hk (Or.inr rfl) _⟩

set_option maxRecDepth 100000 in
set_option maxHeartbeats 2000000 in
theorem rowRead_any (p F i B R : Nat) (l : List UInt8) (f : Int) (hl : l.length ≤ 1000000000) (cs : Array Value) (v0 : Value) (w : World)
    (hp : w.cell? ⟨p, 0, none⟩ = some (.pointer (some ⟨F, i, none⟩))) (hR : w.cell? ⟨R, 0, none⟩ = some (.pointer (some ⟨B, 0, none⟩)))
    (hrd : Rd B ⟨l.toArray⟩ f w) (hF : w.heap[F]? = some (.cells cs 28 (0, 0))) (hi : cs[i]? = some v0)
    (n1 : p ≠ B) (n3 : R ≠ B) (n4 : F ≠ B) (n5 : p ≠ F) (n7 : R ≠ F) :
    Calls Try.prog 42 #[.pointer (some ⟨R, 0, none⟩), .pointer (some ⟨p, 0, none⟩)] w fun e w' =>
      e = .returned (.tuple #[]) ∧ Rd B ⟨(textS (l, f) 1048576).1.1.toArray⟩ (textS (l, f) 1048576).1.2 w' ∧ w'.heap[F]? = some (.cells (cs.setIfInBounds i (.string ⟨(textS (l, f) 1048576).2.toArray⟩)) 28 (0, 0)) ∧ Keep (fun k => k = B ∨ k = F) w.heap.size w w' := by
  have hN := textR_any B l f 1048576 1048576 (by decide) (by decide) w.drew hrd.drew hl
  obtain ⟨r', x, hr⟩ : ∃ r' x, textS (l, f) 1048576 = (r', x) := ⟨_, _, rfl⟩
  rw [hr] at hN ⊢
  simp only at hN ⊢
  clear hr
  go_enter Try.func42, Try.ntmps42
  go_wp2
  go_region_held (fun W => W.cell? ⟨p, 0, none⟩ = some (.pointer (some ⟨F, i, none⟩)) ∧ W.cell? ⟨R, 0, none⟩ = some (.pointer (some ⟨B, 0, none⟩)))
    (first | exact ⟨hp, hR⟩ | exact ⟨ck hk n1 hp, ck hk n3 hR⟩ | exact ⟨cset n5 (ck hk n1 hp), cset n7 (ck hk n3 hR)⟩)
    (first | (go_at_call 43; refine hN.mono ?_; rintro e w1 ⟨rfl, hrd', hk⟩; have hF' := (hk.block F (box_lt hF) n4).trans hF; have hc := (cell_of_row _ _ i _ _ _ hF').trans hi; have hz := frozen_of_row _ _ i _ _ hF'))
  exact bodyPost_end (results_none rfl _ _ _) rfl ⟨rfl, hrd'.cell_other n4 _ _, box_set hF' i _, keep_two (F := F) (a := ⟨F, i, none⟩) hk (Or.inr rfl) _⟩
end Go.Proofs.Ytckknopjhmpnhaa
