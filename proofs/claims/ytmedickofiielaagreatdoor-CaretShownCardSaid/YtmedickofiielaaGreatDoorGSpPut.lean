/- Texts of this proof, joined. -/
import Derived.Test.YtmedickofiielaaGreatDoorGNameEq
import Derived.Test.YtmedickofiielaaGreatDoorGReads64
import Derived.Deep.RegionHeld
import Derived.RangeFuncBox
import Derived.Deep.RegionLaw
import Derived.Deep.CutRange
import Derived.Deep.DeepCutAuto
namespace Go.Proofs.YtmedickofiielaaGreatDoor
open Go.RowKit

set_option maxRecDepth 100000 in
set_option maxHeartbeats 2000000 in
theorem spEnd_any (s : Sp) (W : World) : Calls Tryz.prog 88 #[.agg #[.int .i64 s.1, .int .i64 s.2]] W fun e W' => e = .returned (.int .i64 (spEnd s)) ∧ W' = W.alloc (.cells #[.int .i64 s.1, .int .i64 s.2] 120) := by
 obtain ⟨a, b⟩ := s
 show Calls Tryz.prog 88 #[.agg #[.int .i64 a, .int .i64 b]] W fun e W' => e = .returned (.int .i64 (IntKind.i64.wrap (a + b))) ∧ W' = W.alloc (.cells #[.int .i64 a, .int .i64 b] 120)
 go_enter Tryz.func88, Tryz.ntmps88
 go_wp2
 go_ret
 exact ⟨ret_i64 (by unfold wrap64; exact (IntKind.wrap_i64 _).symm), rfl⟩
def PutH (N g cap k : Nat) (L : List Sp) (p q : Int) (w0 W : World) : Prop :=
 W.ownsRow N 120 2 (.slice (some ⟨g, 0, none⟩) (k + 1) cap) (k + 1) (spCells L) ∧ W.cell? ⟨g, k * 2, none⟩ = some (.int .i64 p) ∧ W.cell? ⟨g, k * 2 + 1, none⟩ = some (.int .i64 q) ∧ W.frozen? ⟨g, k * 2 + 1, none⟩ = false ∧ g < W.heap.size ∧ Below N w0 W
theorem PutH.drew {N g cap k : Nat} {L : List Sp} {p q : Int} {w0 W : World} (h : PutH N g cap k L p q w0 W) : PutH N g cap k L p q w0 W.drew := ⟨h.1, h.2.1, h.2.2.1, h.2.2.2.1, h.2.2.2.2.1, h.2.2.2.2.2.drew⟩
theorem PutH.alloc {N g cap k : Nat} {L : List Sp} {p q : Int} {w0 W : World} (h : PutH N g cap k L p q w0 W) (hN : N ≤ g) (o : Obj) : PutH N g cap k L p q w0 (W.alloc o) := by
 obtain ⟨h1, h2, h3, h4, h5, h6⟩ := h
 have hb : Below W.heap.size W (W.alloc o) := (Below.refl _ W).alloc (Nat.le_refl _) o
 have fr : (W.alloc o).frozen? ⟨g, k * 2 + 1, none⟩ = W.frozen? ⟨g, k * 2 + 1, none⟩ := (frozen_kept h3 (World.grownBy_alloc W o none) (fun r e => by cases e))
 exact ⟨h1.alloc o, cell_stays hb h2, cell_stays hb h3, fr.trans h4, by simp; omega, h6.alloc (by omega) o⟩
def PutPost (N : Nat) (u : Value) (l : List Sp) (W : World) (e : Ending) (W' : World) : Prop :=
 ∃ v, e = .returned v ∧ W'.ownsRow N 120 2 v l.length (spCells l) ∧ Below N W W' ∧ Keep (fun q => u.ownBlock = some q) W.heap.size W W' ∧ (v.ownBlock = u.ownBlock ∨ ∀ g, v.ownBlock = some g → W.heap.size ≤ g)
set_option maxRecDepth 100000 in
set_option maxHeartbeats 4000000 in
theorem sput_any (N : Nat) (v : Value) (l : List Sp) (a b : Int) (W : World) (hN : N ≤ W.heap.size) (hown : W.ownsRow N 120 2 v l.length (spCells l)) (hl : l.length ≤ 4000000)
  (hg : ∀ s ∈ l, 0 ≤ s.1 ∧ s.1 ≤ 20000 ∧ 0 ≤ s.2 ∧ s.2 ≤ 20000) (ha : -100000 ≤ a ∧ a ≤ 100000) (hb : -100000 ≤ b ∧ b ≤ 100000) :
  Calls Tryz.prog 105 #[v, .int .i64 a, .int .i64 b] W (PutPost N v (putL l a b) W) := by
 obtain ⟨i0, hi, hz0, hz1, hz2⟩ := info_parts infoSpan
 have Hown := Lib.hid hown
 clear hown
 by_cases hab : a = b
 ·subst hab
  rw [putL_same]
  clear hi hz0 hz1 hz2
  go_enter Tryz.func105, Tryz.ntmps105
  go_wp2
  go_ret
  exact ⟨v, rfl, Hown.out, Below.refl _ _, Keep.refl _ _ _, .inl rfl⟩
 have hab' : (a == b) = false := beq_eq_false_iff_ne.2 hab
 have hw1 : IntKind.i64.wrap (b - a) = b - a := by simp only [IntKind.wrap_i64]; omega
 by_cases hnil : l = []
 ·subst hnil
  rw [putL_nil hab]
  have hv : v = .slice none 0 0 ∨ ∃ g cap, v = .slice (some ⟨g, 0, none⟩) 0 cap := by
   rcases Hown.out.2 with ⟨h, _⟩ | ⟨g, cap, cur, h, _⟩
   ·exact .inl h
   ·exact .inr ⟨g, cap, h⟩
  rcases hv with rfl | ⟨g, cap, rfl⟩
  all_goals
   go_enter Tryz.func105, Tryz.ntmps105
   go_wp2_with (at_builtin; refine wpList_append_where2 rfl _ _ 37 rfl N 120 i0 (.agg #[.int .i64 0, .int .i64 0]) 2 16 Tryz.underlying37 hi hz0 hz1 hz2 rfl (by decide) _ _ _ rfl (Hown.out.alloc _) ⟨W.heap.size, 0, none⟩ 1 [.int .i64 a, .int .i64 (b - a)] rfl rfl ?c1 ?c2 ?c3 (by decide) ?c5 ?_)
   case c1 =>
    intro j u hj
    match j, hj with
    | 0, hj => simp at hj; subst hj; simp [Addr.add]
    | 1, hj => simp at hj; subst hj; simp [Addr.add]
   case c2 => intro u hu; simp at hu; rcases hu with rfl | rfl <;> rfl
   case c3 => simp
   case c5 => simp; omega
   intro v' w2 hown' hgrow hwh
   have HN := Lib.hid hown'
   have HK : Keep (fun q => (_ : Value).ownBlock = some q) W.heap.size W w2 := ((Keep.refl _ W.heap.size W).alloc (Nat.le_refl _) _).grown hgrow (by simp) (fun g hg => .inl hg)
   have HK := Lib.hid HK
   have HWH : v'.ownBlock = _ ∨ ∀ g, v'.ownBlock = some g → W.heap.size ≤ g := hwh.imp id (fun e g hg => by rw [e] at hg; cases hg; simp)
   have HWH := Lib.hid HWH
   clear hwh
   have HBN := Lib.hid (((Below.refl N W).alloc hN _).grown hgrow (by simp; omega) (fun g hg => (Hown.out.lt g hg).1))
   clear hown' hgrow
   go_wp2
   go_ret
   exact ⟨_, rfl, HN.out, HBN.out, HK.out, HWH.out⟩
 obtain ⟨r, s, rfl⟩ := list_end hnil
 obtain ⟨k, hk⟩ : ∃ k, r.length = k := ⟨_, rfl⟩
 have hlen : (r ++ [s]).length = k + 1 := by simp [hk]
 have hown := Hown.out
 rw [hlen] at hown hl
 obtain ⟨g, cap, rfl, hgb, hgl⟩ := ownsRow_form hown (by omega)
 have hs := hg s (by simp)
 have c0 := hown.cellAt (k * 2) (by omega)
 have c1 := hown.cellAt (k * 2 + 1) (by omega)
 obtain ⟨d0, d1⟩ := spCells_at (r ++ [s]) k (by omega)
 rw [show ((r ++ [s]).getD k (0, 0)) = s by simp [List.getD, ← hk]] at d0 d1
 rw [d0] at c0
 rw [d1] at c1
 have hE := spEnd_any s
 rw [spEnd_ok (by omega) (by omega)] at hE
 have hfro := hown.frozenAt (k * 2 + 1)
 by_cases ht : a ≤ s.1 + s.2
 ·rw [putL_touch hab ht]
  obtain ⟨E, hE0⟩ : ∃ E, s.1 + s.2 = E := ⟨_, rfl⟩
  obtain ⟨M, hM⟩ : ∃ M, max E b = M := ⟨_, rfl⟩
  rw [hE0] at hE ht ⊢
  rw [hM]
  have hlen2 : (r ++ [(s.1, M - s.1)]).length = k + 1 := by simp [hk]
  have hst : ∀ W : World, W.ownsRow N 120 2 (.slice (some ⟨g, 0, none⟩) (k + 1) cap) (k + 1) (spCells (r ++ [s])) → (W.setCell ⟨g, k * 2 + 1, none⟩ (.int .i64 (M - s.1))).ownsRow N 120 2 (.slice (some ⟨g, 0, none⟩) (k + 1) cap) (r ++ [(s.1, M - s.1)]).length (spCells (r ++ [(s.1, M - s.1)])) := fun W q => by
   have := (q.stored (k * 2 + 1) (.int .i64 (M - s.1))).1
   rw [← hk, spCells_bump, hk] at this
   rw [hlen2]
   exact this
  have Hst := Lib.hid hst
  have hH0 : PutH N g cap k (r ++ [s]) s.1 s.2 W W := ⟨hown, c0, c1, hfro, hgl, Below.refl _ _⟩
  have hH1 := hH0.alloc hgb (.cells #[.int .i64 s.1, .int .i64 s.2] 120)
  have hw2 : IntKind.i64.wrap (M - s.1) = M - s.1 := by simp only [IntKind.wrap_i64]; omega
  have HM := Lib.hid hM
  have Hown2 := Lib.hid hown
  obtain ⟨p, q⟩ := s
  dsimp only at *
  have HMX := Lib.hid (show (if E < b then b else E) = M by rw [← hM]; split <;> omega)
  clear hst hM hown hnil Hown hg hlen hlen2 hi hz0 hz1 hz2 d0 d1
  have e1 : (((k + 1 : Nat) : Int) - 1).toNat = k := by omega
  have e2 : IntKind.i64.wrap (((k + 1 : Nat) : Int) - 1) = ((k + 1 : Nat) : Int) - 1 := by simp only [IntKind.wrap_i64]; omega
  have e3 : (0 : Int) ≤ ((k + 1 : Nat) : Int) - 1 ∧ ((k + 1 : Nat) : Int) - 1 < ((k + 1 : Nat) : Int) := ⟨by omega, by omega⟩
  have e4 : decide ((0 : Int) ≤ ((k + 1 : Nat) : Int) - 1) = true := decide_eq_true (by omega)
  go_enter Tryz.func105, Tryz.ntmps105
  go_wp2_with (go_at_call 88; refine (hE _).mono ?_; rintro e _ ⟨rfl, rfl⟩)
  clear c0 c1 hfro
  obtain ⟨W1, hW1⟩ : ∃ X, W.alloc (.cells #[.int .i64 p, .int .i64 q] 120) = X := ⟨_, rfl⟩
  have HKW := Lib.hid (show Keep (fun q => (Value.slice (some ⟨g, 0, none⟩) (k + 1) cap).ownBlock = some q) W.heap.size W W1 from hW1 ▸ (Keep.refl _ _ _).alloc (Nat.le_refl _) _)
  rw [hW1] at hH1 ⊢
  have hH2 := hH1.drew.alloc hgb (.cells #[.int .i64 p, .int .i64 q] 120)
  obtain ⟨_, c0, c1, hfro, _, _⟩ := id hH1
  obtain ⟨_, d0, d1, dfro, _, _⟩ := id hH2
  have HH1 := Lib.hid hH1
  have HH2 := Lib.hid hH2
  clear hW1 hH0 hH1 hH2
  have e5 : (0 : Int) ≤ (k : Int) ∧ (k : Int) < (k : Int) + 1 := ⟨by omega, by omega⟩
  have e6 : (0 : Int) ≤ (k : Int) ∧ (k : Int) < ((k + 1 : Nat) : Int) := ⟨by omega, by omega⟩
  have e7 : ((k : Int)).toNat = k := rfl
  go_cut [0] (fun u X => u = .slice (some ⟨g, 0, none⟩) (k + 1) cap ∧ X.ownsRow N 120 2 (.slice (some ⟨g, 0, none⟩) (k + 1) cap) (r ++ [(p, M - p)]).length (spCells (r ++ [(p, M - p)])) ∧ Below N W X ∧ Keep (fun q => (Value.slice (some ⟨g, 0, none⟩) (k + 1) cap).ownBlock = some q) W.heap.size W X)
  case first =>
   go_region_law ((go_simp; go_at_call 88; refine (hE _).mono ?_; rintro e _ ⟨rfl, rfl⟩))
   all_goals rw [HMX.out, hw2]
   all_goals go_wp2_with fail
   all_goals go_meet
   all_goals exact ⟨rfl, (Hst.out _ HH1.out.1).alloc _, ((HH1.out.2.2.2.2.2.setCell (p := ⟨g, k * 2 + 1, none⟩) hgb _).alloc (by have := HH1.out.2.2.2.2.1; simp [World.setCell]; omega) _).drew, (((HKW.out.setCell (p := ⟨g, k * 2 + 1, none⟩) (.inl rfl) _).alloc (by have := HKW.out.size; simp [World.setCell]; omega) _).drewN 1)⟩
  case rest =>
   obtain ⟨rfl, ho, hB, hK⟩ := hcut
   have HO := Lib.hid ho
   have HB := Lib.hid hB
   have HK := Lib.hid hK
   clear ho hB hK
   go_wp2
   go_ret
   exact ⟨_, rfl, HO.out, HB.out, HK.out, .inl rfl⟩
 ·rw [putL_new hab ht]
  have ht' : decide (a ≤ s.1 + s.2) = false := decide_eq_false ht
  obtain ⟨L, hL⟩ : ∃ L, r ++ [s] = L := ⟨_, rfl⟩
  rw [hL] at hown hlen ⊢
  have Hown2 := Lib.hid hown
  have happ : ∀ (W : World) (v' : Value), W.ownsRow N 120 2 v' (k + 1 + 1) (spCells L ++ [.int .i64 a, .int .i64 (b - a)]) → W.ownsRow N 120 2 v' (L ++ [(a, b - a)]).length (spCells (L ++ [(a, b - a)])) := fun W v' q => by
   rw [show (L ++ [(a, b - a)]).length = k + 1 + 1 by simp [hlen], show spCells (L ++ [(a, b - a)]) = spCells L ++ [.int .i64 a, .int .i64 (b - a)] by rw [spCells_append]; rfl]
   exact q
  have Happ := Lib.hid happ
  have e1 : (((k + 1 : Nat) : Int) - 1).toNat = k := by omega
  have e2 : IntKind.i64.wrap (((k + 1 : Nat) : Int) - 1) = ((k + 1 : Nat) : Int) - 1 := by simp only [IntKind.wrap_i64]; omega
  have e3 : (0 : Int) ≤ ((k + 1 : Nat) : Int) - 1 ∧ ((k + 1 : Nat) : Int) - 1 < ((k + 1 : Nat) : Int) := ⟨by omega, by omega⟩
  have e4 : decide ((0 : Int) ≤ ((k + 1 : Nat) : Int) - 1) = true := decide_eq_true (by omega)
  clear happ hown hL hlen hnil Hown hg
  go_enter Tryz.func105, Tryz.ntmps105
  go_wp2_with (first | (go_at_call 88; refine (hE _).mono ?_; rintro e _ ⟨rfl, rfl⟩) | (at_builtin; refine wpList_append_where2 rfl _ _ 37 rfl N 120 i0 (.agg #[.int .i64 0, .int .i64 0]) 2 16 Tryz.underlying37 hi hz0 hz1 hz2 rfl (by decide) _ _ _ rfl ((Hown2.out.alloc _).alloc _) ⟨W.heap.size + 1, 0, none⟩ 1 [.int .i64 a, .int .i64 (b - a)] rfl rfl ?c1 ?c2 ?c3 (by decide) ?c5 ?_))
  case c1 =>
   intro j u hj
   match j, hj with
   | 0, hj => simp at hj; subst hj; simp [Addr.add]
   | 1, hj => simp at hj; subst hj; simp [Addr.add]
  case c2 => intro u hu; simp at hu; rcases hu with rfl | rfl <;> rfl
  case c3 => omega
  case c5 => simp; omega
  intro v' w2 hown' hgrow hwh
  have HN := Lib.hid (Happ.out _ _ hown')
  have HK : Keep (fun q => (_ : Value).ownBlock = some q) W.heap.size W w2 := (((Keep.refl _ W.heap.size W).alloc (Nat.le_refl _) _).alloc (by rw [World.size_alloc]; omega) _).grown hgrow (by rw [World.size_alloc, World.size_alloc]; omega) (fun g hg => .inl hg)
  have HK := Lib.hid HK
  have HWH : v'.ownBlock = _ ∨ ∀ g, v'.ownBlock = some g → W.heap.size ≤ g := hwh.imp id (fun e g hg => by rw [e] at hg; cases hg; omega)
  have HWH := Lib.hid HWH
  clear hwh
  have HBN := Lib.hid ((((Below.refl N W).alloc hN _).alloc (by simp; omega) _).grown hgrow (by simp; omega) (fun g hg => (Hown2.out.lt g hg).1))
  clear hown' hgrow
  go_wp2
  go_ret
  exact ⟨_, rfl, HN.out, HBN.out, HK.out, HWH.out⟩
end Go.Proofs.YtmedickofiielaaGreatDoor

namespace Go.Proofs.YtmedickofiielaaGreatDoor
open Go.RowKit

theorem SpAt.kept {S : Nat → Prop} {W W' : World} {v : Value} {xs : List Sp} (h : SpAt W v xs) (hk : Keep S W.heap.size W W') (hS : ∀ b, v.ownBlock = some b → ¬ S b) : SpAt W' v xs := by
 obtain ⟨ao, cap, rfl, h2⟩ := h
 refine ⟨ao, cap, rfl, fun hx => ?_⟩
 obtain ⟨b, off, rfl, hc⟩ := h2 hx
 have key : ∀ o u, W.cell? ⟨b, o, none⟩ = some u → W'.cell? ⟨b, o, none⟩ = some u := fun o u q => (hk.cell (p := ⟨b, o, none⟩) (World.block_lt_of_cell? W _ q) (hS b rfl)).trans q
 exact ⟨b, off, rfl, fun i hi => ⟨key _ _ (hc i hi).1, key _ _ (hc i hi).2⟩⟩
end Go.Proofs.YtmedickofiielaaGreatDoor
