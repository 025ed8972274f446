/- spans.lay: spans laid behind a list. -/
import Derived.Test.YtlofeaodpblagaaSpPut
import Derived.Deep.CutRange
import Derived.Deep.DeepCutAuto
import Derived.Deep.RegionLaw
namespace Go.Proofs.Ytlofeaodpblagaa
open Go.RowKit

theorem SpAt.kept {S : Nat → Prop} {W W' : World} {v : Value} {xs : List Sp} (h : SpAt W v xs) (hk : Keep S W.heap.size W W') (hS : ∀ b, v.ownBlock = some b → ¬ S b) : SpAt W' v xs := by
  obtain ⟨ao, cap, rfl, h2⟩ := h
  refine ⟨ao, cap, rfl, fun hx => ?_⟩
  obtain ⟨b, off, rfl, hc⟩ := h2 hx
  have key : ∀ o u, W.cell? ⟨b, o, none⟩ = some u → W'.cell? ⟨b, o, none⟩ = some u := fun o u q => (hk.cell (p := ⟨b, o, none⟩) (World.block_lt_of_cell? W _ q) (hS b rfl)).trans q
  exact ⟨b, off, rfl, fun i hi => ⟨key _ _ (hc i hi).1, key _ _ (hc i hi).2⟩⟩
theorem ownsRow_stays {W W' : World} {M : Nat} {t : TypeId} {size : Nat} {v : Value} {k : Nat} {xs : List Value} (h : W.ownsRow M t size v k xs) (hb : Below W.heap.size W W') : W'.ownsRow M t size v k xs := by
  refine ⟨h.1, ?_⟩
  rcases h.2 with q | ⟨g, cap, cur, q1, q2, q3, q4⟩
  · exact .inl q
  · exact .inr ⟨g, cap, cur, q1, q2, (hb.block g (Array.getElem?_eq_some_iff.1 q3).1).trans q3, q4⟩
/-- What lay makes. -/
def LayPost (N : Nat) (l : List Sp) (W : World) (e : Ending) (W' : World) : Prop :=
  ∃ v, e = .returned v ∧ W'.ownsRow N 42 2 v l.length (spCells l) ∧ Below N W W'
/-- How far it has come. -/
def LayI (N : Nat) (v : Value) (l ys : List Sp) (n : Int) (k : Nat) (w : World) (lv : Value) (W : World) : Prop :=
  W.ownsRow N 42 2 lv (layL l (ys.take k) n).length (spCells (layL l (ys.take k) n)) ∧ SpAt W v ys ∧ (∀ b, v.ownBlock = some b → lv.ownBlock ≠ some b) ∧ Below N w W
set_option maxRecDepth 100000 in
set_option maxHeartbeats 4000000 in
theorem spLay_any (N : Nat) (u v : Value) (l ys : List Sp) (n a : Int) (w : World) (hN : N ≤ w.heap.size) (hu : w.ownsRow N 42 2 u l.length (spCells l)) (hv : SpAt w v ys) (hd : ∀ b, v.ownBlock = some b → u.ownBlock ≠ some b)
    (hP : PutOK l a) (hb : ∀ s ∈ ys, a ≤ s.1 + n ∧ 0 ≤ s.1 + n ∧ 0 ≤ s.2 ∧ s.1 + s.2 + n ≤ 20000) (hs : ys.Pairwise fun s t => s.1 ≤ t.1) (hn0 : ys = [] ∨ (-20000 ≤ n ∧ n ≤ 20000)) (hl : l.length ≤ 1000000) (hy : ys.length ≤ 1000000) :
    Calls Try.prog 32 #[u, v, .int .i64 n] w (LayPost N (layL l ys n) w) := by
  obtain ⟨ao, cap, rfl, _⟩ := id hv
  obtain ⟨m, hm⟩ : ∃ m, ys.length = m := ⟨_, rfl⟩
  have hI0 : LayI N (.slice ao ys.length cap) l ys n 0 w u w := ⟨by rw [List.take_zero]; exact hu, hv, hd, Below.refl _ _⟩
  rw [hm] at hI0 hy hv hd ⊢
  have HM := Lib.hid hm
  have HP := Lib.hid hP
  have HB := Lib.hid hb
  have HS := Lib.hid hs
  have HN0 := Lib.hid hn0
  clear hn0
  have hE := fun s W => spEnd_any s W
  clear hm hP hb hs hu hv hd
  go_enter Try.func32, Try.ntmps32
  go_wp2_with fail
  go_loopw [0, 11] (fun lv i wr => ∃ k : Nat, i = .int .i64 k ∧ k ≤ m ∧ LayI N (.slice ao m cap) l ys n k w lv wr) (fun _ i _ => m - (intOf i).toNat)
  case atStart => exact ⟨0, rfl, Nat.zero_le _, hI0⟩
  case round =>
    obtain ⟨k, rfl, hk, ho, hR, hdi, hB⟩ := hrel
    rcases Nat.lt_or_ge k m with hlt | hge
    · have hkx : k < ys.length := by rw [HM.out]; exact hlt
      obtain ⟨b, off, cap', hvv, c0, c1⟩ := hR.at hkx
      rw [HM.out] at hvv
      cases hvv
      have hbl : b < wr.heap.size := World.block_lt_of_cell? wr _ c0
      obtain ⟨s, hss⟩ : ∃ s, ys.getD k (0, 0) = s := ⟨_, rfl⟩
      have hsm : s ∈ ys := by rw [← hss, ← getD_cell hkx]; exact List.getElem_mem hkx
      have hsb := HB.out s hsm
      have hn : -20000 ≤ n ∧ n ≤ 20000 := HN0.out.resolve_left (fun e => by rw [e] at hsm; cases hsm)
      have htk : ys.take (k + 1) = ys.take k ++ [s] := by rw [List.take_succ_eq_append_getElem hkx, ← hss, getD_cell hkx]
      have hg := (layL_ok n (ys.take k) l a HP.out (fun t ht => HB.out t (List.mem_of_mem_take ht)) (HS.out.sublist (List.take_sublist k ys))).1
      have hln := layL_length n (ys.take k) l
      rw [List.length_take] at hln
      have hnx := layL_snoc l (ys.take k) s n
      rw [← htk] at hnx
      have Hnx := Lib.hid hnx
      rw [hss] at c0 c1
      obtain ⟨L, hL⟩ : ∃ L, layL l (ys.take k) n = L := ⟨_, rfl⟩
      rw [hL] at ho hg hln Hnx
      obtain ⟨p, q⟩ := s
      dsimp only at *
      have hEs := fun W => hE (p, q) W
      rw [spEnd_ok (by dsimp only; omega) (by dsimp only; omega)] at hEs
      dsimp only at hEs
      obtain ⟨E, hEE⟩ : ∃ E, p + q = E := ⟨_, rfl⟩
      rw [hEE] at hEs hsb Hnx
      have hw1 : IntKind.i64.wrap (p + n) = p + n := by simp only [IntKind.wrap_i64]; omega
      have hw2 : IntKind.i64.wrap (E + n) = E + n := by simp only [IntKind.wrap_i64]; omega
      have hki : (0 : Int) ≤ (k : Int) ∧ (k : Int) < (m : Int) := ⟨by omega, by omega⟩
      have hput := fun W (hW : Below wr.heap.size wr W) => put_any N _ L (p + n) (E + n) W (by have := hB.size; have := hW.size; omega) (ownsRow_stays ho hW) (by omega) (fun t ht => by have := hg.1 t ht; omega) (by omega) (by omega)
      have Hdi := Lib.hid hdi
      have HR := Lib.hid hR
      have HBB := Lib.hid hB
      have Ho := Lib.hid ho
      have hb1 : Below wr.heap.size wr (wr.alloc (.cells #[.int .i64 p, .int .i64 q] 42)) := (Below.refl _ wr).alloc (Nat.le_refl _) _
      have hbox : (wr.alloc (.cells #[.int .i64 p, .int .i64 q] 42)).heap[wr.heap.size]? = some (.cells #[.int .i64 p, .int .i64 q] 42 (0, 0)) := World.alloc_heap_new wr _
      clear hdi hR hB ho hL hss htk hg hnx hE
      go_wp2_with fail
      obtain ⟨W1, hW1⟩ : ∃ X, wr.alloc (.cells #[.int .i64 p, .int .i64 q] 42) = X := ⟨_, rfl⟩
      rw [hW1] at hb1 hbox ⊢
      have d0 : W1.cell? ⟨wr.heap.size, 0, none⟩ = some (.int .i64 p) := by simp [World.cell?, hbox]
      have d1 : W1.cell? ⟨wr.heap.size, 1, none⟩ = some (.int .i64 q) := by simp [World.cell?, hbox]
      have hb2 : Below wr.heap.size wr ((W1.drew).alloc (.cells #[.int .i64 p, .int .i64 q] 42)) := (hb1.drew).alloc (by have := hb1.size; simp; omega) _
      have hput := hput _ hb2
      have e0 : (W1.alloc (.cells #[.int .i64 p, .int .i64 q] 42)).cell? ⟨wr.heap.size, 0, none⟩ = some (.int .i64 p) := cell_alloc_old d0 _
      have e1 : (W1.alloc (.cells #[.int .i64 p, .int .i64 q] 42)).cell? ⟨wr.heap.size, 1, none⟩ = some (.int .i64 q) := cell_alloc_old d1 _
      clear hW1 hbox
      go_region_law ((go_simp; first | (go_at_call 38; refine (hEs _).mono ?_; rintro e _ ⟨rfl, rfl⟩) | (go_at_call 46; refine hput.mono ?_; rintro e w5 ⟨v5, rfl, ho5, hb5, hk5, hv5⟩)))
      all_goals
        have hsz2 := hb2.size
        have hNw : N ≤ wr.heap.size := by have := HBB.out.size; omega
        have hI : LayI N (.slice (some ⟨b, off, none⟩) m cap) l ys n (k + 1) w v5 w5 := ⟨by rw [Hnx.out]; exact ho5, (HR.out.below hb2).kept hk5 Hdi.out, fun b' hb' hv' => by
          rcases hv5 with e | e
          · exact Hdi.out b' hb' (e ▸ hv')
          · have h1 := e b' hv'
            cases hb'
            have h1 : _ ≤ b := h1
            omega, HBB.out.trans ((hb2.mono hNw).trans hb5)⟩
        have HI := Lib.hid hI
        clear hI ho5 hk5 hv5 hb5
        go_wp2
        exact ⟨⟨k + 1, by go_num, by omega, HI.out⟩, by simp [intOf]; omega⟩
    · obtain rfl : k = m := by omega
      rw [List.take_of_length_le (by rw [HM.out]; exact Nat.le_refl _)] at ho
      have HO := Lib.hid ho
      have HBB := Lib.hid hB
      clear ho hR hdi hB hE
      go_wp2
      go_ret
      exact ⟨_, rfl, HO.out, HBB.out⟩
end Go.Proofs.Ytlofeaodpblagaa
