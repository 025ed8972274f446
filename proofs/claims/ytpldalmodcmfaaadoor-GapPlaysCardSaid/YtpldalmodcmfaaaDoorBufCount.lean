/- feeds: count, by sort.Search. -/
import Derived.Test.YtpldalmodcmfaaaDoorBufRead2
namespace Go.Proofs.YtpldalmodcmfaaaDoor
open Go.RowKit Go.Shelf Go.Sort Go.Lib

theorem range_getD (l : List Int) : (List.range l.length).map (fun i => l.getD i 0) = l := by
  apply List.ext_getElem
  · simp
  · intro i h1 h2
    simp [List.getD, h2]
theorem count_search (P : List Int) (m : Int) : (List.range P.length).countP (fun i => !decide (m ≤ P.getD i 0)) = cnt P m := by
  unfold cnt
  conv => rhs; rw [← range_getD P]
  rw [List.countP_map]
  congr 1
  funext i
  simp only [Function.comp]
  by_cases h : m ≤ P.getD i 0
  · rw [decide_eq_true h, decide_eq_false (by omega)]; rfl
  · rw [decide_eq_false h, decide_eq_true (by omega)]; rfl
theorem sorted_getD {P : List Int} (h : P.Pairwise (· < ·)) (a b : Nat) (hab : a ≤ b) (hb : b < P.length) : P.getD a 0 ≤ P.getD b 0 := by
  rcases Nat.lt_or_eq_of_le hab with hlt | rfl
  · have := List.pairwise_iff_getElem.1 h a b (by omega) hb hlt
    simp [List.getD, hb, (by omega : a < P.length)]
    omega
  · exact Int.le_refl _

set_option maxRecDepth 100000 in
set_option maxHeartbeats 1000000 in
theorem closure_any {S : Nat → Prop} {N B b0 b1 b2 : Nat} {a0 a1 a2 : Value} {zs ys : List Int} {w : World} (h : Fs S N B a0 a1 a2 (lfs 0 zs) (bks ys) w) (hl : zs.length + ys.length ≤ 20000) (m : Int)
    (c0 : w.cell? ⟨b0, 0, none⟩ = some (.pointer (some ⟨B, 3, none⟩))) (c1 : w.cell? ⟨b1, 0, none⟩ = some (.int .i64 m)) (c2 : w.cell? ⟨b2, 0, none⟩ = some (.int .i64 ((zs.length + ys.length : Nat) : Int))) (k : Nat) (hk : k < (fd (zs ++ ys)).length) :
    Calls Tryd.prog 56 #[.int .i64 k, .pointer (some ⟨b0, 0, none⟩), .pointer (some ⟨b2, 0, none⟩), .pointer (some ⟨b1, 0, none⟩)] w fun e w' => e = .returned (.bool (decide (m ≤ (fd (zs ++ ys)).getD k 0))) ∧ ∃ q, w' = w.drewN q := by
  have hP := fun q => place_any (h.drewN q) hl k hk _ rfl
  obtain ⟨x, hx⟩ : ∃ x, (fd (zs ++ ys)).getD k 0 = x := ⟨_, rfl⟩
  rw [hx]
  simp only [hx] at hP
  obtain ⟨n, hn⟩ : ∃ n, zs.length + ys.length = n := ⟨_, rfl⟩
  rw [hn] at c2
  simp only [hn] at hP
  clear hx hk h hn hl
  by_cases hm : m ≤ x
  · rw [decide_eq_true hm]
    go_enter Tryd.func56, Tryd.ntmps56
    go_wp2
    go_quiet ((go_at_call 57; exact Calls.quiet_of (hP _)))
    go_wp2
    go_ret
    exact ⟨rfl, _, rfl⟩
  · have hd : decide (m ≤ x) = false := decide_eq_false hm
    rw [hd]
    go_enter Tryd.func56, Tryd.ntmps56
    go_wp2
    go_quiet ((go_at_call 57; exact Calls.quiet_of (hP _)))
    go_wp2
    go_ret
    exact ⟨rfl, _, rfl⟩

theorem cell_alloc_c {W : World} {a : Addr} {v : Value} (o : Obj) (h : W.cell? a = some v) : (W.alloc o).cell? a = some v := (World.cell?_alloc_lt W _ _ (World.block_lt_of_cell? W a h)).trans h
theorem cell_new_c (W : World) (v : Value) (t : TypeId) : (W.alloc (.cells #[v] t)).cell? ⟨W.heap.size, 0, none⟩ = some v := by
  rw [World.cell?_alloc_at _ _ _ _ (by simp)]; rfl

set_option maxRecDepth 100000 in
set_option maxHeartbeats 2000000 in
theorem count_any {S : Nat → Prop} {N B : Nat} {a0 a1 a2 : Value} {zs ys : List Int} {w : World} (h : Fs S N B a0 a1 a2 (lfs 0 zs) (bks ys) w) (hl : zs.length + ys.length ≤ 20000) (m : Int) :
    Calls Tryd.prog 39 #[.pointer (some ⟨B, 3, none⟩), .int .i64 m, .int .i64 ((zs.length + ys.length : Nat) : Int)] w fun e w' => e = .returned (.int .i64 (cnt (fd (zs ++ ys)) m)) ∧ Below w.heap.size w w' := by
  have hsz : ∀ W, Below w.heap.size w W → Calls Tryd.prog 35 #[.pointer (some ⟨B, 3, none⟩)] W fun e w' => e = .returned (.int .i64 ((fd (zs ++ ys)).length : Nat)) ∧ ∃ q, w' = W.drewN q := fun W hb => by
    have l1 := lfs_length 0 zs
    have l2 := bks_length ys
    rw [fd_counts]
    exact fs_size (h.fresh hb) (by omega)
  have hfl := fd_length (zs ++ ys)
  rw [List.length_append] at hfl
  have hS : ∀ W, Below w.heap.size w W → W.cell? ⟨w.heap.size, 0, none⟩ = some (.pointer (some ⟨B, 3, none⟩)) → W.cell? ⟨w.heap.size + 1, 0, none⟩ = some (.int .i64 m) → W.cell? ⟨w.heap.size + 2, 0, none⟩ = some (.int .i64 ((zs.length + ys.length : Nat) : Int)) →
      Calls Tryd.prog 55 #[.int .i64 ((fd (zs ++ ys)).length : Nat), .func (.func 56) #[] #[.pointer (some ⟨w.heap.size, 0, none⟩), .pointer (some ⟨w.heap.size + 2, 0, none⟩), .pointer (some ⟨w.heap.size + 1, 0, none⟩)]] W fun e w' => e = .returned (.int .i64 (cnt (fd (zs ++ ys)) m)) ∧ Below W.heap.size W w' := fun W hb c0 c1 c2 => by
    have hcon := Any.sort_Search Tryd.lays_search 56 #[.pointer (some ⟨w.heap.size, 0, none⟩), .pointer (some ⟨w.heap.size + 2, 0, none⟩), .pointer (some ⟨w.heap.size + 1, 0, none⟩)] (fd (zs ++ ys)).length (fun i => decide (m ≤ (fd (zs ++ ys)).getD i 0)) W (enters_of Tryd.func56 (by kernel_rfl) rfl) (by omega)
      (fun q os i hi => by
        have hbg : Below W.heap.size W (grow (W.drewN q) os) := below_grown_sl _ W q os (Nat.le_refl _)
        have lt : ∀ {a v}, W.cell? a = some v → (grow (W.drewN q) os).cell? a = some v := fun hc => (hbg.cell (World.block_lt_of_cell? W _ hc)).trans hc
        refine (closure_any (h.fresh (hb.trans (hbg.mono hb.size))) hl m (lt c0) (lt c1) (lt c2) i hi).mono ?_
        rintro e w' ⟨rfl, n, rfl⟩
        exact ⟨rfl, n, #[], by rw [grow_empty]⟩)
      (fun a b hab hb' hp => by
        have h1 := of_decide_eq_true hp
        have h2 := sorted_getD (lfs_sorted 0 (zs ++ ys)) a b hab hb'
        exact decide_eq_true (Int.le_trans h1 h2))
    change Calls Tryd.prog 55 _ _ _ at hcon
    refine hcon.mono ?_
    rintro e w' ⟨rfl, q, os, rfl⟩
    exact ⟨by rw [count_search], below_grown_sl _ W q os (Nat.le_refl _)⟩
  obtain ⟨n, hn⟩ : ∃ n, (fd (zs ++ ys)).length = n := ⟨_, rfl⟩
  simp only [hn] at hsz hS
  obtain ⟨L, hL⟩ : ∃ L, zs.length + ys.length = L := ⟨_, rfl⟩
  simp only [hL] at hS ⊢
  obtain ⟨c, hc⟩ : ∃ c, cnt (fd (zs ++ ys)) m = c := ⟨_, rfl⟩
  simp only [hc] at hS ⊢
  have b3 : Below w.heap.size w (((w.alloc (.cells #[.pointer (some ⟨B, 3, none⟩)] 92)).alloc (.cells #[.int .i64 m] 3)).alloc (.cells #[.int .i64 (L : Int)] 3)) :=
    (((Below.refl _ w).alloc (Nat.le_refl _) _).alloc (by simp) _).alloc (by simp; omega) _
  have d0 : (((w.alloc (.cells #[.pointer (some ⟨B, 3, none⟩)] 92)).alloc (.cells #[.int .i64 m] 3)).alloc (.cells #[.int .i64 (L : Int)] 3)).cell? ⟨w.heap.size, 0, none⟩ = some (.pointer (some ⟨B, 3, none⟩)) := cell_alloc_c _ (cell_alloc_c _ (cell_new_c w _ _))
  have d1 : (((w.alloc (.cells #[.pointer (some ⟨B, 3, none⟩)] 92)).alloc (.cells #[.int .i64 m] 3)).alloc (.cells #[.int .i64 (L : Int)] 3)).cell? ⟨w.heap.size + 1, 0, none⟩ = some (.int .i64 m) := by
    have hh := cell_new_c (w.alloc (.cells #[.pointer (some ⟨B, 3, none⟩)] 92)) (.int .i64 m) 3
    rw [World.size_alloc] at hh
    exact cell_alloc_c _ hh
  have d2 : (((w.alloc (.cells #[.pointer (some ⟨B, 3, none⟩)] 92)).alloc (.cells #[.int .i64 m] 3)).alloc (.cells #[.int .i64 (L : Int)] 3)).cell? ⟨w.heap.size + 2, 0, none⟩ = some (.int .i64 (L : Int)) := by
    have hh := cell_new_c ((w.alloc (.cells #[.pointer (some ⟨B, 3, none⟩)] 92)).alloc (.cells #[.int .i64 m] 3)) (.int .i64 (L : Int)) 3
    rw [World.size_alloc, World.size_alloc] at hh
    exact hh
  have D0 := Lib.hid d0
  have D1 := Lib.hid d1
  have D2 := Lib.hid d2
  have HSz := Lib.hid hsz
  have HS := Lib.hid hS
  have B3 := Lib.hid b3
  clear hsz hS b3 h hl hn hL hc hfl d0 d1 d2
  go_enter Tryd.func39, Tryd.ntmps39
  go_wp2_with (go_at_call 35; refine (HSz.out _ B3.out).mono ?_; clear HSz; rintro e _ ⟨rfl, q, rfl⟩)
  refine (HS.out _ (below_drewN B3.out q) D0.out D1.out D2.out).mono ?_
  rintro e w2 ⟨rfl, hb2⟩
  go_wp2
  go_ret
  exact ⟨rfl, (below_drewN B3.out q).trans (hb2.mono B3.out.size)⟩
end Go.Proofs.YtpldalmodcmfaaaDoor
