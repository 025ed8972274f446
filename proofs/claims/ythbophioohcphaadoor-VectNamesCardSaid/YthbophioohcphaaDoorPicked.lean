/- picked: of each site what is picked of two counts. -/
import Derived.Test.YthbophioohcphaaDoorPairsL
import Derived.Test.YthbophioohcphaaDoorRefMerge
namespace Go.Proofs.YthbophioohcphaaDoor
open Go.RowKit

/-- A slice's length. -/
def lenV : Value → Nat
  | .slice _ n _ => n
  | _ => 0
theorem vLast_far (f : Nat → Int) (m : Nat) (h : ∀ s, m ≤ s → f s = 0) : ∀ n, m ≤ n → vLast f n = vLast f m
  | 0, hn => by rw [Nat.le_zero.1 hn]
  | n + 1, hn => by
    rcases Nat.lt_or_ge n m with g | g
    · obtain rfl : m = n + 1 := by omega
      rfl
    · show (if f n = 0 then vLast f n else n + 1) = _
      rw [if_pos (h n g)]
      exact vLast_far f m h n g
theorem firstL_at (f : Nat → Int) (k i : Nat) (h : i < k) : (firstL f k).getD i 0 = f i := by simp [firstL, List.getD, h]
theorem firstL_len (f : Nat → Int) (k : Nat) : (firstL f k).length = k := by simp [firstL]
/-- A row whose cells are told reads as a list. -/
theorem Reads64.cells {W : World} {g k cap : Nat} {f : Nat → Int} (h : ∀ i, i < k → W.cell? ⟨g, 0 + i, none⟩ = some (.int .i64 (f i))) : Reads64 W (.slice (some ⟨g, 0, none⟩) k cap) (firstL f k) :=
  ⟨_, cap, by rw [firstL_len], fun _ => ⟨g, 0, rfl, fun i hi => by rw [firstL_len] at hi; rw [firstL_at _ _ _ hi]; exact h i hi⟩⟩
set_option maxRecDepth 100000 in
set_option maxHeartbeats 4000000 in
theorem picked_any (g : FuncId) (hgg : g = 43 ∨ g = 44) (pick : Int → Int → Int) (hg : ∀ x y w, Calls Tryd.prog g #[.int .i64 x, .int .i64 y] w fun e w' => e = .returned (.int .i64 (pick x y)) ∧ w = w') (h00 : pick 0 0 = 0)
    (u v : Value) (xs ys : List Int) (w : World) (h1 : Reads64 w u xs) (h2 : Reads64 w v ys) (hx : xs.length ≤ 16) (hy : ys.length ≤ 16) :
    Calls Tryd.prog 42 #[u, v, .func (.func g) #[] #[]] w (MadePost (vMade fun s => pick (xs.getD s 0) (ys.getD s 0)) w) := by
  obtain ⟨m, hm⟩ : ∃ m, max xs.length ys.length = m := ⟨_, rfl⟩
  have hm16 : m ≤ 16 := by omega
  have hb0 := (Below.refl w.heap.size w).alloc (Nat.le_refl _) (.cells #[.func (.func g) #[] #[]] 61)
  have hbox : (w.alloc (.cells #[.func (.func g) #[] #[]] 61)).cell? ⟨w.heap.size, 0, none⟩ = some (.func (.func g) #[] #[]) := cell_of_row _ _ 0 _ _ _ (heap_alloc_new w _)
  have hP := pairsL_any g hgg pick hg u v xs ys w.heap.size m _ (h1.below hb0) (h2.below hb0) hbox hm (by omega)
  obtain ⟨f, hf⟩ : ∃ f : Nat → Int, (fun s => pick (xs.getD s 0) (ys.getD s 0)) = f := ⟨_, rfl⟩
  have hfar : ∀ s, m ≤ s → f s = 0 := fun s hs => by
    rw [← hf]
    show pick (xs.getD s 0) (ys.getD s 0) = 0
    rw [show xs.getD s 0 = 0 by simp [List.getD, show xs.length ≤ s by omega], show ys.getD s 0 = 0 by simp [List.getD, show ys.length ≤ s by omega], h00]
  rw [hf] at hP ⊢
  have hvm : vMade f = firstL f (vLast f m) := by
    unfold vMade firstL
    rw [vLast_far f m hfar 16 hm16]
  rw [hvm]
  clear hvm hf hfar hbox hg hgg h00 h1 h2 hx hy hm
  go_enter Tryd.func42, Tryd.ntmps42
  go_wp2_with fail
  refine hP.mono ?_
  clear hP
  rintro e w2 ⟨v2, rfl, hown, hb2⟩
  have HZ := Lib.hid (hb0.trans (hb2.mono hb0.size))
  clear hb0 hb2
  obtain ⟨_, ⟨rfl, rfl⟩ | ⟨q, cap, cur, rfl, _, _, hcap, _, _, _⟩⟩ := id hown
  · have HV := Lib.hid (show Reads64 w2 (.slice none 0 0) (firstL f (vLast f 0)) from Reads64.nil _)
    clear hown
    go_wp2_with fail
    go_loop [7] (fun v => v = .slice none 0 0) (fun _ => 0)
    case atStart => rfl
    case round =>
      subst hrel
      go_wp2
      go_ret
      exact ⟨_, rfl, HV.out, HZ.out⟩
  · have HC := Lib.hid (show ∀ i, i < m → w2.cell? ⟨q, i, none⟩ = some (.int .i64 (f i)) from fun i hi => by
      rw [hown.cellAt i (by omega)]
      simp [firstL, hi])
    clear hown
    go_wp2_with fail
    go_loop [7] (fun v => ∃ k, v = .slice (some ⟨q, 0, none⟩) k cap ∧ k ≤ m ∧ vLast f m = vLast f k) (fun v => lenV v)
    case atStart => exact ⟨m, rfl, Nat.le_refl _, rfl⟩
    case round =>
      obtain ⟨k, rfl, hk, hl⟩ := hrel
      have Hl := Lib.hid hl
      clear hl
      by_cases hgo : 0 < k ∧ f (k - 1) = 0
      · obtain ⟨i, rfl⟩ : ∃ i, k = i + 1 := ⟨k - 1, by omega⟩
        have hfm : f i = 0 := by simpa using hgo.2
        have hc := HC.out i (by omega)
        rw [hfm] at hc
        have HN := Lib.hid (show vLast f m = vLast f i by rw [Hl.out]; show (if f i = 0 then vLast f i else i + 1) = _; rw [if_pos hfm])
        clear hfm hgo
        go_wp2_with fail
        go_round
        case rel => exact ⟨i, by first | rfl | simp, by omega, HN.out⟩
        case measure => simp [lenV]
      · have hlast : vLast f m = k := by
          rw [Hl.out]
          cases k with
          | zero => rfl
          | succ i =>
            unfold vLast
            rw [if_neg (fun e => hgo ⟨Nat.succ_pos i, by simpa using e⟩)]
        have HV := Lib.hid (show Reads64 w2 (.slice (some ⟨q, 0, none⟩) k cap) (firstL f (vLast f m)) by
          rw [hlast]
          exact Reads64.cells fun i hi => by rw [Nat.zero_add]; exact HC.out i (by omega))
        cases k with
        | zero =>
          clear hlast hgo Hl
          go_wp2
          go_ret
          exact ⟨_, rfl, HV.out, HZ.out⟩
        | succ i =>
          have hc := HC.out i (by omega)
          have hx0 : (f i == 0) = false := beq_eq_false_iff_ne.2 fun e => hgo ⟨Nat.succ_pos i, by simpa using e⟩
          clear hlast hgo Hl
          generalize f i = x at *
          go_wp2_with fail
          go_ret
          exact ⟨_, rfl, HV.out, HZ.out⟩
end Go.Proofs.YthbophioohcphaaDoor
