/- Two vectors gone along in pairs, a list made: picked. -/
import Derived.Test.YthbophioohcphaaDoorDoesVect
import Derived.Test.YthbophioohcphaaDoorRefMade
namespace Go.Proofs.YthbophioohcphaaDoor
open Go.RowKit

/-- The greater, the lesser of two. -/
def gMax (x y : Int) : Int := if x < y then y else x
def gMin (x y : Int) : Int := if y < x then y else x
set_option maxRecDepth 100000 in
set_option maxHeartbeats 2000000 in
theorem greater_any (x y : Int) (w : World) :
    Calls Tryd.prog 43 #[.int .i64 x, .int .i64 y] w fun e w' => e = .returned (.int .i64 (gMax x y)) ∧ w = w' := by
  have hG := Lib.hid (show gMax x y = if x < y then y else x from rfl)
  by_cases h : x < y
  · rw [if_pos h] at hG
    go_enter Tryd.func43, Tryd.ntmps43
    go_wp2
    go_ret
    exact ⟨ret_i64 hG.out.symm, rfl⟩
  · rw [if_neg h] at hG
    go_enter Tryd.func43, Tryd.ntmps43
    go_wp2
    go_ret
    exact ⟨ret_i64 hG.out.symm, rfl⟩
set_option maxRecDepth 100000 in
set_option maxHeartbeats 2000000 in
theorem lesser_any (x y : Int) (w : World) :
    Calls Tryd.prog 44 #[.int .i64 x, .int .i64 y] w fun e w' => e = .returned (.int .i64 (gMin x y)) ∧ w = w' := by
  have hG := Lib.hid (show gMin x y = if y < x then y else x from rfl)
  by_cases h : y < x
  · rw [if_pos h] at hG
    go_enter Tryd.func44, Tryd.ntmps44
    go_wp2
    go_ret
    exact ⟨ret_i64 hG.out.symm, rfl⟩
  · rw [if_neg h] at hG
    go_enter Tryd.func44, Tryd.ntmps44
    go_wp2
    go_ret
    exact ⟨ret_i64 hG.out.symm, rfl⟩
/-- What a step makes: one more in a row of the call's own. -/
def StepPost (N k : Nat) (xs : List Int) (W : World) (e : Ending) (W' : World) : Prop :=
  ∃ v, e = .returned v ∧ W'.ownsRow N 3 1 v (k + 1) (xs.map (Value.int .i64)) ∧ Below N W W'
set_option maxRecDepth 100000 in
set_option maxHeartbeats 4000000 in
theorem pickStep_any (g : FuncId) (hgg : g = 43 ∨ g = 44) (pick : Int → Int → Int) (hg : ∀ x y w, Calls Tryd.prog g #[.int .i64 x, .int .i64 y] w fun e w' => e = .returned (.int .i64 (pick x y)) ∧ w = w')
    (N B k : Nat) (so : Value) (xs : List Int) (x y : Int) (W : World) (hB : W.cell? ⟨B, 0, none⟩ = some (.func (.func g) #[] #[])) (hN : N ≤ W.heap.size) (hk : k ≤ 1000000)
    (hown : W.ownsRow N 3 1 so k (xs.map (Value.int .i64))) :
    Calls Tryd.prog 52 #[so, .int .i64 x, .int .i64 y, .pointer (some ⟨B, 0, none⟩)] W (StepPost N k (xs ++ [pick x y]) W) := by
  obtain ⟨i0, hi, hz0, hz1, hz2⟩ := info_parts infoI64
  have Hown := Lib.hid hown
  clear hown
  obtain ⟨z, hz⟩ : ∃ z, pick x y = z := ⟨_, rfl⟩
  have hgz := hg x y
  rw [hz] at hgz ⊢
  clear hz hg
  rcases hgg with rfl | rfl
  all_goals
    go_enter Tryd.func52, Tryd.ntmps52
    go_wp2_with fail
    refine (hgz _).mono ?_
    rintro e _ ⟨rfl, rfl⟩
    go_wp2_with (at_builtin; refine wpList_append_own _ rfl _ _ 34 rfl N 3 i0 (.int .i64 0) 1 8 Tryd.underlying34 hi hz0 hz1 hz2 rfl (by decide) _ _ _ rfl (Hown.out.alloc _) ⟨W.heap.size, 0, none⟩ 1 1 [.int .i64 z] rfl rfl ?c1 ?c2 ?c3 ?c4 ?c5 ?_)
    case c1 =>
      intro j u hj
      match j, hj with
      | 0, hj => simp at hj; subst hj; simp [Addr.add]
    case c2 => intro u hu; simp at hu; subst hu; rfl
    case c3 => unfold maxLen; omega
    case c4 => omega
    case c5 => simp; omega
    intro v' w2 hown' hgrow _
    go_wp2
    go_ret
    refine ⟨_, rfl, ?_, ((Below.refl N W).alloc hN _).grown hgrow (by simp; omega) (fun g hg => (Hown.out.lt g hg).1)⟩
    rw [List.map_append]
    exact hown'
/-- What pairs makes. -/
def PairsPost (N m : Nat) (f : Nat → Int) (W : World) (e : Ending) (W' : World) : Prop :=
  ∃ v, e = .returned v ∧ W'.ownsRow N 3 1 v m ((firstL f m).map (Value.int .i64)) ∧ Below N W W'
set_option maxRecDepth 100000 in
set_option maxHeartbeats 4000000 in
theorem pairsL_any (g : FuncId) (hgg : g = 43 ∨ g = 44) (pick : Int → Int → Int) (hg : ∀ x y w, Calls Tryd.prog g #[.int .i64 x, .int .i64 y] w fun e w' => e = .returned (.int .i64 (pick x y)) ∧ w = w')
    (u v : Value) (xs ys : List Int) (B m : Nat) (w : World) (h1 : Reads64 w u xs) (h2 : Reads64 w v ys) (hB : w.cell? ⟨B, 0, none⟩ = some (.func (.func g) #[] #[])) (hm : max xs.length ys.length = m) (hb : m ≤ 1000000) :
    Calls Tryd.prog 51 #[u, v, .slice none 0 0, .func (.func 52) #[] #[.pointer (some ⟨B, 0, none⟩)]] w (PairsPost w.heap.size m (fun s => pick (xs.getD s 0) (ys.getD s 0)) w) := by
  have hA := fun k W (hW : Below w.heap.size w W) => pAt_any u xs k W (h1.below hW)
  have hC := fun k W (hW : Below w.heap.size w W) => pAt_any v ys k W (h2.below hW)
  obtain ⟨a1, c1, rfl, _⟩ := h1
  obtain ⟨a2, c2, rfl, _⟩ := h2
  obtain ⟨n1, hn1⟩ : ∃ n, xs.length = n := ⟨_, rfl⟩
  obtain ⟨n2, hn2⟩ : ∃ n, ys.length = n := ⟨_, rfl⟩
  rw [hn1] at hA hm ⊢
  rw [hn2] at hC hm ⊢
  clear hn1 hn2
  have hBl : B < w.heap.size := World.block_lt_of_cell? w _ hB
  have hst := fun W so xs k x y (hW : Below w.heap.size w W) => pickStep_any g hgg pick hg w.heap.size B k so xs x y W (by rw [hW.cell (p := ⟨B, 0, none⟩) hBl]; exact hB) hW.size
  clear hg hB
  have hcase : (n1 < n2 ∧ m = n2) ∨ (n2 ≤ n1 ∧ m = n1) := by omega
  clear hm
  rcases hcase with ⟨hlt, hm⟩ | ⟨hlt, hm⟩
  all_goals
    subst hm
    go_enter Tryd.func51, Tryd.ntmps51
    go_wp2_with fail
    go_loopw [9, 17] (fun so i wr => ∃ k : Nat, i = .int .i64 k ∧ k ≤ m ∧ wr.ownsRow w.heap.size 3 1 so k ((firstL (fun s => pick (xs.getD s 0) (ys.getD s 0)) k).map (Value.int .i64)) ∧ Below w.heap.size w wr) (fun _ i _ => m - (intOf i).toNat)
    case atStart => exact ⟨0, rfl, Nat.zero_le _, World.ownsRow_nil _ _ _ _, Below.refl _ _⟩
    case round =>
      obtain ⟨k, rfl, hk, hown, hbw⟩ := hrel
      rcases Nat.lt_or_ge k m with hlt | hge
      · have a1 := hA k _ hbw
        have b1 := hC k _ hbw
        have s1 := hst _ _ _ k (xs.getD k 0) (ys.getD k 0) hbw (by omega) hown
        rw [← firstL_next (fun s => pick (xs.getD s 0) (ys.getD s 0)) k] at s1
        have Hbw := Lib.hid hbw
        generalize (fun s => pick (xs.getD s 0) (ys.getD s 0)) = f at *
        generalize xs.getD k 0 = x at *
        generalize ys.getD k 0 = y at *
        clear hA hC hst hown hbw
        go_wp2_with fail
        refine a1.mono ?_
        clear a1
        rintro e _ ⟨rfl, rfl⟩
        go_wp2_with fail
        refine b1.mono ?_
        clear b1
        rintro e _ ⟨rfl, rfl⟩
        go_wp2_with fail
        refine s1.mono ?_
        clear s1
        rintro e w2 ⟨v2, rfl, hown2, hb2⟩
        have HZ := Lib.hid (Hbw.out.trans hb2)
        have HO := Lib.hid hown2
        clear hown2 hb2
        go_wp2
        exact ⟨⟨k + 1, by congr 1, by omega, HO.out, HZ.out⟩, by simp [RowKit.intOf]; omega⟩
      · obtain rfl : k = m := by omega
        have HZ := Lib.hid hbw
        have HO := Lib.hid hown
        clear hA hC hst hown hbw
        go_wp2
        go_ret
        exact ⟨_, rfl, HO.out, HZ.out⟩
end Go.Proofs.YthbophioohcphaaDoor
