/- Texts of this proof, joined. -/
import Derived.Test.YtnlajfdgpdijjaaReadsSp
import Derived.Laws.StructEq
import Derived.BigQuiet
import Derived.Laws.OwnMore
import Derived.OwnWalk
import Derived.WalkSmall

/- The document's spans: May, and two lists held against each other. -/
namespace Go.Proofs.Ytnlajfdgpdijjaa
open Go.RowKit

theorem getD_cell {xs : List Sp} {k : Nat} (hk : k < xs.length) : xs[k] = xs.getD k (0, 0) := by simp [List.getD, hk]
theorem sMayF_at {xs : List Sp} {k : Nat} (hk : k < xs.length) (L : Int) :
    sMayF L (xs.drop k) = (decide (1 ≤ (xs.getD k (0, 0)).2 ∧ L < (xs.getD k (0, 0)).1 ∧ (xs.getD k (0, 0)).1 ≤ 20000 ∧ (xs.getD k (0, 0)).2 ≤ 20000 - (xs.getD k (0, 0)).1) && sMayF ((xs.getD k (0, 0)).1 + (xs.getD k (0, 0)).2) (xs.drop (k + 1))) := by
  rw [List.drop_eq_getElem_cons hk, getD_cell hk]
  rfl
set_option maxRecDepth 100000 in
set_option maxHeartbeats 2000000 in
theorem rSpMay_any (v : Value) (xs : List Sp) (w : World) (h : SpAt w v xs) (hx : xs.length ≤ 1000000000) :
    Calls Try.prog 38 #[v] w fun e w' => e = .returned (.bool (sMay xs)) ∧ Below w.heap.size w w' := by
  have HR := Lib.hid h
  obtain ⟨ao, cap, rfl, _⟩ := h
  obtain ⟨n, hn⟩ : ∃ n, xs.length = n := ⟨_, rfl⟩
  rw [hn] at hx ⊢
  have Hn := Lib.hid hn
  clear hn
  go_enter Try.func38, Try.ntmps38
  go_wp2
  go_loopw [3, 4] (fun la i wr => ∃ (k : Nat) (L : Int), i = .int .i64 k ∧ k ≤ n ∧ la = .int .i64 L ∧ -1 ≤ L ∧ L ≤ 20000 ∧ sMay xs = sMayF L (xs.drop k) ∧ Below w.heap.size w wr) (fun _ i _ => n - (intOf i).toNat)
  case atStart => exact ⟨0, -1, rfl, Nat.zero_le _, rfl, by decide, by decide, rfl, Below.refl _ _⟩
  case round =>
    obtain ⟨k, L, rfl, hk, rfl, hL0, hL1, hm, hb⟩ := hrel
    have Hb := Lib.hid hb
    have Hm := Lib.hid hm
    clear hm hb
    rcases Nat.lt_or_ge k n with hlt | hge
    · have hxk : k < xs.length := by rw [Hn.out]; exact hlt
      obtain ⟨b, off, cap', hv, hc0, hc1⟩ := (HR.out.below Hb.out).at hxk
      rw [Hn.out] at hv
      cases hv
      have hs := sMayF_at hxk L
      generalize (xs.getD k (0, 0)).1 = F at *
      generalize (xs.getD k (0, 0)).2 = E at *
      have HS := Lib.hid hs
      clear hs hxk
      have hi : (0 : Int) ≤ (k : Int) ∧ (k : Int) < (n : Int) := ⟨by omega, by omega⟩
      rcases Bool.eq_false_or_eq_true (decide (E < 1)) with b0 | b0
      · have g0 := of_decide_eq_true b0
        have hV := Lib.hid (show sMay xs = false by rw [Hm.out, HS.out, decide_eq_false (by omega), Bool.false_and])
        go_wp2_with fail
        go_quiet (fail)
        go_wp2
        go_ret
        exact ⟨ret_bool hV.out.symm, below_draws Hb.out _⟩
      have g0 := of_decide_eq_false b0
      rcases Bool.eq_false_or_eq_true (decide (F ≤ L)) with b1 | b1
      · have g1 := of_decide_eq_true b1
        have hV := Lib.hid (show sMay xs = false by rw [Hm.out, HS.out, decide_eq_false (by omega), Bool.false_and])
        go_wp2_with fail
        go_quiet (fail)
        go_wp2
        go_ret
        exact ⟨ret_bool hV.out.symm, below_draws Hb.out _⟩
      have g1 := of_decide_eq_false b1
      rcases Bool.eq_false_or_eq_true (decide ((20000 : Int) < F)) with b2 | b2
      · have g2 := of_decide_eq_true b2
        have hV := Lib.hid (show sMay xs = false by rw [Hm.out, HS.out, decide_eq_false (by omega), Bool.false_and])
        go_wp2_with fail
        go_quiet (fail)
        go_wp2
        go_ret
        exact ⟨ret_bool hV.out.symm, below_draws Hb.out _⟩
      have g2 := of_decide_eq_false b2
      have hw1 : IntKind.i64.wrap (20000 - F) = 20000 - F := by simp only [IntKind.wrap_i64]; omega
      rcases Bool.eq_false_or_eq_true (decide (20000 - F < E)) with b3 | b3
      · have g3 := of_decide_eq_true b3
        have hV := Lib.hid (show sMay xs = false by rw [Hm.out, HS.out, decide_eq_false (by omega), Bool.false_and])
        go_wp2_with fail
        go_quiet (fail)
        go_wp2
        go_ret
        exact ⟨ret_bool hV.out.symm, below_draws Hb.out _⟩
      have g3 := of_decide_eq_false b3
      have hw2 : IntKind.i64.wrap (F + E) = F + E := by simp only [IntKind.wrap_i64]; omega
      have hN := Lib.hid (show sMay xs = sMayF (F + E) (xs.drop (k + 1)) by rw [Hm.out, HS.out, decide_eq_true (by omega), Bool.true_and])
      have HB := Lib.hid (show -1 ≤ F + E ∧ F + E ≤ 20000 from ⟨by omega, by omega⟩)
      clear g0 g1 g2 g3 hL0 hL1
      go_wp2_with fail
      go_quiet (fail)
      go_wp2_with fail
      go_quiet (fail)
      go_wp2
      go_roundw
      case rel => exact ⟨k + 1, F + E, by go_num, by omega, rfl, HB.out.1, HB.out.2, hN.out, below_draws Hb.out _⟩
      case measure => simp [intOf]; omega
    · obtain rfl : k = n := by omega
      have hV := Lib.hid (show sMay xs = true by rw [Hm.out, List.drop_of_length_le (by rw [Hn.out]; exact Nat.le_refl _)]; rfl)
      go_wp2
      go_ret
      exact ⟨ret_bool hV.out.symm, Hb.out⟩
end Go.Proofs.Ytnlajfdgpdijjaa

/- The document's spans: Marks. -/
namespace Go.Proofs.Ytnlajfdgpdijjaa
open Go.RowKit

/-- The cells of all marks. -/
def bArrN (n : Nat) (f : Nat → Bool) : Array Value := (bCells f n).toArray
theorem bArrN_at (n : Nat) (f : Nat → Bool) (k : Nat) (hk : k < n) : (bArrN n f)[k]? = some (.bool (f k)) := by
  unfold bArrN
  rw [List.getElem?_toArray]
  exact bCells_at f n k hk
theorem bArrN_set (n : Nat) (f : Nat → Bool) (k : Nat) (x : Bool) : (bArrN n f).setIfInBounds k (.bool x) = bArrN n fun j => if j = k then x else f j := by
  unfold bArrN
  rw [List.setIfInBounds_toArray, bCells_set]
theorem bArrN_made (n : Nat) : madeCells #[Value.bool false] n = bArrN n fun _ => false := by
  apply Array.ext'
  rw [toList_madeCells_one]
  unfold bArrN
  rw [List.toList_toArray, bCells_none]
def bArr (f : Nat → Bool) : Array Value := bArrN 20000 f
theorem bArr_at (f : Nat → Bool) (k : Nat) (hk : k < 20000) : (bArr f)[k]? = some (.bool (f k)) := bArrN_at 20000 f k hk
theorem bArr_set (f : Nat → Bool) (k : Nat) (x : Bool) : (bArr f).setIfInBounds k (.bool x) = bArr fun j => if j = k then x else f j := bArrN_set 20000 f k x
/-- A box of all marks. -/
def MB (N : Nat) (f : Nat → Bool) (w W : World) : Prop := W.heap[N]? = some (.cells (bArr f) 4 (0, 0)) ∧ Below N w W
theorem MB.draws {N : Nat} {f : Nat → Bool} {w W : World} (h : MB N f w W) (n : Nat) : MB N f w (W.drewN n) := ⟨h.1, below_draws h.2 n⟩
theorem MB.set {N : Nat} {f : Nat → Bool} {w W : World} (h : MB N f w W) (k : Nat) (x : Bool) : MB N (fun j => if j = k then x else f j) w (W.setCell ⟨N, k, none⟩ (.bool x)) := by
  refine ⟨?_, h.2.setCell (Nat.le_refl _) _⟩
  have := heap_setCell_same W N k _ _ (Value.bool x) h.1
  rw [bArr_set] at this
  exact this
theorem MB.cell {N : Nat} {f : Nat → Bool} {w W : World} (h : MB N f w W) (k : Nat) (hk : k < 20000) : W.cell? ⟨N, k, none⟩ = some (.bool (f k)) := (cell_of_row _ _ k _ _ _ h.1).trans (bArr_at f k hk)
theorem MB.frozen {N : Nat} {f : Nat → Bool} {w W : World} (h : MB N f w W) (k : Nat) : W.frozen? ⟨N, k, none⟩ = false := frozen_of_row _ _ k _ _ h.1
theorem MB.reads {N : Nat} {f : Nat → Bool} {w W : World} (h : MB N f w W) (cap : Nat) : BAt W (.slice (some ⟨N, 0, none⟩) 20000 cap) 20000 f := ⟨_, cap, rfl, fun _ => ⟨N, 0, rfl, fun i hi => by rw [Nat.zero_add]; exact h.cell i hi⟩⟩
theorem MB.keep {N : Nat} {f : Nat → Bool} {w W W' : World} (h : MB N f w W) (hb : Below W.heap.size W W') : MB N f w W' := by
  have hl : N < W.heap.size := (Array.getElem?_eq_some_iff.1 h.1).1
  exact ⟨(hb.block N hl).trans h.1, h.2.trans (hb.mono (Nat.le_of_lt hl))⟩
theorem marks0_eq : madeCells #[Value.bool false] 20000 = bArr fun _ => false := bArrN_made 20000
theorem infoBool : (Try.prog.info? 4).map (fun i => (i.zero, i.size, i.bytes)) = some (some (.bool false), 1, 1) := by kernel_rfl
theorem MB.new (W : World) : MB W.heap.size (fun _ => false) W (W.alloc (.cells (bArr fun _ => false) 4)) := ⟨heap_alloc_new W _, (Below.refl _ W).alloc (Nat.le_refl _) _⟩
/-- The marks of some, and the first c places of one more. -/
def upS (f : Nat → Bool) (a c : Nat) (j : Nat) : Bool := f j || decide (a ≤ j ∧ j < a + c)
theorem upS_zero (f : Nat → Bool) (a : Nat) : upS f a 0 = f := by
  funext j
  unfold upS
  rw [decide_eq_false (by omega), Bool.or_false]
theorem upS_next (f : Nat → Bool) (a c : Nat) : (fun j => if j = a + c then true else upS f a c j) = upS f a (c + 1) := by
  funext j
  unfold upS
  by_cases e : j = a + c
  · rw [if_pos e, decide_eq_true (p := a ≤ j ∧ j < a + (c + 1)) (by omega), Bool.or_true]
  · rw [if_neg e]
    congr 1
    exact decide_eq_decide.2 (by omega)
theorem upS_end {xs : List Sp} {k a m : Nat} (hk : k < xs.length) (h1 : (xs.getD k (0, 0)).1 = a) (h2 : (xs.getD k (0, 0)).2 = m) : upS (sMark (xs.take k)) a m = sMark (xs.take (k + 1)) := by
  funext j
  rw [List.take_succ_eq_append_getElem hk, sMark_append, getD_cell hk]
  unfold upS
  congr 1
  unfold sMark spHas
  rw [List.any_cons, List.any_nil, Bool.or_false, h1, h2]
  exact decide_eq_decide.2 (by omega)
theorem spOk_next {xs : List Sp} {k : Nat} (hk : k < xs.length) (h : (xs.take k).all spOk = true) (hm : spOk (xs.getD k (0, 0)) = true) : (xs.take (k + 1)).all spOk = true := by
  rw [List.take_succ_eq_append_getElem hk, List.all_append, h, getD_cell hk, List.all_cons, List.all_nil, hm]
  rfl
theorem spOk_bad {xs : List Sp} {k : Nat} (hk : k < xs.length) (hm : spOk (xs.getD k (0, 0)) = false) : xs.all spOk = false := by
  rw [List.all_eq_false]
  exact ⟨xs[k], List.getElem_mem hk, by rw [getD_cell hk, hm]; simp⟩
/-- A span's box. -/
def SB (B : Nat) (F E : Int) (W : World) : Prop := W.cell? ⟨B, 0, none⟩ = some (.int .i64 F) ∧ W.cell? ⟨B, 1, none⟩ = some (.int .i64 E)
theorem SB.set {B : Nat} {F E : Int} {W : World} (h : SB B F E W) {p : Addr} (hp : p.block ≠ B) (x : Value) : SB B F E (W.setCell p x) := by
  refine ⟨?_, ?_⟩
  · rw [World.cell?_setCell_other _ _ _ _ (by intro e; rw [e] at hp; exact hp rfl)]; exact h.1
  · rw [World.cell?_setCell_other _ _ _ _ (by intro e; rw [e] at hp; exact hp rfl)]; exact h.2
theorem SB.new (W : World) (F E : Int) (t : TypeId) : SB W.heap.size F E (W.alloc (.cells #[.int .i64 F, .int .i64 E] t)) := by
  have h := heap_alloc_new W (.cells #[.int .i64 F, .int .i64 E] t)
  exact ⟨cell_of_row _ _ 0 _ _ _ h, cell_of_row _ _ 1 _ _ _ h⟩
def MarksPost (xs : List Sp) (w : World) (e : Ending) (w' : World) : Prop :=
  ∃ v, e = .returned (.tuple #[v, .bool (xs.all spOk)]) ∧ (xs.all spOk = true → BAt w' v 20000 (sMark xs)) ∧ Below w.heap.size w w'
theorem MarksPost.no {xs : List Sp} {w w' : World} (h : xs.all spOk = false) (hb : Below w.heap.size w w') : MarksPost xs w (.returned (.tuple #[.slice none 0 0, .bool false])) w' := ⟨_, by rw [h], (fun q => by rw [h] at q; cases q), hb⟩
theorem MarksPost.yes {xs : List Sp} {w w' : World} {v : Value} (h : xs.all spOk = true) (hv : BAt w' v 20000 (sMark xs)) (hb : Below w.heap.size w w') : MarksPost xs w (.returned (.tuple #[v, .bool true])) w' := ⟨_, by rw [h], fun _ => hv, hb⟩
end Go.Proofs.Ytnlajfdgpdijjaa

/- The document's spans: what is made of marks. -/
namespace Go.Proofs.Ytnlajfdgpdijjaa
open Go.RowKit

theorem infoSpan : (Try.prog.info? 69).map (fun i => (i.zero, i.size, i.bytes)) = some (some (.agg #[.int .i64 0, .int .i64 0]), 2, 16) := by kernel_rfl
theorem sMade_skip {f : Nat → Bool} {k : Nat} (hf : f k = false) : sMade f (k + 1) = sMade f k := by unfold sMade; rw [sRun_skip f k hf]
theorem sMade_new {f : Nat → Bool} {k : Nat} (hf : f k = true) (h : 0 < k → f (k - 1) = false) : sMade f (k + 1) = sMade f k ++ [((k : Int), 1)] := by
  rcases sRun_next f k hf with ⟨h0, h1, _⟩ | ⟨_, e⟩
  · rw [h h0] at h1; cases h1
  · unfold sMade
    rw [e, List.reverse_cons]
theorem sMade_grow {f : Nat → Bool} {k : Nat} (hf : f k = true) (h0 : 0 < k) (h : f (k - 1) = true) : ∃ (r : List Sp) (s : Sp), sMade f k = r ++ [s] ∧ sMade f (k + 1) = r ++ [(s.1, s.2 + 1)] ∧ s.1 + s.2 ≤ (k : Int) ∧ 0 ≤ s.1 ∧ 1 ≤ s.2 := by
  rcases sRun_next f k hf with ⟨_, _, s, r, e1, e2⟩ | ⟨g, _⟩
  · have := (sRun_stk f k).1 s (by rw [e1]; exact List.mem_cons_self ..)
    refine ⟨r.reverse, s, ?_, ?_, this.2.2, this.2.1, this.1⟩ <;> unfold sMade
    · rw [e1, List.reverse_cons]
    · rw [e2, List.reverse_cons]
  · rw [g h0] at h; cases h
theorem sMade_length (f : Nat → Bool) (k : Nat) : (sMade f k).length ≤ k := by unfold sMade; rw [List.length_reverse]; exact sRun_length f k
theorem spCells_bump (r : List Sp) (s : Sp) (x : Int) : (spCells (r ++ [s])).set (r.length * 2 + 1) (.int .i64 x) = spCells (r ++ [(s.1, x)]) := by
  rw [spCells_append, spCells_append]
  have hl := spCells_length r
  rw [List.set_append_right _ _ (by omega), hl, show r.length * 2 + 1 - r.length * 2 = 1 by omega]
  rfl
theorem ownsRow_form {W : World} {base : Nat} {e : TypeId} {size : Nat} {v : Value} {n : Nat} {xs : List Value} (h : W.ownsRow base e size v n xs) (hn : 0 < n) : ∃ g cap, v = .slice (some ⟨g, 0, none⟩) n cap ∧ base ≤ g ∧ g < W.heap.size := by
  rcases h.2 with ⟨_, h0⟩ | ⟨g, cap, cur, hv, hb, hg, _⟩
  · omega
  · exact ⟨g, cap, hv, hb, (Array.getElem?_eq_some_iff.1 hg).1⟩
def SpPost (l : List Sp) (w : World) (e : Ending) (w' : World) : Prop := ∃ v, e = .returned v ∧ SpAt w' v l ∧ Below w.heap.size w w'
end Go.Proofs.Ytnlajfdgpdijjaa
