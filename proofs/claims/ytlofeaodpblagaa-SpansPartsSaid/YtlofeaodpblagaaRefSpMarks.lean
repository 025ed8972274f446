/- The document's spans: Marks. -/
import Derived.Test.YtlofeaodpblagaaRefSpMay
namespace Go.Proofs.Ytlofeaodpblagaa
open Go.RowKit

/-- The cells of all marks. -/
def bArrN (n : Nat) (f : Nat → Bool) : Array Value := (bCells f n).toArray
theorem bArrN_at (n : Nat) (f : Nat → Bool) (k : Nat) (hk : k < n) : (bArrN n f)[k]? = some (.bool (f k)) := by
  unfold bArrN
  rw [List.getElem?_toArray]
  exact bCells_at f n k hk
theorem bArrN_set (n : Nat) (f : Nat → Bool) (k : Nat) (x : Bool) : (bArrN n f).setIfInBounds k (.bool x) = bArrN n fun j => if j = k then x else f j := by
  unfold bArrN
  rw [List.setIfInBounds_toArray, bCells_set]
theorem bArrN_made (n : Nat) : madeCells #[Value.bool false] n = bArrN n fun _ => false := by
  apply Array.ext'
  rw [toList_madeCells_one]
  unfold bArrN
  rw [List.toList_toArray, bCells_none]
def bArr (f : Nat → Bool) : Array Value := bArrN 20000 f
theorem bArr_at (f : Nat → Bool) (k : Nat) (hk : k < 20000) : (bArr f)[k]? = some (.bool (f k)) := bArrN_at 20000 f k hk
theorem bArr_set (f : Nat → Bool) (k : Nat) (x : Bool) : (bArr f).setIfInBounds k (.bool x) = bArr fun j => if j = k then x else f j := bArrN_set 20000 f k x
/-- A box of all marks. -/
def MB (N : Nat) (f : Nat → Bool) (w W : World) : Prop := W.heap[N]? = some (.cells (bArr f) 4 (0, 0)) ∧ Below N w W
theorem MB.draws {N : Nat} {f : Nat → Bool} {w W : World} (h : MB N f w W) (n : Nat) : MB N f w (W.drewN n) := ⟨h.1, below_draws h.2 n⟩
theorem MB.set {N : Nat} {f : Nat → Bool} {w W : World} (h : MB N f w W) (k : Nat) (x : Bool) : MB N (fun j => if j = k then x else f j) w (W.setCell ⟨N, k, none⟩ (.bool x)) := by
  refine ⟨?_, h.2.setCell (Nat.le_refl _) _⟩
  have := heap_setCell_same W N k _ _ (Value.bool x) h.1
  rw [bArr_set] at this
  exact this
theorem MB.cell {N : Nat} {f : Nat → Bool} {w W : World} (h : MB N f w W) (k : Nat) (hk : k < 20000) : W.cell? ⟨N, k, none⟩ = some (.bool (f k)) := (cell_of_row _ _ k _ _ _ h.1).trans (bArr_at f k hk)
theorem MB.frozen {N : Nat} {f : Nat → Bool} {w W : World} (h : MB N f w W) (k : Nat) : W.frozen? ⟨N, k, none⟩ = false := frozen_of_row _ _ k _ _ h.1
theorem MB.reads {N : Nat} {f : Nat → Bool} {w W : World} (h : MB N f w W) (cap : Nat) : BAt W (.slice (some ⟨N, 0, none⟩) 20000 cap) 20000 f := ⟨_, cap, rfl, fun _ => ⟨N, 0, rfl, fun i hi => by rw [Nat.zero_add]; exact h.cell i hi⟩⟩
theorem MB.keep {N : Nat} {f : Nat → Bool} {w W W' : World} (h : MB N f w W) (hb : Below W.heap.size W W') : MB N f w W' := by
  have hl : N < W.heap.size := (Array.getElem?_eq_some_iff.1 h.1).1
  exact ⟨(hb.block N hl).trans h.1, h.2.trans (hb.mono (Nat.le_of_lt hl))⟩
theorem marks0_eq : madeCells #[Value.bool false] 20000 = bArr fun _ => false := bArrN_made 20000
theorem infoBool : (Try.prog.info? 4).map (fun i => (i.zero, i.size, i.bytes)) = some (some (.bool false), 1, 1) := by kernel_rfl
theorem run_makeB (W : World) : (Instr.makeSlice 48 (.int .i64 20000) (.int .i64 20000)).run Try.prog W = .ok (.slice (some ⟨W.heap.size, 0, none⟩) 20000 20000) (W.alloc (.cells (bArr fun _ => false) 4)) := by
  obtain ⟨i0, hi, hz0, hz1, hz2⟩ := info_parts infoBool
  have h := run_make (P := Try.prog) W 48 4 i0 (.bool false) Try.underlying48 hi hz0 .i64 .i64 20000 20000 (by omega) (Int.le_refl _) (by rw [hz2]; omega) (by omega)
  rw [hz1, Nat.mul_one, show (20000 : Int).toNat = 20000 from rfl] at h
  rw [← marks0_eq]
  exact h
theorem MB.new (W : World) : MB W.heap.size (fun _ => false) W (W.alloc (.cells (bArr fun _ => false) 4)) := ⟨heap_alloc_new W _, (Below.refl _ W).alloc (Nat.le_refl _) _⟩
/-- The marks of some, and the first c places of one more. -/
def upS (f : Nat → Bool) (a c : Nat) (j : Nat) : Bool := f j || decide (a ≤ j ∧ j < a + c)
theorem upS_zero (f : Nat → Bool) (a : Nat) : upS f a 0 = f := by
  funext j
  unfold upS
  rw [decide_eq_false (by omega), Bool.or_false]
theorem upS_next (f : Nat → Bool) (a c : Nat) : (fun j => if j = a + c then true else upS f a c j) = upS f a (c + 1) := by
  funext j
  unfold upS
  by_cases e : j = a + c
  · rw [if_pos e, decide_eq_true (p := a ≤ j ∧ j < a + (c + 1)) (by omega), Bool.or_true]
  · rw [if_neg e]
    congr 1
    exact decide_eq_decide.2 (by omega)
theorem upS_end {xs : List Sp} {k a m : Nat} (hk : k < xs.length) (h1 : (xs.getD k (0, 0)).1 = a) (h2 : (xs.getD k (0, 0)).2 = m) : upS (sMark (xs.take k)) a m = sMark (xs.take (k + 1)) := by
  funext j
  rw [List.take_succ_eq_append_getElem hk, sMark_append, getD_cell hk]
  unfold upS
  congr 1
  unfold sMark spHas
  rw [List.any_cons, List.any_nil, Bool.or_false, h1, h2]
  exact decide_eq_decide.2 (by omega)
theorem spOk_next {xs : List Sp} {k : Nat} (hk : k < xs.length) (h : (xs.take k).all spOk = true) (hm : spOk (xs.getD k (0, 0)) = true) : (xs.take (k + 1)).all spOk = true := by
  rw [List.take_succ_eq_append_getElem hk, List.all_append, h, getD_cell hk, List.all_cons, List.all_nil, hm]
  rfl
theorem spOk_bad {xs : List Sp} {k : Nat} (hk : k < xs.length) (hm : spOk (xs.getD k (0, 0)) = false) : xs.all spOk = false := by
  rw [List.all_eq_false]
  exact ⟨xs[k], List.getElem_mem hk, by rw [getD_cell hk, hm]; simp⟩
/-- A span's box. -/
def SB (B : Nat) (F E : Int) (W : World) : Prop := W.cell? ⟨B, 0, none⟩ = some (.int .i64 F) ∧ W.cell? ⟨B, 1, none⟩ = some (.int .i64 E)
theorem SB.set {B : Nat} {F E : Int} {W : World} (h : SB B F E W) {p : Addr} (hp : p.block ≠ B) (x : Value) : SB B F E (W.setCell p x) := by
  refine ⟨?_, ?_⟩
  · rw [World.cell?_setCell_other _ _ _ _ (by intro e; rw [e] at hp; exact hp rfl)]; exact h.1
  · rw [World.cell?_setCell_other _ _ _ _ (by intro e; rw [e] at hp; exact hp rfl)]; exact h.2
theorem SB.new (W : World) (F E : Int) (t : TypeId) : SB W.heap.size F E (W.alloc (.cells #[.int .i64 F, .int .i64 E] t)) := by
  have h := heap_alloc_new W (.cells #[.int .i64 F, .int .i64 E] t)
  exact ⟨cell_of_row _ _ 0 _ _ _ h, cell_of_row _ _ 1 _ _ _ h⟩
def MarksPost (xs : List Sp) (w : World) (e : Ending) (w' : World) : Prop :=
  ∃ v, e = .returned (.tuple #[v, .bool (xs.all spOk)]) ∧ (xs.all spOk = true → BAt w' v 20000 (sMark xs)) ∧ Below w.heap.size w w'
theorem MarksPost.no {xs : List Sp} {w w' : World} (h : xs.all spOk = false) (hb : Below w.heap.size w w') : MarksPost xs w (.returned (.tuple #[.slice none 0 0, .bool false])) w' := ⟨_, by rw [h], (fun q => by rw [h] at q; cases q), hb⟩
theorem MarksPost.yes {xs : List Sp} {w w' : World} {v : Value} (h : xs.all spOk = true) (hv : BAt w' v 20000 (sMark xs)) (hb : Below w.heap.size w w') : MarksPost xs w (.returned (.tuple #[v, .bool true])) w' := ⟨_, by rw [h], fun _ => hv, hb⟩
set_option maxRecDepth 100000 in
set_option maxHeartbeats 4000000 in
theorem rMarks_any (v : Value) (xs : List Sp) (w : World) (h : SpAt w v xs) (hx : xs.length ≤ 1000000000) :
    Calls Try.prog 33 #[v] w (MarksPost xs w) := by
  have HR := Lib.hid h
  have hmk := run_makeB w
  have HB0 := Lib.hid (MB.new w)
  obtain ⟨ao, cap, rfl, _⟩ := h
  obtain ⟨n, hn⟩ : ∃ n, xs.length = n := ⟨_, rfl⟩
  rw [hn] at hx ⊢
  have Hn := Lib.hid hn
  clear hn
  go_enter Try.func33, Try.ntmps33
  go_wp2
  clear hmk
  generalize w.alloc (.cells (bArr fun _ => false) 4) = w0 at *
  go_loopw [5] (fun i wr => ∃ k : Nat, i = .int .i64 k ∧ k ≤ n ∧ (xs.take k).all spOk = true ∧ MB w.heap.size (sMark (xs.take k)) w wr) (fun i _ => n - (intOf i).toNat)
  case atStart => exact ⟨0, rfl, Nat.zero_le _, rfl, HB0.out⟩
  case round =>
    rename_i wr
    obtain ⟨k, rfl, hk, hall, hbx⟩ := hrel
    have Hall := Lib.hid hall
    clear hall
    rcases Nat.lt_or_ge k n with hlt | hge
    · have hxk : k < xs.length := by rw [Hn.out]; exact hlt
      obtain ⟨b, off, cap', hv, hc0, hc1⟩ := (HR.out.below hbx.2).at hxk
      rw [Hn.out] at hv
      cases hv
      have Hxk := Lib.hid hxk
      have HSP : spOk (xs.getD k (0, 0)) = decide (0 ≤ (xs.getD k (0, 0)).1 ∧ (xs.getD k (0, 0)).1 ≤ 20000 ∧ 0 ≤ (xs.getD k (0, 0)).2 ∧ (xs.getD k (0, 0)).2 ≤ 20000 - (xs.getD k (0, 0)).1) := rfl
      obtain ⟨F, hF⟩ : ∃ F, (xs.getD k (0, 0)).1 = F := ⟨_, rfl⟩
      obtain ⟨E, hE⟩ : ∃ E, (xs.getD k (0, 0)).2 = E := ⟨_, rfl⟩
      rw [hF] at hc0 HSP
      rw [hE] at hc1 HSP
      have HF := Lib.hid hF
      have HE := Lib.hid hE
      have HBX := Lib.hid hbx
      have HSP := Lib.hid HSP
      clear hxk hF hE hbx
      have hi : (0 : Int) ≤ (k : Int) ∧ (k : Int) < (n : Int) := ⟨by omega, by omega⟩
      have hNo : ¬ (0 ≤ F ∧ F ≤ 20000 ∧ 0 ≤ E ∧ E ≤ 20000 - F) → MarksPost xs w (.returned (.tuple #[.slice none 0 0, .bool false])) (wr.alloc (.cells #[.int .i64 F, .int .i64 E] 42)) := fun g => MarksPost.no (spOk_bad Hxk.out (by rw [HSP.out, decide_eq_false g])) (HBX.out.2.alloc HBX.out.2.size _)
      have HNo := Lib.hid hNo
      clear hNo
      rcases Bool.eq_false_or_eq_true (decide (F < 0)) with b0 | b0
      · have g0 := of_decide_eq_true b0
        go_wp2
        go_ret2
        exact HNo.out (by omega)
      have g0 := of_decide_eq_false b0
      rcases Bool.eq_false_or_eq_true (decide ((20000 : Int) < F)) with b1 | b1
      · have g1 := of_decide_eq_true b1
        go_wp2
        go_ret2
        exact HNo.out (by omega)
      have g1 := of_decide_eq_false b1
      rcases Bool.eq_false_or_eq_true (decide (E < 0)) with b2 | b2
      · have g2 := of_decide_eq_true b2
        go_wp2
        go_ret2
        exact HNo.out (by omega)
      have g2 := of_decide_eq_false b2
      have hw1 : IntKind.i64.wrap (20000 - F) = 20000 - F := by simp only [IntKind.wrap_i64]; omega
      rcases Bool.eq_false_or_eq_true (decide (20000 - F < E)) with b3 | b3
      · have g3 := of_decide_eq_true b3
        go_wp2
        go_ret2
        exact HNo.out (by omega)
      have g3 := of_decide_eq_false b3
      have HOK := Lib.hid (spOk_next Hxk.out Hall.out (by rw [HSP.out, decide_eq_true (by omega)]))
      obtain ⟨a, rfl⟩ : ∃ a : Nat, F = a := ⟨F.toNat, by omega⟩
      obtain ⟨m, rfl⟩ : ∃ m : Nat, E = m := ⟨E.toNat, by omega⟩
      have ham : a + m ≤ 20000 := by omega
      have hbn := HBX.out.keep ((Below.refl _ wr).alloc (Nat.le_refl _) (.cells #[.int .i64 (a : Int), .int .i64 (m : Int)] 42))
      have HBN := Lib.hid hbn
      have HSB := Lib.hid (SB.new wr (a : Int) (m : Int) 42)
      have HNB := Lib.hid (show w.heap.size ≠ wr.heap.size by have := (Array.getElem?_eq_some_iff.1 HBX.out.1).1; omega)
      clear hbn
      have HEND := Lib.hid (upS_end Hxk.out HF.out HE.out)
      clear g0 g1 g2 g3
      go_wp2
      clear hc0 hc1 b0 b1 b2 b3 hw1 hi
      obtain ⟨B, hB⟩ : ∃ B, wr.heap.size = B := ⟨_, rfl⟩
      rw [hB] at HSB HNB ⊢
      clear hB
      generalize wr.alloc (.cells #[.int .i64 (a : Int), .int .i64 (m : Int)] 42) = wb at *
      go_loopw [7] (fun i wr' => ∃ c : Nat, i = .int .i64 c ∧ c ≤ m ∧ MB w.heap.size (upS (sMark (xs.take k)) a c) w wr' ∧ SB B a m wr') (fun i _ => m - (intOf i).toNat)
      case atStart => exact ⟨0, rfl, Nat.zero_le _, by rw [upS_zero]; exact HBN.out, HSB.out⟩
      case round =>
        rename_i wr'
        obtain ⟨c, rfl, hc, hbq, hsb⟩ := hrel
        obtain ⟨s0, s1⟩ := id hsb
        rcases Nat.lt_or_ge c m with hclt | hcge
        · have hcell := hbq.cell (a + c) (by omega)
          have hfro := hbq.frozen (a + c)
          have hN := hbq.set (a + c) true
          rw [upS_next] at hN
          have HN := Lib.hid hN
          have HS2 := Lib.hid (hsb.set (p := ⟨w.heap.size, a + c, none⟩) HNB.out (.bool true))
          have hw2 : IntKind.i64.wrap ((a : Int) + (c : Int)) = (a : Int) + (c : Int) := by simp only [IntKind.wrap_i64]; omega
          have hi2 : (0 : Int) ≤ (a : Int) + (c : Int) ∧ (a : Int) + (c : Int) < 20000 := ⟨by omega, by omega⟩
          have hnt : ((a : Int) + (c : Int)).toNat = a + c := by omega
          clear hN hbq hsb
          go_wp2
          exact ⟨⟨c + 1, by go_num, by omega, HN.out, HS2.out⟩, by simp [intOf]; omega⟩
        · obtain rfl : c = m := by omega
          rw [HEND.out] at hbq
          have HQ := Lib.hid hbq
          clear hbq hsb
          go_wp2
          exact ⟨⟨k + 1, by go_num, by omega, HOK.out, HQ.out⟩, by simp [intOf]; omega⟩
    · obtain rfl : k = n := by omega
      have ht : xs.take k = xs := List.take_of_length_le (by rw [Hn.out]; exact Nat.le_refl _)
      rw [ht] at hbx
      have hok := Hall.out
      rw [ht] at hok
      have HP := Lib.hid (MarksPost.yes hok (hbx.reads 20000) hbx.2)
      clear ht hbx hok
      go_wp2
      go_ret2
      exact HP.out
end Go.Proofs.Ytlofeaodpblagaa
