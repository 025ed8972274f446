/- The document's vectors: Same, Made. -/
import Derived.Test.YthbophioohcphaaDoorRefVect
import Derived.Laws.CopyOwn
import Derived.Laws.OwnMore
import Derived.Laws.Rows
import Derived.Laws.Tables
namespace Go.Proofs.YthbophioohcphaaDoor
open Go.RowKit

theorem take_more {xs ys : List Int} {k : Nat} (h : xs.take k = ys.take k) (hx : k < xs.length) (hy : k < ys.length) (e : xs.getD k 0 = ys.getD k 0) : xs.take (k + 1) = ys.take (k + 1) := by
  rw [List.take_succ_eq_append_getElem hx, List.take_succ_eq_append_getElem hy, h]
  simp [List.getD, hx, hy] at e
  rw [e]
theorem below_draws {N : Nat} {w X : World} (h : Below N w X) (n : Nat) : Below N w (X.drewN n) := ⟨h.os, h.tape, h.output, h.size, h.block⟩
set_option maxRecDepth 100000 in
set_option maxHeartbeats 2000000 in
theorem rSame_any (u v : Value) (xs ys : List Int) (w : World) (h1 : Reads64 w u xs) (h2 : Reads64 w v ys) (hx : xs.length ≤ 1000000000) :
    Calls Tryd.prog 29 #[u, v] w fun e w' => e = .returned (.bool (decide (xs = ys))) ∧ Below w.heap.size w w' := by
  by_cases hl : xs.length = ys.length
  · have H1 := Lib.hid h1
    have H2 := Lib.hid h2
    obtain ⟨ao, cap, rfl, _⟩ := h1
    obtain ⟨ao2, cap2, rfl, _⟩ := h2
    obtain ⟨n, hn⟩ : ∃ n, xs.length = n := ⟨_, rfl⟩
    rw [← hl, hn]
    have Hn := Lib.hid hn
    have Hm := Lib.hid (hl.symm.trans hn)
    rw [hn] at hx
    clear hn hl
    go_enter Tryd.func29, Tryd.ntmps29
    go_wp2
    go_loopw [5] (fun i wr => ∃ k : Nat, i = .int .i64 k ∧ k ≤ n ∧ xs.take k = ys.take k ∧ ∃ q, wr = w.drewN q) (fun i _ => n - (intOf i).toNat)
    case atStart => exact ⟨0, rfl, Nat.zero_le _, rfl, 0, rfl⟩
    case round =>
      obtain ⟨k, rfl, hk, ht, q, rfl⟩ := hrel
      have Ht := Lib.hid ht
      clear ht
      have hd : ∀ m, (w.drewN q).drewN m = w.drewN (q + m) := fun m => World.drewN_drewN _ _ _
      have HD := Lib.hid hd
      clear hd
      rcases Nat.lt_or_ge k n with hlt | hge
      · have hxk : k < xs.length := by rw [Hn.out]; exact hlt
        have hyk : k < ys.length := by rw [Hm.out]; exact hlt
        obtain ⟨b, off, c1, hv1, hc1⟩ := (H1.out.drew q).at hxk
        obtain ⟨b2, off2, c2, hv2, hc2⟩ := (H2.out.drew q).at hyk
        cases hv1
        cases hv2
        obtain ⟨x, ex⟩ : ∃ x, xs.getD k 0 = x := ⟨_, rfl⟩
        obtain ⟨y, ey⟩ : ∃ y, ys.getD k 0 = y := ⟨_, rfl⟩
        rw [ex] at hc1
        rw [ey] at hc2
        by_cases hxy : x = y
        · subst hxy
          have HN := Lib.hid (take_more Ht.out hxk hyk (ex.trans ey.symm))
          clear ex ey hxk hyk
          generalize w.drewN q = wq at *
          go_wp2_with fail
          go_quiet (fail)
          go_wp2
          go_roundw
          case rel => exact ⟨k + 1, by go_num, by omega, HN.out, _, HD.out _⟩
          case measure => simp [intOf]; omega
        · have hV := Lib.hid (show decide (xs = ys) = false from decide_eq_false fun e => hxy (by rw [← ex, ← ey, e]))
          have hnb : (x != y) = true := by simpa using hxy
          have hbq : Below w.heap.size w (w.drewN q) := ⟨rfl, rfl, rfl, Nat.le_refl _, fun _ _ => rfl⟩
          have Hbq := Lib.hid hbq
          clear ex ey hxk hyk hxy hbq
          generalize w.drewN q = wq at *
          go_wp2_with fail
          go_quiet (fail)
          go_wp2
          go_ret
          exact ⟨ret_bool hV.out.symm, below_draws Hbq.out _⟩
      · obtain rfl : k = n := by omega
        have hV := Lib.hid (show decide (xs = ys) = true from decide_eq_true (by
          have h := Ht.out
          rwa [List.take_of_length_le (by rw [Hn.out]; exact Nat.le_refl _), List.take_of_length_le (by rw [Hm.out]; exact Nat.le_refl _)] at h))
        go_wp2
        go_ret
        exact ⟨ret_bool hV.out.symm, below_draws (Below.refl _ w) _⟩
  · have hV := Lib.hid (show decide (xs = ys) = false from decide_eq_false fun e => hl (by rw [e]))
    obtain ⟨ao, cap, rfl, _⟩ := h1
    obtain ⟨ao2, cap2, rfl, _⟩ := h2
    have hne : ((xs.length : Int) != (ys.length : Int)) = true := by simp only [bne_iff_ne, ne_eq]; omega
    generalize xs.length = n at *
    generalize ys.length = m at *
    go_enter Tryd.func29, Tryd.ntmps29
    go_wp2
    go_ret
    exact ⟨ret_bool hV.out.symm, Below.refl _ _⟩
/-- Sixteen counts by value. -/
def arr16 (f : Nat → Int) : Array Value := ((List.range 16).map fun i => Value.int .i64 (f i)).toArray
theorem arr16_size (f : Nat → Int) : (arr16 f).size = 16 := by simp [arr16]
theorem arr16_at (f : Nat → Int) (i : Nat) (h : i < 16) : (arr16 f)[i]? = some (.int .i64 (f i)) := by simp [arr16, h]
theorem arr16_set (f : Nat → Int) (i : Nat) (x : Int) : (arr16 f).setIfInBounds i (.int .i64 x) = arr16 (fun j => if j = i then x else f j) := by
  apply Array.ext_getElem?
  intro j
  by_cases hj : j < 16
  · rw [arr16_at _ j hj, Array.getElem?_setIfInBounds, arr16_size]
    by_cases e : i = j
    · subst e; simp [hj]
    · rw [if_neg e, arr16_at f j hj, if_neg (fun q => e q.symm)]
  · rw [Array.getElem?_eq_none (by simp [arr16_size]; omega), Array.getElem?_eq_none (by simp [arr16_size]; omega)]
theorem arr16_one (f : Nat → Int) : (arr16 f).all (·.oneCell') = true := by
  rw [Array.all_eq_true_iff_forall_mem]
  intro v hv
  obtain ⟨i, hi, rfl⟩ := Array.mem_iff_getElem.1 hv
  simp [arr16, Value.oneCell']
theorem infoI64 : (Tryd.prog.info? 3).map (fun i => (i.zero, i.size, i.bytes)) = some (some (.int .i64 0), 1, 8) := by kernel_rfl
/-- The first k of the counts, in a row. -/
def firstL (f : Nat → Int) (k : Nat) : List Int := (List.range k).map f
theorem firstL_next (f : Nat → Int) (k : Nat) : firstL f (k + 1) = firstL f k ++ [f k] := by simp [firstL, List.range_succ]
theorem firstL_length (f : Nat → Int) (k : Nat) : (firstL f k).length = k := by simp [firstL]
theorem own_first {W : World} {base : Nat} {v : Value} {f : Nat → Int} {k : Nat} (h : W.ownsRow base 3 1 v k ((firstL f k).map (Value.int .i64))) : Reads64 W v (firstL f k) := by
  refine Reads64.of_own (base := base) ?_
  rw [firstL_length]
  exact h
/-- What Made tells. -/
def MadePost (xs : List Int) (w : World) (e : Ending) (w' : World) : Prop := ∃ v, e = .returned v ∧ Reads64 w' v xs ∧ Below w.heap.size w w'
set_option maxRecDepth 100000 in
set_option maxHeartbeats 4000000 in
theorem rMade_any (f : Nat → Int) (w : World) :
    Calls Tryd.prog 41 #[.agg (arr16 f)] w (MadePost (vMade f) w) := by
  obtain ⟨i0, hi, hz0, hz1, hz2⟩ := info_parts infoI64
  have hcell : ∀ i, i < 16 → (w.alloc (.cells (arr16 f) 58)).cell? ⟨w.heap.size, i, none⟩ = some (.int .i64 (f i)) := fun i hi => by
    rw [World.cell?_alloc_at _ _ _ _ rfl, arr16_at f i hi]
  have hb0 := (Below.refl w.heap.size w).alloc (Nat.le_refl _) (.cells (arr16 f) 58)
  have hs0 : (w.alloc (.cells (arr16 f) 58)).heap.size = w.heap.size + 1 := by simp
  go_enter Tryd.func41, Tryd.ntmps41
  go_wp2_with fail
  generalize w.alloc (.cells (arr16 f) 58) = w1 at *
  have HC := Lib.hid hcell
  have HS0 := Lib.hid hs0
  clear hcell hs0
  go_loop [3] (fun i => ∃ k : Nat, i = .int .i64 k ∧ k ≤ 16 ∧ vLast f 16 = vLast f k) (fun i => (intOf i).toNat)
  case atStart => exact ⟨16, rfl, Nat.le_refl _, rfl⟩
  case round =>
    obtain ⟨k, rfl, hk, hl⟩ := hrel
    have Hl := Lib.hid hl
    clear hl
    by_cases hgo : 0 < k ∧ f (k - 1) = 0
    · obtain ⟨m, rfl⟩ : ∃ m, k = m + 1 := ⟨k - 1, by omega⟩
      have hfm : f m = 0 := by simpa using hgo.2
      have hc := HC.out m (by omega)
      rw [hfm] at hc
      have HN := Lib.hid (show vLast f 16 = vLast f m by rw [Hl.out]; show (if f m = 0 then vLast f m else m + 1) = _; rw [if_pos hfm])
      clear hfm hgo
      go_wp2_with fail
      go_round
      case rel => exact ⟨m, by go_num, by omega, HN.out⟩
      case measure => simp [intOf]
    · have hlast : vLast f 16 = k := by
        rw [Hl.out]
        cases k with
        | zero => rfl
        | succ m =>
          unfold vLast
          rw [if_neg (fun e => hgo ⟨Nat.succ_pos m, by simpa using e⟩)]
      have HLast := Lib.hid hlast
      have hst : k = 0 ∨ ∃ m x, k = m + 1 ∧ x ≠ 0 ∧ w1.cell? ⟨w.heap.size, m, none⟩ = some (.int .i64 x) := by
        cases k with
        | zero => exact .inl rfl
        | succ m => exact .inr ⟨m, f m, rfl, fun e => hgo ⟨Nat.succ_pos m, by simpa using e⟩, HC.out m (by omega)⟩
      clear hlast hgo Hl
      have Hst := Lib.hid hst
      clear hst
      rcases Hst.out with rfl | ⟨m, x, rfl, hx0, hcx⟩
      · go_wp2_with fail
        have hv : Reads64 w1 (.slice none 0 0) (vMade f) := by
          have : vMade f = [] := by unfold vMade; rw [HLast.out]; rfl
          rw [this]
          exact Reads64.nil _
        have HV := Lib.hid hv
        clear hv Hst HLast
        go_loop [4, 5] (fun v i => v = .slice none 0 0 ∧ i = .int .i64 0) (fun _ i => (intOf i).toNat)
        case atStart => exact ⟨rfl, rfl⟩
        case round =>
          obtain ⟨rfl, rfl⟩ := hrel
          go_wp2
          go_ret
          exact ⟨_, rfl, HV.out, hb0⟩
      · have hxb : (x == 0) = false := beq_eq_false_iff_ne.2 hx0
        go_wp2_with fail
        clear hxb hx0 hcx Hst
        have hm16 : m < 16 := by omega
        have hwb : w1.heap.size = w.heap.size + 1 := HS0.out
        have HWB := Lib.hid hwb
        clear hwb
        go_loopw [4, 5] (fun v i wr => ∃ k : Nat, i = .int .i64 k ∧ k ≤ m + 1 ∧ wr.ownsRow (w.heap.size + 1) 3 1 v k ((firstL f k).map (Value.int .i64)) ∧ Below w1.heap.size w1 wr) (fun _ i _ => m + 1 - (intOf i).toNat)
        case atStart => exact ⟨0, rfl, Nat.zero_le _, World.ownsRow_nil _ _ _ _, Below.refl _ _⟩
        case round =>
          rename_i wr
          obtain ⟨k, rfl, hk2, hown, hb⟩ := hrel
          have hwr : w.heap.size + 1 ≤ wr.heap.size := by have := hb.size; have := HWB.out; omega
          rcases Nat.lt_or_ge k (m + 1) with hlt | hge
          · have hc := HC.out k (by omega)
            have hcw : wr.cell? ⟨w.heap.size, k, none⟩ = some (.int .i64 (f k)) := by
              rw [hb.cell (p := ⟨w.heap.size, k, none⟩) (by show w.heap.size < w1.heap.size; have := HWB.out; omega)]
              exact hc
            have HNX := Lib.hid (firstL_next f k)
            generalize f k = x at *
            have Hown := Lib.hid hown
            have Hb := Lib.hid hb
            clear hc hown hb
            go_wp2_with (at_builtin; refine wpList_append_own _ rfl _ _ 34 rfl (w.heap.size + 1) 3 i0 (.int .i64 0) 1 8 Tryd.underlying34 hi hz0 hz1 hz2 rfl (by decide) _ _ _ rfl (Hown.out.alloc _) ⟨wr.heap.size, 0, none⟩ 1 1 [.int .i64 x] rfl rfl ?c1 ?c2 ?c3 ?c4 ?c5 ?_)
            case c1 =>
              intro j u hj
              match j, hj with
              | 0, hj => simp at hj; subst hj; simp [Addr.add]
            case c2 => intro u hu; simp at hu; subst hu; rfl
            case c3 => unfold maxLen; omega
            case c4 => omega
            case c5 => simp; omega
            intro v' w2 hown' hgrow _
            go_wp2
            refine ⟨⟨k + 1, by congr 1, by omega, ?_, (Hb.out.alloc Hb.out.size _).grown hgrow (by have := Hb.out.size; simp; omega) (fun g hg => ?_)⟩, by simp [RowKit.intOf]; omega⟩
            · rw [HNX.out, List.map_append]
              exact hown'
            · rw [HWB.out]
              exact (Hown.out.lt g hg).1
          · obtain rfl : k = m + 1 := by omega
            have hvm : vMade f = firstL f (m + 1) := by unfold vMade firstL; rw [HLast.out]
            have hown2 := own_first hown
            rw [← hvm] at hown2
            have HR := Lib.hid hown2
            have HZ := Lib.hid (hb0.trans (hb.mono hb0.size))
            clear hown hown2 hvm hb
            go_wp2
            go_ret
            exact ⟨_, rfl, HR.out, HZ.out⟩
end Go.Proofs.YthbophioohcphaaDoor
