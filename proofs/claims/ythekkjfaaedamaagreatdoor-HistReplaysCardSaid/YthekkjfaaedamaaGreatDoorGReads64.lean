/- Texts of this proof, joined. -/
import Derived.Test.YthekkjfaaedamaaGreatDoorRows
import Derived.WalkKit
import Derived.WalkSpells
import Derived.Lib.Hide
import Derived.Deep.QuietTactic
import Derived.BigQuiet
import Derived.WalkSmall
import Derived.Test.YthekkjfaaedamaaGreatDoorGSpansPlain
import Derived.Laws.OwnMore
import Derived.Laws.CopyOwn
import Derived.OwnWalk
import Derived.Laws.AppendOwnNone
import Derived.Laws.CopyRow
import Derived.Laws.IdiomCopy
import Derived.Laws.Rows
import Derived.Laws.Tables
import Derived.Deep.WholeRow
import Derived.Deep.RegionHeld
import Derived.Laws.ResultCell
namespace Go.Proofs.YthekkjfaaedamaaGreatDoor
open Go.RowKit

theorem below_draws {N : Nat} {w X : World} (h : Below N w X) (n : Nat) : Below N w (X.drewN n) := ⟨h.os, h.tape, h.output, h.size, h.block⟩
theorem cell_stays {W W' : World} {p : Addr} {v : Value} (hb : Below W.heap.size W W') (h : W.cell? p = some v) : W'.cell? p = some v := by
 rcases Nat.lt_or_ge p.block W.heap.size with g | g
 ·rw [hb.cell g]
  exact h
 ·simp [World.cell?, Array.getElem?_eq_none g] at h
def Reads64 (W : World) (v : Value) (xs : List Int) : Prop :=
 ∃ ao cap, v = .slice ao xs.length cap ∧ (xs ≠ [] → ∃ b off, ao = some ⟨b, off, none⟩ ∧ ∀ i, i < xs.length → W.cell? ⟨b, off + i, none⟩ = some (.int .i64 (xs.getD i 0)))
theorem Reads64.of_own {W : World} {base : Nat} {v : Value} {xs : List Int} (h : W.ownsRow base 3 1 v xs.length (xs.map (Value.int .i64))) : Reads64 W v xs := by
 rcases h.2 with ⟨hv, h0⟩ | ⟨g, cap, cur, hv, _⟩
 ·exact ⟨none, 0, by rw [hv, h0], fun hx => absurd (List.eq_nil_of_length_eq_zero h0) hx⟩
 ·subst hv
  refine ⟨_, cap, rfl, fun _ => ⟨g, 0, rfl, fun i hi => ?_⟩⟩
  rw [Nat.zero_add, h.cellAt i (by omega)]
  simp [hi]
theorem Reads64.nil (W : World) : Reads64 W (.slice none 0 0) [] := ⟨none, 0, rfl, fun h => absurd rfl h⟩
theorem Reads64.drew {W : World} {v : Value} {xs : List Int} (h : Reads64 W v xs) (n : Nat) : Reads64 (W.drewN n) v xs := h
theorem Reads64.below {W W' : World} {v : Value} {xs : List Int} (h : Reads64 W v xs) (hb : Below W.heap.size W W') : Reads64 W' v xs := by
 obtain ⟨ao, cap, rfl, h2⟩ := h
 refine ⟨ao, cap, rfl, fun hx => ?_⟩
 obtain ⟨b, off, rfl, hc⟩ := h2 hx
 refine ⟨b, off, rfl, fun i hi => ?_⟩
 have hlt : b < W.heap.size := by
  rcases Nat.lt_or_ge b W.heap.size with h' | h'
  ·exact h'
  ·have := hc i hi
   simp [World.cell?, Array.getElem?_eq_none h'] at this
 rw [hb.cell (p := ⟨b, off + i, none⟩) hlt]
 exact hc i hi
theorem Reads64.at {W : World} {v : Value} {xs : List Int} (h : Reads64 W v xs) {i : Nat} (hi : i < xs.length) : ∃ b off cap, v = .slice (some ⟨b, off, none⟩) xs.length cap ∧ W.cell? ⟨b, off + i, none⟩ = some (.int .i64 (xs.getD i 0)) := by
 obtain ⟨ao, cap, rfl, h2⟩ := h
 obtain ⟨b, off, rfl, hc⟩ := h2 (fun e => by rw [e] at hi; exact absurd hi (Nat.not_lt_zero i))
 exact ⟨b, off, cap, rfl, hc i hi⟩
theorem ret_i64 {a b : Int} (h : a = b) : Ending.returned (.int .i64 a) = .returned (.int .i64 b) := by rw [h]
theorem ret_bool {a b : Bool} (h : a = b) : Ending.returned (.bool a) = .returned (.bool b) := by rw [h]
end Go.Proofs.YthekkjfaaedamaaGreatDoor

namespace Go.Proofs.YthekkjfaaedamaaGreatDoor
open Go.RowKit

def Reads32 (W : World) (v : Value) (xs : List Int) : Prop :=
 ∃ ao cap, v = .slice ao xs.length cap ∧ (xs ≠ [] → ∃ b off, ao = some ⟨b, off, none⟩ ∧ ∀ i, i < xs.length → W.cell? ⟨b, off + i, none⟩ = some (.int .i32 (xs.getD i 0)))

theorem Reads32.of_own {W : World} {base : Nat} {v : Value} {xs : List Int} (h : W.ownsRow base 21 1 v xs.length (xs.map (Value.int .i32))) : Reads32 W v xs := by
 rcases h.2 with ⟨hv, h0⟩ | ⟨g, cap, cur, hv, _⟩
 ·exact ⟨none, 0, by rw [hv, h0], fun hx => absurd (List.eq_nil_of_length_eq_zero h0) hx⟩
 ·subst hv
  refine ⟨_, cap, rfl, fun _ => ⟨g, 0, rfl, fun i hi => ?_⟩⟩
  rw [Nat.zero_add, h.cellAt i (by omega)]
  simp [hi]
theorem Reads32.drew {W : World} {v : Value} {xs : List Int} (h : Reads32 W v xs) (n : Nat) : Reads32 (W.drewN n) v xs := h
theorem Reads32.below {W W' : World} {v : Value} {xs : List Int} (h : Reads32 W v xs) (hb : Below W.heap.size W W') : Reads32 W' v xs := by
 obtain ⟨ao, cap, rfl, h2⟩ := h
 refine ⟨ao, cap, rfl, fun hx => ?_⟩
 obtain ⟨b, off, rfl, hc⟩ := h2 hx
 refine ⟨b, off, rfl, fun i hi => ?_⟩
 have hlt : b < W.heap.size := by
  rcases Nat.lt_or_ge b W.heap.size with h' | h'
  ·exact h'
  ·have := hc i hi
   simp [World.cell?, Array.getElem?_eq_none h'] at this
 rw [hb.cell (p := ⟨b, off + i, none⟩) hlt]
 exact hc i hi

end Go.Proofs.YthekkjfaaedamaaGreatDoor

namespace Go.Proofs.YthekkjfaaedamaaGreatDoor
open Go.RowKit

def nmV (s q : Int) : Value := .agg #[.int .i64 s, .int .i64 q]
set_option maxRecDepth 100000 in
set_option maxHeartbeats 2000000 in
theorem rMayName_any (s q : Int) (w : World) :
  Calls Tryz.prog 44 #[nmV s q] w fun e w' => e = .returned (.bool (nMay s q)) ∧ Below w.heap.size w w' := by
 unfold nmV
 have hB := (Below.refl w.heap.size w).alloc (Nat.le_refl _) (.cells #[.int .i64 s, .int .i64 q] 42)
 have fin : ∀ b, nMay s q = b → (Ending.returned (.bool b) = .returned (.bool (nMay s q)) ∧ Below w.heap.size w (w.alloc (.cells #[.int .i64 s, .int .i64 q] 42))) := fun b h => ⟨by rw [h], hB⟩
 have HF := Lib.hid fin
 clear fin
 by_cases p1 : 1 ≤ s
 by_cases p2 : s ≤ 16
 by_cases p3 : 1 ≤ q
 by_cases p4 : q ≤ 1099511627776
 all_goals
  go_enter Tryz.func44, Tryz.ntmps44
  go_wp2
  go_ret
 ·exact HF.out true (decide_eq_true ⟨p1, p2, p3, p4⟩)
 ·exact HF.out false (decide_eq_false (by omega))
 ·exact HF.out false (decide_eq_false (by omega))
 ·exact HF.out false (decide_eq_false (by omega))
 ·exact HF.out false (decide_eq_false (by omega))
set_option maxRecDepth 100000 in
set_option maxHeartbeats 2000000 in
theorem rCount_any (v : Value) (xs : List Int) (s : Int) (w : World) (h : Reads64 w v xs) (hs : -9223372036854775808 ≤ s) (hx : xs.length ≤ 1000000000) :
  Calls Tryz.prog 22 #[v, .int .i64 s] w fun e w' => e = .returned (.int .i64 (vCount xs s)) ∧ w = w' := by
 by_cases h1 : 1 ≤ s
 by_cases h2 : s ≤ xs.length
 ·obtain ⟨k, rfl⟩ := Int.eq_ofNat_of_zero_le (show 0 ≤ s - 1 by omega) |> fun ⟨k, hk⟩ => (⟨k, by omega⟩ : ∃ k : Nat, s = (k : Int) + 1)
  have hk : k < xs.length := by omega
  have hV := Lib.hid (vCount_nat xs k)
  obtain ⟨b, off, cap, rfl, hc⟩ := h.at hk
  have hi : (0 : Int) ≤ (k : Int) ∧ (k : Int) < (xs.length : Int) := ⟨by omega, by omega⟩
  generalize xs.getD k 0 = x at *
  generalize hn : xs.length = n at *
  go_enter Tryz.func22, Tryz.ntmps22
  go_wp2
  go_ret
  exact ⟨ret_i64 hV.out.symm, rfl⟩
 ·have hV := Lib.hid (vCount_none xs s (by omega))
  obtain ⟨ao, cap, rfl, _⟩ := h
  generalize xs.length = n at *
  go_enter Tryz.func22, Tryz.ntmps22
  go_wp2
  go_ret
  exact ⟨ret_i64 hV.out.symm, rfl⟩
 ·have hV := Lib.hid (vCount_none xs s (by omega))
  obtain ⟨ao, cap, rfl, _⟩ := h
  generalize xs.length = n at *
  go_enter Tryz.func22, Tryz.ntmps22
  go_wp2
  go_ret
  exact ⟨ret_i64 hV.out.symm, rfl⟩
set_option maxRecDepth 100000 in
set_option maxHeartbeats 2000000 in
theorem rMayV_any (v : Value) (xs : List Int) (w : World) (h : Reads64 w v xs) (hx : xs.length ≤ 1000000000) :
  Calls Tryz.prog 19 #[v] w fun e w' => e = .returned (.bool (vMay xs)) ∧ w = w' := by
 by_cases h16 : 16 < xs.length
 ·have hV := Lib.hid (show vMay xs = false from decide_eq_false fun q => by omega)
  obtain ⟨ao, cap, rfl, _⟩ := h
  generalize xs.length = n at *
  go_enter Tryz.func19, Tryz.ntmps19
  go_wp2
  go_ret
  exact ⟨ret_bool hV.out.symm, rfl⟩
 ·have HR := Lib.hid h
  obtain ⟨ao, cap, rfl, _⟩ := h
  obtain ⟨n, hn⟩ : ∃ n, xs.length = n := ⟨_, rfl⟩
  rw [hn]
  have Hn := Lib.hid hn
  have hn16 : n ≤ 16 := by omega
  clear hx h16 hn
  go_enter Tryz.func19, Tryz.ntmps19
  go_wp2
  go_loop [3] (fun i => ∃ k : Nat, i = .int .i64 k ∧ k ≤ n ∧ vOk (xs.take k)) (fun i => n - (intOf i).toNat)
  case atStart => exact ⟨0, rfl, Nat.zero_le _, fun x hm => by simp at hm⟩
  case round =>
   obtain ⟨k, rfl, hk, hok⟩ := hrel
   have Hok := Lib.hid hok
   clear hok
   rcases Nat.lt_or_ge k n with hlt | hge
   ·have hxk : k < xs.length := by rw [Hn.out]; exact hlt
    obtain ⟨b, off, cap', hv, hc⟩ := HR.out.at hxk
    cases hv
    obtain ⟨x, ex⟩ : ∃ x, xs.getD k 0 = x := ⟨_, rfl⟩
    rw [ex] at hc
    have Ex := Lib.hid ex
    have hxk' := Lib.hid hxk
    clear ex hxk
    by_cases g0 : x < 0
    ·have hV := Lib.hid (show vMay xs = false from decide_eq_false fun q => vOk_bad hxk'.out (by rw [Ex.out]; omega) q.2.1)
     go_wp2
     go_ret
     exact ⟨ret_bool hV.out.symm, rfl⟩
    ·by_cases g1 : 1099511627776 < x
     ·have hV := Lib.hid (show vMay xs = false from decide_eq_false fun q => vOk_bad hxk'.out (by rw [Ex.out]; omega) q.2.1)
      go_wp2
      go_ret
      exact ⟨ret_bool hV.out.symm, rfl⟩
     ·have hN := Lib.hid (vOk_take Hok.out hxk'.out (by rw [Ex.out]; omega))
      go_wp2
      go_round
      case rel => exact ⟨k + 1, by go_num, by omega, hN.out⟩
      case measure => simp [intOf]; omega
   ·obtain rfl : k = n := by omega
    have hokA : vOk xs := by have := Hok.out; rwa [List.take_of_length_le (by rw [Hn.out]; exact Nat.le_refl _)] at this
    rcases Nat.eq_zero_or_pos k with h0 | hpos
    ·subst h0
     have hV := Lib.hid (show vMay xs = true from decide_eq_true ⟨by rw [Hn.out]; omega, hokA, .inl (List.eq_nil_of_length_eq_zero Hn.out)⟩)
     clear hokA
     go_wp2
     go_ret
     exact ⟨ret_bool hV.out.symm, rfl⟩
    ·obtain ⟨m, rfl⟩ : ∃ m, k = m + 1 := ⟨k - 1, by omega⟩
     have hxk : m < xs.length := by rw [Hn.out]; omega
     obtain ⟨b, off, cap', hv, hc⟩ := HR.out.at hxk
     cases hv
     obtain ⟨x, ex⟩ : ∃ x, xs.getD m 0 = x := ⟨_, rfl⟩
     rw [ex] at hc
     have hV := Lib.hid (show vMay xs = !(x == 0) by
      unfold vMay
      rw [Hn.out, Nat.add_sub_cancel, ex]
      cases hq : x == 0 with
      | true => exact decide_eq_false fun q => by rcases q.2.2 with g | g; rw [g] at hxk; exact absurd hxk (Nat.not_lt_zero m); exact g (by simpa using hq)
      | false => exact decide_eq_true ⟨by omega, hokA, .inr (by simpa using hq)⟩)
     clear ex hxk hokA
     have hm0 : ((m : Int) + 1 == 0) = false := beq_eq_false_iff_ne.2 (by omega)
     have Hm0 := Lib.hid hm0
     clear hm0
     go_wp2
     go_ret
     exact ⟨ret_bool (a := ((m : Int) + 1 == 0 || x != 0)) (by rw [hV.out, Hm0.out]; rfl), rfl⟩
end Go.Proofs.YthekkjfaaedamaaGreatDoor

namespace Go.Proofs.YthekkjfaaedamaaGreatDoor
open Go.RowKit

set_option maxRecDepth 100000 in
set_option maxHeartbeats 2000000 in
theorem pMayName_any (s q : Int) (w : World) :
  Calls Tryz.prog 78 #[nmV s q] w fun e w' => e = .returned (.bool (nMay s q)) ∧ Below w.heap.size w w' := by
 unfold nmV
 have hB := (Below.refl w.heap.size w).alloc (Nat.le_refl _) (.cells #[.int .i64 s, .int .i64 q] 42)
 have fin : ∀ b, nMay s q = b → (Ending.returned (.bool b) = .returned (.bool (nMay s q)) ∧ Below w.heap.size w (w.alloc (.cells #[.int .i64 s, .int .i64 q] 42))) := fun b h => ⟨by rw [h], hB⟩
 have HF := Lib.hid fin
 clear fin
 by_cases p1 : 1 ≤ s
 by_cases p2 : s ≤ 16
 by_cases p3 : 1 ≤ q
 by_cases p4 : q ≤ 1099511627776
 all_goals
  go_enter Tryz.func78, Tryz.ntmps78
  go_wp2
  go_ret
 ·exact HF.out true (decide_eq_true ⟨p1, p2, p3, p4⟩)
 ·exact HF.out false (decide_eq_false (by omega))
 ·exact HF.out false (decide_eq_false (by omega))
 ·exact HF.out false (decide_eq_false (by omega))
 ·exact HF.out false (decide_eq_false (by omega))
set_option maxRecDepth 100000 in
set_option maxHeartbeats 2000000 in
theorem pMay_any (v : Value) (xs : List Int) (w : World) (h : Reads64 w v xs) (hx : xs.length ≤ 1000000000) :
  Calls Tryz.prog 59 #[v] w fun e w' => e = .returned (.bool (vMay xs)) ∧ w = w' := by
 by_cases h16 : 16 < xs.length
 ·have hV := Lib.hid (show vMay xs = false from decide_eq_false fun q => by omega)
  obtain ⟨ao, cap, rfl, _⟩ := h
  generalize xs.length = n at *
  go_enter Tryz.func59, Tryz.ntmps59
  go_wp2
  go_ret
  exact ⟨ret_bool hV.out.symm, rfl⟩
 ·have HR := Lib.hid h
  obtain ⟨ao, cap, rfl, _⟩ := h
  obtain ⟨n, hn⟩ : ∃ n, xs.length = n := ⟨_, rfl⟩
  rw [hn]
  have Hn := Lib.hid hn
  have hn16 : n ≤ 16 := by omega
  clear hx h16 hn
  go_enter Tryz.func59, Tryz.ntmps59
  go_wp2
  go_loop [10] (fun i => ∃ k : Nat, i = .int .i64 k ∧ k ≤ n ∧ vOk (xs.take k)) (fun i => n - (intOf i).toNat)
  case atStart => exact ⟨0, rfl, Nat.zero_le _, fun x hm => by simp at hm⟩
  case round =>
   obtain ⟨k, rfl, hk, hok⟩ := hrel
   have Hok := Lib.hid hok
   clear hok
   rcases Nat.lt_or_ge k n with hlt | hge
   ·have hxk : k < xs.length := by rw [Hn.out]; exact hlt
    obtain ⟨b, off, cap', hv, hc⟩ := HR.out.at hxk
    cases hv
    obtain ⟨x, ex⟩ : ∃ x, xs.getD k 0 = x := ⟨_, rfl⟩
    rw [ex] at hc
    have Ex := Lib.hid ex
    have hxk' := Lib.hid hxk
    clear ex hxk
    by_cases g0 : x < 0
    ·have hV := Lib.hid (show vMay xs = false from decide_eq_false fun q => vOk_bad hxk'.out (by rw [Ex.out]; omega) q.2.1)
     go_wp2
     go_ret
     exact ⟨ret_bool hV.out.symm, rfl⟩
    ·by_cases g1 : 1099511627776 < x
     ·have hV := Lib.hid (show vMay xs = false from decide_eq_false fun q => vOk_bad hxk'.out (by rw [Ex.out]; omega) q.2.1)
      go_wp2
      go_ret
      exact ⟨ret_bool hV.out.symm, rfl⟩
     ·have hN := Lib.hid (vOk_take Hok.out hxk'.out (by rw [Ex.out]; omega))
      go_wp2
      go_round
      case rel => exact ⟨k + 1, by go_num, by omega, hN.out⟩
      case measure => simp [intOf]; omega
   ·obtain rfl : k = n := by omega
    have hokA : vOk xs := by have := Hok.out; rwa [List.take_of_length_le (by rw [Hn.out]; exact Nat.le_refl _)] at this
    rcases Nat.eq_zero_or_pos k with h0 | hpos
    ·subst h0
     have hV := Lib.hid (show vMay xs = true from decide_eq_true ⟨by rw [Hn.out]; omega, hokA, .inl (List.eq_nil_of_length_eq_zero Hn.out)⟩)
     clear hokA
     go_wp2
     go_ret
     exact ⟨ret_bool hV.out.symm, rfl⟩
    ·obtain ⟨m, rfl⟩ : ∃ m, k = m + 1 := ⟨k - 1, by omega⟩
     have hxk : m < xs.length := by rw [Hn.out]; omega
     obtain ⟨b, off, cap', hv, hc⟩ := HR.out.at hxk
     cases hv
     obtain ⟨x, ex⟩ : ∃ x, xs.getD m 0 = x := ⟨_, rfl⟩
     rw [ex] at hc
     have hV := Lib.hid (show vMay xs = !(x == 0) by
      unfold vMay
      rw [Hn.out, Nat.add_sub_cancel, ex]
      cases hq : x == 0 with
      | true => exact decide_eq_false fun q => by rcases q.2.2 with g | g; rw [g] at hxk; exact absurd hxk (Nat.not_lt_zero m); exact g (by simpa using hq)
      | false => exact decide_eq_true ⟨by omega, hokA, .inr (by simpa using hq)⟩)
     clear ex hxk hokA
     have hm0 : ((m : Int) + 1 == 0) = false := beq_eq_false_iff_ne.2 (by omega)
     have Hm0 := Lib.hid hm0
     clear hm0
     go_wp2
     go_ret
     exact ⟨ret_bool (a := ((m : Int) + 1 == 0 || x != 0)) (by rw [hV.out, Hm0.out]; rfl), rfl⟩
set_option maxRecDepth 100000 in
set_option maxHeartbeats 2000000 in
theorem pAt_any (v : Value) (xs : List Int) (k : Nat) (w : World) (h : Reads64 w v xs) :
  Calls Tryz.prog 101 #[v, .int .i64 k] w fun e w' => e = .returned (.int .i64 (xs.getD k 0)) ∧ w = w' := by
 by_cases h2 : k < xs.length
 ·obtain ⟨b, off, cap, rfl, hc⟩ := h.at h2
  have hi : (0 : Int) ≤ (k : Int) ∧ (k : Int) < (xs.length : Int) := ⟨by omega, by omega⟩
  generalize xs.getD k 0 = x at *
  generalize hn : xs.length = n at *
  go_enter Tryz.func101, Tryz.ntmps101
  go_wp2
  go_ret
  exact ⟨rfl, rfl⟩
 ·have hV := Lib.hid (show xs.getD k 0 = 0 by simp [List.getD, Nat.not_lt.1 h2])
  obtain ⟨ao, cap, rfl, _⟩ := h
  generalize xs.length = n at *
  go_enter Tryz.func101, Tryz.ntmps101
  go_wp2
  go_ret
  exact ⟨ret_i64 hV.out.symm, rfl⟩
end Go.Proofs.YthekkjfaaedamaaGreatDoor

namespace Go.Proofs.YthekkjfaaedamaaGreatDoor
open Go.RowKit

def SpAt (W : World) (v : Value) (xs : List Sp) : Prop :=
 ∃ ao cap, v = .slice ao xs.length cap ∧ (xs ≠ [] → ∃ b off, ao = some ⟨b, off, none⟩ ∧ ∀ i, i < xs.length →
  W.cell? ⟨b, off + i * 2, none⟩ = some (.int .i64 (xs.getD i (0, 0)).1) ∧ W.cell? ⟨b, off + i * 2 + 1, none⟩ = some (.int .i64 (xs.getD i (0, 0)).2))
theorem SpAt.nil (W : World) : SpAt W (.slice none 0 0) [] := ⟨none, 0, rfl, fun h => absurd rfl h⟩
theorem SpAt.drew {W : World} {v : Value} {xs : List Sp} (h : SpAt W v xs) (n : Nat) : SpAt (W.drewN n) v xs := h
theorem SpAt.below {W W' : World} {v : Value} {xs : List Sp} (h : SpAt W v xs) (hb : Below W.heap.size W W') : SpAt W' v xs := by
 obtain ⟨ao, cap, rfl, h2⟩ := h
 refine ⟨ao, cap, rfl, fun hx => ?_⟩
 obtain ⟨b, off, rfl, hc⟩ := h2 hx
 exact ⟨b, off, rfl, fun i hi => ⟨cell_stays hb (hc i hi).1, cell_stays hb (hc i hi).2⟩⟩
theorem SpAt.at {W : World} {v : Value} {xs : List Sp} (h : SpAt W v xs) {i : Nat} (hi : i < xs.length) : ∃ b off cap, v = .slice (some ⟨b, off, none⟩) xs.length cap ∧
  W.cell? ⟨b, off + i * 2, none⟩ = some (.int .i64 (xs.getD i (0, 0)).1) ∧ W.cell? ⟨b, off + i * 2 + 1, none⟩ = some (.int .i64 (xs.getD i (0, 0)).2) := by
 obtain ⟨ao, cap, rfl, h2⟩ := h
 obtain ⟨b, off, rfl, hc⟩ := h2 (fun e => by rw [e] at hi; exact absurd hi (Nat.not_lt_zero i))
 exact ⟨b, off, cap, rfl, hc i hi⟩
def spCells : List Sp → List Value
 | [] => []
 | s :: r => .int .i64 s.1 :: .int .i64 s.2 :: spCells r
theorem spCells_length : ∀ xs, (spCells xs).length = xs.length * 2
 | [] => rfl
 | s :: r => by
  show (spCells r).length + 1 + 1 = (r.length + 1) * 2
  rw [spCells_length r]; omega
theorem spCells_at : ∀ (xs : List Sp) (i : Nat), i < xs.length → (spCells xs)[i * 2]? = some (.int .i64 (xs.getD i (0, 0)).1) ∧ (spCells xs)[i * 2 + 1]? = some (.int .i64 (xs.getD i (0, 0)).2)
 | [], i, h => absurd h (Nat.not_lt_zero i)
 | s :: r, 0, _ => ⟨rfl, rfl⟩
 | s :: r, i + 1, h => by
  have := spCells_at r i (by simpa using h)
  rw [show (i + 1) * 2 = i * 2 + 1 + 1 by omega]
  exact ⟨this.1, this.2⟩
theorem SpAt.of_own {W : World} {base : Nat} {v : Value} {xs : List Sp} (h : W.ownsRow base 105 2 v xs.length (spCells xs)) : SpAt W v xs := by
 rcases h.2 with ⟨hv, h0⟩ | ⟨g, cap, cur, hv, _⟩
 ·exact ⟨none, 0, by rw [hv, h0], fun hx => absurd (List.eq_nil_of_length_eq_zero h0) hx⟩
 ·subst hv
  refine ⟨_, cap, rfl, fun _ => ⟨g, 0, rfl, fun i hi => ?_⟩⟩
  obtain ⟨h1, h2⟩ := spCells_at xs i hi
  rw [Nat.zero_add]
  exact ⟨by rw [h.cellAt _ (by omega)]; exact h1, by rw [h.cellAt _ (by omega)]; exact h2⟩
def BAt (W : World) (v : Value) (n : Nat) (f : Nat → Bool) : Prop :=
 ∃ ao cap, v = .slice ao n cap ∧ (0 < n → ∃ b off, ao = some ⟨b, off, none⟩ ∧ ∀ i, i < n → W.cell? ⟨b, off + i, none⟩ = some (.bool (f i)))
theorem BAt.drew {W : World} {v : Value} {n : Nat} {f : Nat → Bool} (h : BAt W v n f) (k : Nat) : BAt (W.drewN k) v n f := h
theorem BAt.below {W W' : World} {v : Value} {n : Nat} {f : Nat → Bool} (h : BAt W v n f) (hb : Below W.heap.size W W') : BAt W' v n f := by
 obtain ⟨ao, cap, rfl, h2⟩ := h
 refine ⟨ao, cap, rfl, fun hx => ?_⟩
 obtain ⟨b, off, rfl, hc⟩ := h2 hx
 exact ⟨b, off, rfl, fun i hi => cell_stays hb (hc i hi)⟩
theorem BAt.at {W : World} {v : Value} {n : Nat} {f : Nat → Bool} (h : BAt W v n f) {i : Nat} (hi : i < n) : ∃ b off cap, v = .slice (some ⟨b, off, none⟩) n cap ∧ W.cell? ⟨b, off + i, none⟩ = some (.bool (f i)) := by
 obtain ⟨ao, cap, rfl, h2⟩ := h
 obtain ⟨b, off, rfl, hc⟩ := h2 (by omega)
 exact ⟨b, off, cap, rfl, hc i hi⟩
theorem BAt.congr {W : World} {v : Value} {n : Nat} {f g : Nat → Bool} (h : BAt W v n f) (e : ∀ i, i < n → f i = g i) : BAt W v n g := by
 obtain ⟨ao, cap, rfl, h2⟩ := h
 refine ⟨ao, cap, rfl, fun hx => ?_⟩
 obtain ⟨b, off, rfl, hc⟩ := h2 hx
 exact ⟨b, off, rfl, fun i hi => by rw [hc i hi, e i hi]⟩
def bCells (f : Nat → Bool) (n : Nat) : List Value := (List.range n).map fun i => .bool (f i)
theorem bCells_at (f : Nat → Bool) (n i : Nat) (hi : i < n) : (bCells f n)[i]? = some (.bool (f i)) := by simp [bCells, hi]
theorem bCells_set (f : Nat → Bool) (n j : Nat) (x : Bool) : (bCells f n).set j (.bool x) = bCells (fun i => if i = j then x else f i) n := by
 apply List.ext_getElem (by simp [bCells])
 intro i h1 h2
 rw [List.getElem_set]
 by_cases e : j = i
 ·subst e; simp [bCells]
 ·rw [if_neg e]
  simp [bCells, show ¬ i = j from fun q => e q.symm]
theorem BAt.of_own {W : World} {base n : Nat} {v : Value} {f : Nat → Bool} (h : W.ownsRow base 4 1 v n (bCells f n)) : BAt W v n f := by
 rcases h.2 with ⟨hv, h0⟩ | ⟨g, cap, cur, hv, _⟩
 ·exact ⟨none, 0, by rw [hv, h0], fun hx => by omega⟩
 ·subst hv
  refine ⟨_, cap, rfl, fun _ => ⟨g, 0, rfl, fun i hi => ?_⟩⟩
  rw [Nat.zero_add, h.cellAt i (by omega)]
  exact bCells_at f n i hi
end Go.Proofs.YthekkjfaaedamaaGreatDoor

namespace Go.Proofs.YthekkjfaaedamaaGreatDoor
open Go.RowKit

structure Keep (S : Nat → Prop) (N : Nat) (w w' : World) : Prop where
 os : w'.os = w.os
 tape : w'.tape = w.tape
 output : w'.output = w.output
 size : w.heap.size ≤ w'.heap.size
 block : ∀ k, k < N → ¬ S k → w'.heap[k]? = w.heap[k]?

theorem Keep.refl (S : Nat → Prop) (N : Nat) (w : World) : Keep S N w w := ⟨rfl, rfl, rfl, Nat.le_refl _, fun _ _ _ => rfl⟩
theorem Keep.trans {S : Nat → Prop} {N : Nat} {a b c : World} (h : Keep S N a b) (k : Keep S N b c) : Keep S N a c :=
 ⟨k.os.trans h.os, k.tape.trans h.tape, k.output.trans h.output, Nat.le_trans h.size k.size, fun i hi hs => (k.block i hi hs).trans (h.block i hi hs)⟩
theorem Keep.weak {S S' : Nat → Prop} {N N' : Nat} {a b : World} (h : Keep S N a b) (hN : N' ≤ N) (hS : ∀ k, k < N' → S k → S' k) : Keep S' N' a b :=
 ⟨h.os, h.tape, h.output, h.size, fun i hi hs => h.block i (Nat.lt_of_lt_of_le hi hN) fun hh => hs (hS i hi hh)⟩
theorem Keep.of_below {S : Nat → Prop} {N M : Nat} {a b : World} (h : Below M a b) (hN : N ≤ M) : Keep S N a b := ⟨h.os, h.tape, h.output, h.size, fun k hk _ => h.block k (Nat.lt_of_lt_of_le hk hN)⟩
theorem Keep.below {S : Nat → Prop} {N M : Nat} {a b : World} (h : Keep S N a b) (hN : M ≤ N) (hS : ∀ k, S k → M ≤ k) : Below M a b :=
 ⟨h.os, h.tape, h.output, h.size, fun k hk => h.block k (Nat.lt_of_lt_of_le hk hN) fun hs => by have := hS k hs; omega⟩
theorem Keep.drewN {S : Nat → Prop} {N : Nat} {a b : World} (h : Keep S N a b) (n : Nat) : Keep S N a (b.drewN n) := ⟨h.os, h.tape, h.output, h.size, h.block⟩
theorem Keep.setCell {S : Nat → Prop} {N : Nat} {a b : World} (h : Keep S N a b) {p : Addr} (hp : S p.block ∨ N ≤ p.block) (u : Value) : Keep S N a (b.setCell p u) :=
 h.trans ⟨rfl, rfl, rfl, by simp [World.setCell], fun k hk hs => Below.heap_setCell _ _ _ _ (fun e => by subst e; exact hp.elim (fun q => hs q) (fun q => absurd hk (Nat.not_lt.2 q)))⟩
theorem Keep.alloc {S : Nat → Prop} {N : Nat} {a b : World} (h : Keep S N a b) (hN : N ≤ b.heap.size) (o : Obj) : Keep S N a (b.alloc o) :=
 h.trans ⟨rfl, rfl, rfl, by simp, fun k hk _ => Below.heap_alloc _ _ _ (by omega)⟩
theorem Keep.grown {S : Nat → Prop} {N : Nat} {a b c : World} {r : Option Nat} (h : Keep S N a b) (hg : b.grownBy c r) (hN : N ≤ b.heap.size) (hr : ∀ g, r = some g → S g ∨ N ≤ g) : Keep S N a c :=
 h.trans ⟨hg.os, hg.tape, hg.output, hg.size, fun k hk hs => hg.block k (by omega) fun e => (hr k e.symm).elim (fun q => hs q) (fun q => absurd hk (Nat.not_lt.2 q))⟩

theorem Keep.cell {S : Nat → Prop} {N : Nat} {w w' : World} (h : Keep S N w w') {p : Addr} (h1 : p.block < N) (h2 : ¬ S p.block) : w'.cell? p = w.cell? p := World.cell?_of_block (h.block p.block h1 h2)
theorem cell_below {w w' : World} {p : Addr} {v : Value} (h : w.cell? p = some v) (hb : Below w.heap.size w w') : w'.cell? p = some v := by
 rcases Nat.lt_or_ge p.block w.heap.size with g | g
 ·rw [hb.cell g]
  exact h
 ·simp [World.cell?, Array.getElem?_eq_none g] at h
theorem cb {w w' : World} {p : Addr} {v : Value} (hb : Below w.heap.size w w') (h : w.cell? p = some v) : w'.cell? p = some v := cell_below h hb
theorem ck {B : Nat} {w w' : World} {p : Addr} {v : Value} (hk : Keep (fun k => k = B) w.heap.size w w') (hne : p.block ≠ B) (h : w.cell? p = some v) : w'.cell? p = some v := by
 rcases Nat.lt_or_ge p.block w.heap.size with g | g
 ·rw [hk.cell g hne]
  exact h
 ·simp [World.cell?, Array.getElem?_eq_none g] at h
theorem cell_lt {w : World} {p : Addr} {v : Value} (h : w.cell? p = some v) : p.block < w.heap.size := by
 rcases Nat.lt_or_ge p.block w.heap.size with g | g
 ·exact g
 ·simp [World.cell?, Array.getElem?_eq_none g] at h

def Mine (S : Nat → Prop) (N : Nat) (v : Value) : Prop := ∀ g, v.ownBlock = some g → S g ∨ N ≤ g
theorem Mine.nil (S : Nat → Prop) (N : Nat) : Mine S N (.slice none 0 0) := fun g h => by cases h

abbrev Ints (w : World) (e : TypeId) (k : IntKind) (v : Value) (xs : List Int) : Prop := w.ownsRow 0 e 1 v xs.length (xs.map (Value.int k))

theorem Ints.nil (w : World) (e : TypeId) (k : IntKind) : Ints w e k (.slice none 0 0) [] := World.ownsRow_nil w 0 e 1
theorem Ints.shape {w : World} {e : TypeId} {k : IntKind} {v : Value} {xs : List Int} (h : Ints w e k v xs) : ∃ ao cap, v = .slice ao xs.length cap ∧ xs.length ≤ cap ∧ cap ≤ maxLen ∧ (xs ≠ [] → ∃ g, ao = some ⟨g, 0, none⟩) := by
 rcases h.2 with ⟨h2, h0⟩ | ⟨g, cap, cur, hv, _, _, hc, hm, _⟩
 ·exact ⟨none, 0, by rw [h2, h0], by omega, Nat.zero_le _, fun hx => absurd (List.eq_nil_of_length_eq_zero h0) hx⟩
 ·exact ⟨_, cap, hv, hc, hm, fun _ => ⟨g, rfl⟩⟩
theorem Ints.cell {w : World} {e : TypeId} {k : IntKind} {g n cap : Nat} {xs : List Int} (h : Ints w e k (.slice (some ⟨g, 0, none⟩) n cap) xs) (j : Nat) (hj : j < xs.length) : w.cell? ⟨g, j, none⟩ = some (.int k (xs.getD j 0)) := by
 obtain ⟨ao, cap', hv, _⟩ := h.shape
 cases hv
 rw [World.ownsRow.cellAt h j (by omega)]
 simp [hj]

theorem box_cell {w : World} {B : Nat} {cs : Array Value} {t : TypeId} (hB : w.heap[B]? = some (.cells cs t (0, 0))) (o : Nat) : w.cell? ⟨B, o, none⟩ = cs[o]? := cell_of_row w B o cs t (0, 0) hB
theorem box_frozen {w : World} {B : Nat} {cs : Array Value} {t : TypeId} (hB : w.heap[B]? = some (.cells cs t (0, 0))) (o : Nat) : w.frozen? ⟨B, o, none⟩ = false := frozen_of_row w B o cs t hB
theorem box_set {w : World} {B : Nat} {cs : Array Value} {t : TypeId} (hB : w.heap[B]? = some (.cells cs t (0, 0))) (o : Nat) (v : Value) : (w.setCell ⟨B, o, none⟩ v).heap[B]? = some (.cells (cs.setIfInBounds o v) t (0, 0)) := heap_setCell_same w B o cs t v hB
theorem box_other {w : World} {B k : Nat} (h : k ≠ B) (o : Nat) (v : Value) : (w.setCell ⟨B, o, none⟩ v).heap[k]? = w.heap[k]? := heap_setCell_other w ⟨B, o, none⟩ k v h
theorem box_lt {w : World} {B : Nat} {o : Obj} (hB : w.heap[B]? = some o) : B < w.heap.size := (Array.getElem?_eq_some_iff.1 hB).1

end Go.Proofs.YthekkjfaaedamaaGreatDoor

namespace Go.Proofs.YthekkjfaaedamaaGreatDoor
open Go.RowKit

end Go.Proofs.YthekkjfaaedamaaGreatDoor

namespace Go.Proofs.YthekkjfaaedamaaGreatDoor
open Go.RowKit

def RowR (sz : Nat) (W : World) (v : Value) (n : Nat) (cs : List Value) : Prop :=
 cs.length = n * sz ∧ ∃ ao cap, v = .slice ao n cap ∧ (0 < n → ∃ b off, ao = some ⟨b, off, none⟩ ∧ ∀ j u, cs[j]? = some u → W.cell? ⟨b, off + j, none⟩ = some u)
theorem RowR.nil (sz : Nat) (W : World) : RowR sz W (.slice none 0 0) 0 [] := ⟨by simp, none, 0, rfl, fun h => absurd h (Nat.lt_irrefl 0)⟩
theorem RowR.below {sz : Nat} {W W' : World} {v : Value} {n : Nat} {cs : List Value} (h : RowR sz W v n cs) (hb : Below W.heap.size W W') : RowR sz W' v n cs := by
 obtain ⟨hl, ao, cap, rfl, h2⟩ := h
 refine ⟨hl, ao, cap, rfl, fun h0 => ?_⟩
 obtain ⟨b, off, e, hc⟩ := h2 h0
 exact ⟨b, off, e, fun j u hj => cell_stays hb (hc j u hj)⟩
theorem RowR.of_own {sz : Nat} {W : World} {base : Nat} {e : TypeId} {v : Value} {n : Nat} {cs : List Value} (h : W.ownsRow base e sz v n cs) : RowR sz W v n cs := by
 refine ⟨h.1, ?_⟩
 rcases h.2 with ⟨hv, h0⟩ | ⟨g, cap, cur, hv, _⟩
 ·exact ⟨none, 0, by rw [hv, h0], fun h1 => by omega⟩
 ·subst hv
  refine ⟨_, cap, rfl, fun _ => ⟨g, 0, rfl, fun j u hj => ?_⟩⟩
  have hjl := (List.getElem?_eq_some_iff.1 hj).1
  rw [Nat.zero_add, h.cellAt j (by rw [← h.1]; exact hjl)]
  exact hj
theorem run_app_none {P : Program} {w : World} (base : Nat) (t ty e : TypeId) (i : TypeInfo) (size : Nat) (ht : P.underlying t = some (.slice e)) (hi : P.info? e = some i)
  (v : Value) (n : Nat) (xs : List Value) (hown : w.ownsRow base e size v n xs) (c : Nat) : (Builtin.append_ #[t, t] ty #[v, .slice none 0 c]).run P w = .ok v w := by
 rcases hown.2 with ⟨rfl, rfl⟩ | ⟨g, cap, cur, rfl, _, _, hnc, _⟩
 ·simp [Builtin.append_, run_underlying ht, sizeOf, typeInfo, hi, Builtin.lenOf, Builtin.firstCells]
 ·simp [Builtin.append_, run_underlying ht, sizeOf, typeInfo, hi, Builtin.lenOf, Builtin.firstCells, hnc, storeCells]
theorem wpList_app_any {P : Program} {w : World} {ops : Array Oper} {rest : List Oper} {o : Oper} {a : Act} {Q : Exit → Act → World → Prop} (hgd : o.guard = none) (s x : Operand) (t : TypeId)
  (ho : o.op = .call { callee := .builtin .append, args := #[s, x], argTypes := #[t, t] })
  (base : Nat) (e : TypeId) (i : TypeInfo) (z : Value) (sz bytes : Nat) (ht : P.underlying t = some (.slice e)) (hi : P.info? e = some i) (hz : i.zero = some z)
  (hsize : i.size = sz) (hby : i.bytes = bytes) (hzs : z.cells.size = sz) (hsz : 0 < sz)
  (v : Value) (n : Nat) (xs : List Value) (hs : a.eval s = v) (hown : w.ownsRow base e sz v n xs)
  (u : Value) (m : Nat) (news : List Value) (hx : a.eval x = u) (hr : RowR sz w u m news) (h1 : ∀ u ∈ news, u.oneCell' = true)
  (h63 : n + m ≤ maxLen) (hbytes : (n + m) * bytes ≤ 140737488355328) (hbase : base ≤ w.heap.size)
  (h : ∀ v' w', w'.ownsRow base e sz v' (n + m) (xs ++ news) → w.grownBy w' v.ownBlock → wpList P ops Q rest (a.put o.dst v') w') : wpList P ops Q (o :: rest) a w := by
 obtain ⟨hl, ao, c, rfl, hsrc⟩ := hr
 rcases Nat.eq_zero_or_pos m with h0 | hp
 ·subst h0
  obtain rfl : news = [] := List.eq_nil_of_length_eq_zero (by omega)
  cases ao with
  | none =>
   have hrun := run_app_none (P := P) (w := w) base t o.type e i sz ht hi v n xs hown c
   refine wpList_plain hgd fun K hK => ?_
   unfold Oper.wp
   simp [execOp, ho, resolve, invoke, builtin, hs, hx, hrun, Result.andThen]
   exact hK _ _ (h v w (by simpa using hown) ⟨rfl, rfl, rfl, Nat.le_refl _, fun _ _ _ => rfl⟩)
  | some ad =>
   exact wpList_append_own w hgd s x t ho base e i z sz bytes ht hi hz hsize hby hzs hsz v n xs hs hown ad 0 c [] hx (by simp) (by simp) h1 h63 hbytes hbase fun v' w' h2 h3 _ => h v' w' h2 h3
 ·obtain ⟨b, off, rfl, hc⟩ := hsrc hp
  exact wpList_append_own w hgd s x t ho base e i z sz bytes ht hi hz hsize hby hzs hsz v n xs hs hown ⟨b, off, none⟩ m c news hx (by omega) (fun j u hj => by
   have := hc j u hj
   unfold Addr.add
   by_cases h0 : j = 0
   ·subst h0; simpa using this
   ·simpa [h0] using this) h1 h63 hbytes hbase fun v' w' h2 h3 _ => h v' w' h2 h3
theorem own_set {W : World} {M : Nat} {t : TypeId} {size : Nat} {v : Value} {k : Nat} {xs : List Value} (h : W.ownsRow M t size v k xs) (b i : Nat) (u : Value) (hb : b < M) : (W.setCell ⟨b, i, none⟩ u).ownsRow M t size v k xs := by
 refine ⟨h.1, ?_⟩
 rcases h.2 with q | ⟨g, cap, cur, q1, q2, q3, q4⟩
 ·exact .inl q
 ·refine .inr ⟨g, cap, cur, q1, q2, ?_, q4⟩
  exact (heap_setCell_other W ⟨b, i, none⟩ g u (fun (e : g = b) => by omega)).trans q3
theorem own_up {W W' : World} {M : Nat} {t : TypeId} {size : Nat} {v : Value} {k : Nat} {xs : List Value} (h : W.ownsRow M t size v k xs) (hb : Below W.heap.size W W') : W'.ownsRow M t size v k xs := by
 refine ⟨h.1, ?_⟩
 rcases h.2 with q | ⟨g, cap, cur, q1, q2, q3, q4⟩
 ·exact .inl q
 ·exact .inr ⟨g, cap, cur, q1, q2, (hb.block g (Array.getElem?_eq_some_iff.1 q3).1).trans q3, q4⟩
theorem own_lower {W : World} {M N : Nat} {t : TypeId} {size : Nat} {v : Value} {k : Nat} {xs : List Value} (h : W.ownsRow M t size v k xs) (hN : N ≤ M) : W.ownsRow N t size v k xs := by
 refine ⟨h.1, ?_⟩
 rcases h.2 with q | ⟨g, cap, cur, q1, q2, q3⟩
 ·exact .inl q
 ·exact .inr ⟨g, cap, cur, q1, by omega, q3⟩
end Go.Proofs.YthekkjfaaedamaaGreatDoor

namespace Go.Proofs.YthekkjfaaedamaaGreatDoor
open Go Go.RowKit

theorem run_copy_rowN {P : Program} (w : World) (dT sT ty elem : TypeId) (sz : Nat) (g o dLen dCap : Nat) (a : Addr) (sLen sCap : Nat) (cur : Array Value) (t : TypeId) (cs : List Value)
  (hu : P.underlying dT = some (.slice elem)) (hs : (P.info? elem).map (·.size) = some sz)
  (hg : w.heap[g]? = some (.cells cur t (0, 0))) (hn : cs.length = Nat.min sLen dLen * sz)
  (hsrc : ∀ j v, cs[j]? = some v → w.cell? (a.add j) = some v) (hfit : o + cs.length ≤ cur.size) (h1 : ∀ v ∈ cs, v.oneCell' = true) :
  (Builtin.copy_ #[dT, sT] ty #[.slice (some ⟨g, o, none⟩) dLen dCap, .slice (some a) sLen sCap]).run P w =
   .ok (goInt (Nat.min sLen dLen)) (w.setRow g (cur.toList.take o ++ cs ++ cur.toList.drop (o + cs.length)).toArray) := by
 have hl := run_loadCells_list (P := P) w a cs hsrc
 have hst := run_storeCells_at P g o t cs 0 cur w hg (by simpa using hfit) h1
 cases hq : P.info? elem with
 | none => simp [hq] at hs
 | some i =>
  have hi : i.size = sz := by simpa [hq] using hs
  rw [hn] at hl
  simp [Builtin.copy_, run_underlying hu, Builtin.lenOf, Builtin.firstCells, sizeOf, typeInfo, hq, hi, hl, hst]
end Go.Proofs.YthekkjfaaedamaaGreatDoor

namespace Go.Proofs.YthekkjfaaedamaaGreatDoor
open Go.RowKit

def arr16 (f : Nat → Int) : Array Value := ((List.range 16).map fun i => Value.int .i64 (f i)).toArray
theorem arr16_size (f : Nat → Int) : (arr16 f).size = 16 := by simp [arr16]
theorem arr16_at (f : Nat → Int) (i : Nat) (h : i < 16) : (arr16 f)[i]? = some (.int .i64 (f i)) := by simp [arr16, h]
theorem arr16_set (f : Nat → Int) (i : Nat) (x : Int) : (arr16 f).setIfInBounds i (.int .i64 x) = arr16 (fun j => if j = i then x else f j) := by
 apply Array.ext_getElem?
 intro j
 by_cases hj : j < 16
 ·rw [arr16_at _ j hj, Array.getElem?_setIfInBounds, arr16_size]
  by_cases e : i = j
  ·subst e; simp [hj]
  ·rw [if_neg e, arr16_at f j hj, if_neg (fun q => e q.symm)]
 ·rw [Array.getElem?_eq_none (by simp [arr16_size]; omega), Array.getElem?_eq_none (by simp [arr16_size]; omega)]
theorem infoI64 : (Tryz.prog.info? 3).map (fun i => (i.zero, i.size, i.bytes)) = some (some (.int .i64 0), 1, 8) := by kernel_rfl
def firstL (f : Nat → Int) (k : Nat) : List Int := (List.range k).map f
theorem firstL_next (f : Nat → Int) (k : Nat) : firstL f (k + 1) = firstL f k ++ [f k] := by simp [firstL, List.range_succ]
theorem firstL_length (f : Nat → Int) (k : Nat) : (firstL f k).length = k := by simp [firstL]
theorem own_first {W : World} {base : Nat} {v : Value} {f : Nat → Int} {k : Nat} (h : W.ownsRow base 3 1 v k ((firstL f k).map (Value.int .i64))) : Reads64 W v (firstL f k) := by
 refine Reads64.of_own (base := base) ?_
 rw [firstL_length]
 exact h
def MadePost (xs : List Int) (w : World) (e : Ending) (w' : World) : Prop := ∃ v, e = .returned v ∧ Reads64 w' v xs ∧ Below w.heap.size w w'
set_option maxRecDepth 100000 in
set_option maxHeartbeats 4000000 in
theorem rMade_any (f : Nat → Int) (w : World) :
  Calls Tryz.prog 50 #[.agg (arr16 f)] w (MadePost (vMade f) w) := by
 obtain ⟨i0, hi, hz0, hz1, hz2⟩ := info_parts infoI64
 have hcell : ∀ i, i < 16 → (w.alloc (.cells (arr16 f) 97)).cell? ⟨w.heap.size, i, none⟩ = some (.int .i64 (f i)) := fun i hi => by
  rw [World.cell?_alloc_at _ _ _ _ rfl, arr16_at f i hi]
 have hb0 := (Below.refl w.heap.size w).alloc (Nat.le_refl _) (.cells (arr16 f) 97)
 have hs0 : (w.alloc (.cells (arr16 f) 97)).heap.size = w.heap.size + 1 := by simp
 go_enter Tryz.func50, Tryz.ntmps50
 go_wp2_with fail
 generalize w.alloc (.cells (arr16 f) 97) = w1 at *
 have HC := Lib.hid hcell
 have HS0 := Lib.hid hs0
 clear hcell hs0
 go_loop [3] (fun i => ∃ k : Nat, i = .int .i64 k ∧ k ≤ 16 ∧ vLast f 16 = vLast f k) (fun i => (intOf i).toNat)
 case atStart => exact ⟨16, rfl, Nat.le_refl _, rfl⟩
 case round =>
  obtain ⟨k, rfl, hk, hl⟩ := hrel
  have Hl := Lib.hid hl
  clear hl
  by_cases hgo : 0 < k ∧ f (k - 1) = 0
  ·obtain ⟨m, rfl⟩ : ∃ m, k = m + 1 := ⟨k - 1, by omega⟩
   have hfm : f m = 0 := by simpa using hgo.2
   have hc := HC.out m (by omega)
   rw [hfm] at hc
   have HN := Lib.hid (show vLast f 16 = vLast f m by rw [Hl.out]; show (if f m = 0 then vLast f m else m + 1) = _; rw [if_pos hfm])
   clear hfm hgo
   go_wp2_with fail
   go_round
   case rel => exact ⟨m, by go_num, by omega, HN.out⟩
   case measure => simp [intOf]
  ·have hlast : vLast f 16 = k := by
    rw [Hl.out]
    cases k with
    | zero => rfl
    | succ m =>
     unfold vLast
     rw [if_neg (fun e => hgo ⟨Nat.succ_pos m, by simpa using e⟩)]
   have HLast := Lib.hid hlast
   have hst : k = 0 ∨ ∃ m x, k = m + 1 ∧ x ≠ 0 ∧ w1.cell? ⟨w.heap.size, m, none⟩ = some (.int .i64 x) := by
    cases k with
    | zero => exact .inl rfl
    | succ m => exact .inr ⟨m, f m, rfl, fun e => hgo ⟨Nat.succ_pos m, by simpa using e⟩, HC.out m (by omega)⟩
   clear hlast hgo Hl
   have Hst := Lib.hid hst
   clear hst
   rcases Hst.out with rfl | ⟨m, x, rfl, hx0, hcx⟩
   ·go_wp2_with fail
    have hv : Reads64 w1 (.slice none 0 0) (vMade f) := by
     have : vMade f = [] := by unfold vMade; rw [HLast.out]; rfl
     rw [this]
     exact Reads64.nil _
    have HV := Lib.hid hv
    clear hv Hst HLast
    go_loop [4, 5] (fun v i => v = .slice none 0 0 ∧ i = .int .i64 0) (fun _ i => (intOf i).toNat)
    case atStart => exact ⟨rfl, rfl⟩
    case round =>
     obtain ⟨rfl, rfl⟩ := hrel
     go_wp2
     go_ret
     exact ⟨_, rfl, HV.out, hb0⟩
   ·have hxb : (x == 0) = false := beq_eq_false_iff_ne.2 hx0
    go_wp2_with fail
    clear hxb hx0 hcx Hst
    have hm16 : m < 16 := by omega
    have hwb : w1.heap.size = w.heap.size + 1 := HS0.out
    have HWB := Lib.hid hwb
    clear hwb
    go_loopw [4, 5] (fun v i wr => ∃ k : Nat, i = .int .i64 k ∧ k ≤ m + 1 ∧ wr.ownsRow (w.heap.size + 1) 3 1 v k ((firstL f k).map (Value.int .i64)) ∧ Below w1.heap.size w1 wr) (fun _ i _ => m + 1 - (intOf i).toNat)
    case atStart => exact ⟨0, rfl, Nat.zero_le _, World.ownsRow_nil _ _ _ _, Below.refl _ _⟩
    case round =>
     rename_i wr
     obtain ⟨k, rfl, hk2, hown, hb⟩ := hrel
     have hwr : w.heap.size + 1 ≤ wr.heap.size := by have := hb.size; have := HWB.out; omega
     rcases Nat.lt_or_ge k (m + 1) with hlt | hge
     ·have hc := HC.out k (by omega)
      have hcw : wr.cell? ⟨w.heap.size, k, none⟩ = some (.int .i64 (f k)) := by
       rw [hb.cell (p := ⟨w.heap.size, k, none⟩) (by show w.heap.size < w1.heap.size; have := HWB.out; omega)]
       exact hc
      have HNX := Lib.hid (firstL_next f k)
      generalize f k = x at *
      have Hown := Lib.hid hown
      have Hb := Lib.hid hb
      clear hc hown hb
      go_wp2_with (at_builtin; refine wpList_append_own _ rfl _ _ 23 rfl (w.heap.size + 1) 3 i0 (.int .i64 0) 1 8 Tryz.underlying23 hi hz0 hz1 hz2 rfl (by decide) _ _ _ rfl (Hown.out.alloc _) ⟨wr.heap.size, 0, none⟩ 1 1 [.int .i64 x] rfl rfl ?c1 ?c2 ?c3 ?c4 ?c5 ?_)
      case c1 =>
       intro j u hj
       match j, hj with
       | 0, hj => simp at hj; subst hj; simp [Addr.add]
      case c2 => intro u hu; simp at hu; subst hu; rfl
      case c3 => unfold maxLen; omega
      case c4 => omega
      case c5 => simp; omega
      intro v' w2 hown' hgrow _
      go_wp2
      refine ⟨⟨k + 1, by congr 1, by omega, ?_, (Hb.out.alloc Hb.out.size _).grown hgrow (by have := Hb.out.size; simp; omega) (fun g hg => ?_)⟩, by simp [RowKit.intOf]; omega⟩
      ·rw [HNX.out, List.map_append]
       exact hown'
      ·rw [HWB.out]
       exact (Hown.out.lt g hg).1
     ·obtain rfl : k = m + 1 := by omega
      have hvm : vMade f = firstL f (m + 1) := by unfold vMade firstL; rw [HLast.out]
      have hown2 := own_first hown
      rw [← hvm] at hown2
      have HR := Lib.hid hown2
      have HZ := Lib.hid (hb0.trans (hb.mono hb0.size))
      clear hown hown2 hvm hb
      go_wp2
      go_ret
      exact ⟨_, rfl, HR.out, HZ.out⟩
end Go.Proofs.YthekkjfaaedamaaGreatDoor

namespace Go.Proofs.YthekkjfaaedamaaGreatDoor
open Go.RowKit

end Go.Proofs.YthekkjfaaedamaaGreatDoor

namespace Go.Proofs.YthekkjfaaedamaaGreatDoor
open Go.RowKit

theorem arr16_zero : arr16 (fun _ => 0) = Array.replicate 16 (.int .i64 0) := by
 apply Array.ext_getElem?
 intro i
 by_cases h : i < 16
 ·rw [arr16_at _ i h]; simp [h]
 ·rw [Array.getElem?_eq_none (by simp [arr16_size]; omega), Array.getElem?_eq_none (by simp; omega)]
theorem zero16 : (Tryz.prog.info? 97).map (fun i => (i.zero, i.size)) = some (some (.agg (Array.replicate 16 (.int .i64 0))), 16) := by kernel_rfl
def upTo (f : Nat → Int) (k : Nat) : Nat → Int := fun s => if s < k then f s else 0
theorem upTo_zero (f : Nat → Int) : upTo f 0 = fun _ => 0 := by funext s; simp [upTo]
theorem upTo_next (f : Nat → Int) (k : Nat) : (fun j => if j = k then f k else upTo f k j) = upTo f (k + 1) := by
 funext j
 unfold upTo
 by_cases e : j = k
 ·subst e; simp
 ·rw [if_neg e]
  by_cases h : j < k
  ·rw [if_pos h, if_pos (by omega)]
  ·rw [if_neg h, if_neg (by omega)]
def Box16 (N : Nat) (f : Nat → Int) (w W : World) : Prop := W.heap[N]? = some (.cells (arr16 f) 97 (0, 0)) ∧ Below N w W
theorem Box16.keep {N : Nat} {f : Nat → Int} {w W W' : World} (h : Box16 N f w W) (hb : Below W.heap.size W W') : Box16 N f w W' := by
 have hl : N < W.heap.size := (Array.getElem?_eq_some_iff.1 h.1).1
 exact ⟨(hb.block N hl).trans h.1, h.2.trans (hb.mono (Nat.le_of_lt hl))⟩
theorem Box16.draws {N : Nat} {f : Nat → Int} {w W : World} (h : Box16 N f w W) (n : Nat) : Box16 N f w (W.drewN n) := ⟨h.1, below_draws h.2 n⟩
theorem Box16.set {N : Nat} {f : Nat → Int} {w W : World} (h : Box16 N f w W) (k : Nat) (x : Int) : Box16 N (fun j => if j = k then x else f j) w (W.setCell ⟨N, k, none⟩ (.int .i64 x)) := by
 refine ⟨?_, h.2.setCell (Nat.le_refl _) _⟩
 have := heap_setCell_same W N k _ _ (Value.int .i64 x) h.1
 rw [arr16_set] at this
 exact this
theorem Box16.cell {N : Nat} {f : Nat → Int} {w W : World} (h : Box16 N f w W) (k : Nat) (hk : k < 16) : W.cell? ⟨N, k, none⟩ = some (.int .i64 (f k)) := (cell_of_row _ _ k _ _ _ h.1).trans (arr16_at f k hk)
theorem Box16.frozen {N : Nat} {f : Nat → Int} {w W : World} (h : Box16 N f w W) (k : Nat) : W.frozen? ⟨N, k, none⟩ = false := frozen_of_row _ _ k _ _ h.1
theorem Reads64.over {N : Nat} {u : Value} {xs : List Int} {w W : World} {f : Nat → Int} (h : Reads64 w u xs) (hN : N = w.heap.size) (hb : Box16 N f w W) : Reads64 W u xs := h.below (by rw [← hN]; exact hb.2)
end Go.Proofs.YthekkjfaaedamaaGreatDoor

namespace Go.Proofs.YthekkjfaaedamaaGreatDoor
open Go.RowKit

def RowsAt (W : World) (v : Value) (vs : Nat → Value) (xss : List (List Int)) : Prop :=
 ∃ ao cap, v = .slice ao xss.length cap ∧ (0 < xss.length → ∃ b off, ao = some ⟨b, off, none⟩ ∧ ∀ i, i < xss.length → W.cell? ⟨b, off + i, none⟩ = some (vs i)) ∧
  ∀ i, i < xss.length → Reads64 W (vs i) (xss.getD i []) ∧ (xss.getD i []).length ≤ 1000000000
theorem RowsAt.below {W W' : World} {v : Value} {vs : Nat → Value} {xss : List (List Int)} (h : RowsAt W v vs xss) (hb : Below W.heap.size W W') : RowsAt W' v vs xss := by
 obtain ⟨ao, cap, hv, h1, h2⟩ := h
 refine ⟨ao, cap, hv, fun h0 => ?_, fun i hi => ⟨(h2 i hi).1.below hb, (h2 i hi).2⟩⟩
 obtain ⟨b, off, ha, hc⟩ := h1 h0
 exact ⟨b, off, ha, fun i hi => cell_stays hb (hc i hi)⟩
theorem RowsAt.at {W : World} {v : Value} {vs : Nat → Value} {xss : List (List Int)} (h : RowsAt W v vs xss) {i : Nat} (hi : i < xss.length) : ∃ b off cap, v = .slice (some ⟨b, off, none⟩) xss.length cap ∧ W.cell? ⟨b, off + i, none⟩ = some (vs i) ∧ Reads64 W (vs i) (xss.getD i []) ∧ (xss.getD i []).length ≤ 1000000000 := by
 obtain ⟨ao, cap, hv, h1, h2⟩ := h
 obtain ⟨b, off, ha, hc⟩ := h1 (by omega)
 exact ⟨b, off, cap, by rw [hv, ha], hc i hi, (h2 i hi).1, (h2 i hi).2⟩
theorem RowsAt.cell {W : World} {b off n cap : Nat} {vs : Nat → Value} {xss : List (List Int)} (h : RowsAt W (.slice (some ⟨b, off, none⟩) n cap) vs xss) {i : Nat} (hi : i < xss.length) : W.cell? ⟨b, off + i, none⟩ = some (vs i) ∧ Reads64 W (vs i) (xss.getD i []) ∧ (xss.getD i []).length ≤ 1000000000 := by
 obtain ⟨b', off', cap', hv, h1, h2, h3⟩ := h.at hi
 cases hv
 exact ⟨h1, h2, h3⟩
end Go.Proofs.YthekkjfaaedamaaGreatDoor

namespace Go.Proofs.YthekkjfaaedamaaGreatDoor
open Go.RowKit

def raiseC (xs : List Int) (s q : Int) : Int := if (vMay xs && nMay s q) = false then 1 else if vCount xs s = 1099511627776 then 7 else if q ≠ vCount xs s + 1 then 17 else 0
def RaisePost (xs : List Int) (s q : Int) (w : World) (e : Ending) (w' : World) : Prop :=
 ∃ v, e = .returned (.tuple #[v, .int .i64 (raiseC xs s q)]) ∧ Reads64 w' v (if raiseC xs s q = 0 then vRaise xs s q else []) ∧ Below w.heap.size w w'
theorem RaisePost.no {xs : List Int} {s q c : Int} {w w' : World} (hc : raiseC xs s q = c) (h0 : c ≠ 0) (hb : Below w.heap.size w w') : RaisePost xs s q w (.returned (.tuple #[.slice none 0 0, .int .i64 c])) w' :=
 ⟨_, by rw [hc], by rw [hc, if_neg h0]; exact Reads64.nil _, hb⟩
theorem RaisePost.yes {xs : List Int} {s q : Int} {w w' : World} {v : Value} (hc : raiseC xs s q = 0) (hr : Reads64 w' v (vRaise xs s q)) (hb : Below w.heap.size w w') : RaisePost xs s q w (.returned (.tuple #[v, .int .i64 0])) w' :=
 ⟨v, by rw [hc], by rw [hc, if_pos rfl]; exact hr, hb⟩
theorem cell_keeps {W W' : World} {p : Addr} {v : Value} (hb : Below W.heap.size W W') (h : W.cell? p = some v) : W'.cell? p = some v := by
 rcases Nat.lt_or_ge p.block W.heap.size with g | g
 ·rw [hb.cell g]
  exact h
 ·simp [World.cell?, Array.getElem?_eq_none g] at h
def NBox (N : Nat) (s q : Int) (w W : World) : Prop := W.cell? ⟨N, 0, none⟩ = some (.int .i64 s) ∧ W.cell? ⟨N, 1, none⟩ = some (.int .i64 q) ∧ Below N w W
theorem NBox.keep {N : Nat} {s q : Int} {w W W' : World} (h : NBox N s q w W) (hb : Below W.heap.size W W') : NBox N s q w W' := by
 have hl : N < W.heap.size := World.block_lt_of_cell? W _ h.1
 exact ⟨cell_keeps hb h.1, cell_keeps hb h.2.1, h.2.2.trans (hb.mono (Nat.le_of_lt hl))⟩
theorem NBox.new (s q : Int) (w : World) (t : TypeId) : NBox w.heap.size s q w (w.alloc (.cells #[.int .i64 s, .int .i64 q] t)) := by
 have h := heap_alloc_new w (.cells #[.int .i64 s, .int .i64 q] t)
 exact ⟨cell_of_row _ _ 0 _ _ _ h, cell_of_row _ _ 1 _ _ _ h, (Below.refl _ w).alloc (Nat.le_refl _) _⟩
theorem NBox.draws {N : Nat} {s q : Int} {w W : World} (h : NBox N s q w W) (n : Nat) : NBox N s q w (W.drewN n) := ⟨h.1, h.2.1, below_draws h.2.2 n⟩
theorem NBox.set {N : Nat} {s q : Int} {w W : World} (h : NBox N s q w W) {p : Addr} (hp : N < p.block) (x : Value) : NBox N s q w (W.setCell p x) := by
 refine ⟨?_, ?_, h.2.2.setCell (Nat.le_of_lt hp) _⟩
 ·rw [World.cell?_setCell_other _ _ _ _ (by intro e; rw [e] at hp; exact absurd hp (Nat.lt_irrefl _))]; exact h.1
 ·rw [World.cell?_setCell_other _ _ _ _ (by intro e; rw [e] at hp; exact absurd hp (Nat.lt_irrefl _))]; exact h.2.1
set_option maxRecDepth 100000 in
set_option maxHeartbeats 4000000 in
theorem rRaise_any (v : Value) (xs : List Int) (s q : Int) (w : World) (h : Reads64 w v xs) (hx : xs.length ≤ 1000000000) (hq0 : -9223372036854775808 ≤ q) (hq1 : q ≤ 9223372036854775807) :
  Calls Tryz.prog 24 #[v, nmV s q] w (RaisePost xs s q w) := by
 have hN := NBox.new s q w 42
 have hV := fun W hW => rMayV_any v xs W hW hx
 have hM := fun W => rMayName_any s q W
 unfold nmV at hM ⊢
 have h0 := h.below hN.2.2
 by_cases hv : vMay xs = true
 ·rw [hv] at hV
  by_cases hn : nMay s q = true
  ·rw [hn] at hM
   have hs := of_decide_eq_true hn
   have hC := fun W hW => rCount_any v xs s W hW (by omega) hx
   have hcb := vCount_bounds (vMay_parts hv).2.1 s
   have HR := Lib.hid (show raiseC xs s q = if vCount xs s = 1099511627776 then 7 else if q ≠ vCount xs s + 1 then 17 else 0 by unfold raiseC; rw [hv, hn]; rfl)
   by_cases h7 : vCount xs s = 1099511627776
   ·have HP := Lib.hid (show raiseC xs s q = 7 by rw [HR.out, if_pos h7])
    rw [h7] at hC
    clear h7 hcb HR hv hn hs
    go_enter Tryz.func24, Tryz.ntmps24
    go_wp2_with fail
    refine (hV _ h0).mono ?_
    rintro e _ ⟨rfl, rfl⟩
    obtain ⟨c0, c1, _⟩ := id hN
    go_wp2_with fail
    refine (hM _).mono ?_
    rintro e w2 ⟨rfl, hb2⟩
    have hN2 := hN.keep hb2
    have h2 := h0.below hb2
    clear c0 c1 hN
    obtain ⟨c0, c1, _⟩ := id hN2
    go_wp2_with fail
    refine (hC _ h2).mono ?_
    rintro e _ ⟨rfl, rfl⟩
    go_wp2
    go_ret2
    exact RaisePost.no HP.out (by decide) hN2.2.2
   ·by_cases h17 : q = vCount xs s + 1
    ·have HP := Lib.hid (show raiseC xs s q = 0 by rw [HR.out, if_neg h7, if_neg (fun g => g h17)])
     obtain ⟨m, rfl⟩ : ∃ m : Nat, s = (m : Int) + 1 := ⟨(s - 1).toNat, by omega⟩
     have hm16 : m < 16 := by omega
     have HMD := Lib.hid (show vMade (fun j => if j = m then q else upTo (fun i => xs.getD i 0) 16 j) = vRaise xs ((m : Int) + 1) q from vMade_congr fun j hj => by
      unfold upTo
      rw [if_pos hj]
      by_cases e : j = m
      ·rw [if_pos e, if_pos (by omega)]
      ·rw [if_neg e, if_neg (by omega)])
     obtain ⟨hz, hi⟩ := zero_of_info zero16
     have hu := Tryz.underlying97
     rw [← arr16_zero] at hz
     have hK := fun (k : Nat) W hW => rCount_any v xs ((k : Int) + 1) W hW (by omega) hx
     generalize vCount xs ((m : Int) + 1) = c at *
     have h17b : (q != c + 1) = false := by simpa using h17
     have h7b : (c == 1099511627776) = false := beq_eq_false_iff_ne.2 h7
     have hwc : IntKind.i64.wrap (c + 1) = c + 1 := by simp only [IntKind.wrap_i64]; omega
     have hq2 : q ≤ 1099511627776 := hs.2.2.2
     clear h7 HR hv hn hs h17
     go_enter Tryz.func24, Tryz.ntmps24
     go_wp2_with fail
     refine (hV _ h0).mono ?_
     rintro e _ ⟨rfl, rfl⟩
     obtain ⟨c0, c1, _⟩ := id hN
     go_wp2_with fail
     refine (hM _).mono ?_
     rintro e w2 ⟨rfl, hb2⟩
     have hN2 := hN.keep hb2
     have h2 := h0.below hb2
     clear c0 c1 hN
     obtain ⟨c0, c1, _⟩ := id hN2
     go_wp2_with fail
     refine (hC _ h2).mono ?_
     rintro e _ ⟨rfl, rfl⟩
     go_wp2_with fail
     have hC2 := hC _ (h2.drew 1)
     go_region_held (fun W => W.cell? ⟨w.heap.size, 0, none⟩ = some (.int .i64 ((m : Int) + 1)) ∧ W.cell? ⟨w.heap.size, 1, none⟩ = some (.int .i64 q))
      (first | exact ⟨c0, c1⟩ | assumption)
      (first | (go_at_call 22; refine hC2.mono ?_; rintro e _ ⟨rfl, rfl⟩))
     all_goals
      rename_i hHeld
      clear hHeld hC2 hC hM hV c0 c1 h17b h7b hwc
      have hN3 := hN2.draws 1
      have h3 := h2.drew 1
      change NBox _ _ _ _ w2.drew at hN3
      change Reads64 w2.drew _ _ at h3
      have hlt2 : w.heap.size < w2.drew.heap.size := World.block_lt_of_cell? w2.drew _ hN3.1
      have hB0 : Box16 w2.drew.heap.size (upTo (fun i => xs.getD i 0) 0) w2.drew (w2.drew.alloc (.cells (arr16 fun _ => 0) 97)) := ⟨by rw [upTo_zero]; exact heap_alloc_new w2.drew _, (Below.refl _ w2.drew).alloc (Nat.le_refl _) _⟩
      have hN4 := hN3.keep ((Below.refl _ w2.drew).alloc (Nat.le_refl _) (.cells (arr16 fun _ => 0) 97))
      have HB0 := Lib.hid hB0
      have HN4 := Lib.hid hN4
      have H3 := Lib.hid h3
      clear hN2 hN3 h2 h3 hB0 hN4 h0 hb2
      go_wp2_with fail
      clear hz
      go_loopw [7] (fun i wr => ∃ k : Nat, i = .int .i64 ((k : Int) + 1) ∧ k ≤ 16 ∧ Box16 w2.drew.heap.size (upTo (fun i => xs.getD i 0) k) w2.drew wr ∧ NBox w.heap.size ((m : Int) + 1) q w wr) (fun i _ => 17 - (intOf i).toNat)
      case atStart => exact ⟨0, rfl, Nat.zero_le _, HB0.out, HN4.out⟩
      case round =>
       rename_i wr
       obtain ⟨k, rfl, hk, hbx, hnb⟩ := hrel
       rcases Nat.lt_or_ge k 16 with hlt | hge
       ·have a1 := hK k wr (H3.out.over rfl hbx)
        rw [vCount_nat] at a1
        have hb1 := hbx.set k (xs.getD k 0)
        have hNX : (fun j => if j = k then xs.getD k 0 else upTo (fun i => xs.getD i 0) k j) = upTo (fun i => xs.getD i 0) (k + 1) := upTo_next (fun i => xs.getD i 0) k
        rw [hNX] at hb1
        have hn1 := hnb.set (p := ⟨w2.drew.heap.size, k, none⟩) hlt2 (.int .i64 (xs.getD k 0))
        have hcell : wr.cell? ⟨w2.heap.size, k, none⟩ = _ := hbx.cell k hlt
        have hfro : wr.frozen? ⟨w2.heap.size, k, none⟩ = false := hbx.frozen k
        have HB1 := Lib.hid hb1
        have HN1 := Lib.hid hn1
        clear hNX hb1 hn1 hbx hnb hK HMD
        generalize xs.getD k 0 = x at *
        have hidx : (0 : Int) ≤ (k : Int) ∧ (k : Int) < 16 := ⟨by omega, by omega⟩
        go_wp2_with fail
        refine a1.mono ?_
        clear a1
        rintro e _ ⟨rfl, rfl⟩
        go_wp2_with fail
        exact ⟨⟨k + 1, by go_num, by omega, HB1.out, HN1.out⟩, by simp [intOf]; omega⟩
       ·obtain rfl : k = 16 := by omega
        have hb1 := hbx.set m q
        have hM := rMade_any (fun j => if j = m then q else upTo (fun i => xs.getD i 0) 16 j) (wr.setCell ⟨w2.heap.size, m, none⟩ (.int .i64 q))
        rw [HMD.out] at hM
        have hh : (wr.setCell ⟨w2.heap.size, m, none⟩ (.int .i64 q)).heap[w2.heap.size]? = _ := hb1.1
        have hzw : Below w.heap.size w (wr.setCell ⟨w2.heap.size, m, none⟩ (.int .i64 q)) := (hnb.set (p := ⟨w2.drew.heap.size, m, none⟩) hlt2 (.int .i64 q)).2.2
        have hcell : wr.cell? ⟨w2.heap.size, m, none⟩ = _ := hbx.cell m hm16
        have hfro : wr.frozen? ⟨w2.heap.size, m, none⟩ = false := hbx.frozen m
        obtain ⟨c0, c1, _⟩ := id hnb
        clear hbx hb1 hnb hK HMD HB0 HN4
        generalize (fun j => if j = m then q else upTo (fun i => xs.getD i 0) 16 j) = g at *
        generalize upTo (fun i => xs.getD i 0) 16 m = y at *
        have hi' : (Tryz.prog.info? 97).map (·.size) = some (arr16 g).size := by rw [arr16_size]; exact hi
        have hidx : (0 : Int) ≤ (m : Int) ∧ (m : Int) < 16 := ⟨by omega, by omega⟩
        go_wp2_with (refine wpList_load_row rfl 97 _ rfl w2.heap.size rfl 97 _ (0, 0) _ hh hu rfl hi' ?_)
        refine hM.mono ?_
        rintro e w5 ⟨v5, rfl, hr5, hb5⟩
        have hzz := hzw.trans (hb5.mono hzw.size)
        go_wp2
        go_ret2
        exact RaisePost.yes HP.out hr5 hzz
    ·have HP := Lib.hid (show raiseC xs s q = 17 by rw [HR.out, if_neg h7, if_pos h17])
     generalize vCount xs s = c at *
     have h17b : (q != c + 1) = true := by simpa using h17
     have h7b : (c == 1099511627776) = false := beq_eq_false_iff_ne.2 h7
     have hwc : IntKind.i64.wrap (c + 1) = c + 1 := by simp only [IntKind.wrap_i64]; omega
     clear h7 HR hv hn hs h17
     go_enter Tryz.func24, Tryz.ntmps24
     go_wp2_with fail
     refine (hV _ h0).mono ?_
     rintro e _ ⟨rfl, rfl⟩
     obtain ⟨c0, c1, _⟩ := id hN
     go_wp2_with fail
     refine (hM _).mono ?_
     rintro e w2 ⟨rfl, hb2⟩
     have hN2 := hN.keep hb2
     have h2 := h0.below hb2
     clear c0 c1 hN
     obtain ⟨c0, c1, _⟩ := id hN2
     go_wp2_with fail
     refine (hC _ h2).mono ?_
     rintro e _ ⟨rfl, rfl⟩
     go_wp2_with fail
     have hC2 := hC _ (h2.drew 1)
     go_region_held (fun W => W.cell? ⟨w.heap.size, 0, none⟩ = some (.int .i64 s) ∧ W.cell? ⟨w.heap.size, 1, none⟩ = some (.int .i64 q))
      (first | exact ⟨c0, c1⟩ | assumption)
      (first | (go_at_call 22; refine hC2.mono ?_; rintro e _ ⟨rfl, rfl⟩))
     all_goals
      rename_i hHeld
      clear hHeld
      go_wp2
      go_ret2
      exact RaisePost.no HP.out (by decide) (below_draws hN2.2.2 1)
  ·have HP := Lib.hid (show raiseC xs s q = 1 by unfold raiseC; rw [show nMay s q = false by simpa using hn, Bool.and_false]; rfl)
   rw [show nMay s q = false by simpa using hn] at hM
   clear hv hn
   go_enter Tryz.func24, Tryz.ntmps24
   go_wp2_with fail
   refine (hV _ h0).mono ?_
   rintro e _ ⟨rfl, rfl⟩
   obtain ⟨c0, c1, _⟩ := id hN
   go_wp2_with fail
   refine (hM _).mono ?_
   rintro e w2 ⟨rfl, hb2⟩
   have hz := (hN.keep hb2).2.2
   go_wp2
   go_ret2
   exact RaisePost.no HP.out (by decide) hz
 ·have HP := Lib.hid (show raiseC xs s q = 1 by unfold raiseC; rw [show vMay xs = false by simpa using hv, Bool.false_and]; rfl)
  rw [show vMay xs = false by simpa using hv] at hV
  clear hv
  go_enter Tryz.func24, Tryz.ntmps24
  go_wp2_with fail
  refine (hV _ h0).mono ?_
  rintro e _ ⟨rfl, rfl⟩
  go_wp2
  go_ret2
  exact RaisePost.no HP.out (by decide) hN.2.2
end Go.Proofs.YthekkjfaaedamaaGreatDoor

namespace Go.Proofs.YthekkjfaaedamaaGreatDoor
open Go.RowKit

theorem vLast_far (f : Nat → Int) (m : Nat) (h : ∀ s, m ≤ s → f s = 0) : ∀ n, m ≤ n → vLast f n = vLast f m
 | 0, hn => by rw [Nat.le_zero.1 hn]
 | n + 1, hn => by
  rcases Nat.lt_or_ge n m with g | g
  ·obtain rfl : m = n + 1 := by omega
   rfl
  ·show (if f n = 0 then vLast f n else n + 1) = _
   rw [if_pos (h n g)]
   exact vLast_far f m h n g
theorem firstL_at (f : Nat → Int) (k i : Nat) (h : i < k) : (firstL f k).getD i 0 = f i := by simp [firstL, List.getD, h]
theorem firstL_len (f : Nat → Int) (k : Nat) : (firstL f k).length = k := by simp [firstL]
theorem Reads64.cells {W : World} {g k cap : Nat} {f : Nat → Int} (h : ∀ i, i < k → W.cell? ⟨g, 0 + i, none⟩ = some (.int .i64 (f i))) : Reads64 W (.slice (some ⟨g, 0, none⟩) k cap) (firstL f k) :=
 ⟨_, cap, by rw [firstL_len], fun _ => ⟨g, 0, rfl, fun i hi => by rw [firstL_len] at hi; rw [firstL_at _ _ _ hi]; exact h i hi⟩⟩
end Go.Proofs.YthekkjfaaedamaaGreatDoor

namespace Go.Proofs.YthekkjfaaedamaaGreatDoor

theorem raise_facts {xs : List Int} {s q : Int} (h : raiseC xs s q = 0) : vMay xs = true ∧ nMay s q = true ∧ vCount xs s ≠ 1099511627776 ∧ q = vCount xs s + 1 := by
 unfold raiseC at h
 cases hm : (vMay xs && nMay s q) with
 | false => rw [hm, if_pos rfl] at h; exact absurd h (by decide)
 | true =>
  obtain ⟨h1, h2⟩ := Bool.and_eq_true_iff.1 hm
  rw [hm, if_neg (by decide)] at h
  refine ⟨h1, h2, fun e => ?_, ?_⟩
  ·rw [if_pos e] at h; exact absurd h (by decide)
  ·by_cases g : vCount xs s = 1099511627776
   ·rw [if_pos g] at h; exact absurd h (by decide)
   ·rw [if_neg g] at h
    by_cases k : q = vCount xs s + 1
    ·exact k
    ·rw [if_pos k] at h; exact absurd h (by decide)
theorem vRaise_at (xs : List Int) (s q : Int) (k : Nat) (hk : k < 16) : (vRaise xs s q).getD k 0 = if (k : Int) + 1 = s then q else xs.getD k 0 := vMade_at _ k hk
theorem vRaise_count (xs : List Int) (s q : Int) (k : Nat) (hk : k < 16) : vCount (vRaise xs s q) ((k : Int) + 1) = if (k : Int) + 1 = s then q else vCount xs ((k : Int) + 1) := by
 rw [vCount_nat, vCount_nat, vRaise_at xs s q k hk]
end Go.Proofs.YthekkjfaaedamaaGreatDoor

namespace Go.Proofs.YthekkjfaaedamaaGreatDoor
open Go.RowKit

set_option maxRecDepth 100000 in
set_option maxHeartbeats 2000000 in
theorem pCount_any (v : Value) (xs : List Int) (s : Int) (w : World) (h : Reads64 w v xs) (hx : xs.length ≤ 1000000000) (hs : s ≤ 9223372036854775807) :
  Calls Tryz.prog 79 #[v, .int .i64 s] w fun e w' => e = .returned (.int .i64 (if vMay xs then vCount xs s else 0)) ∧ w = w' := by
 have hV := pMay_any v xs w h hx
 cases hm : vMay xs with
 | false =>
  rw [hm] at hV
  go_enter Tryz.func79, Tryz.ntmps79
  go_wp2_with fail
  refine hV.mono ?_
  rintro e _ ⟨rfl, rfl⟩
  go_wp2
  go_ret
  exact ⟨rfl, rfl⟩
 | true =>
  rw [hm] at hV
  by_cases h1 : s < 1
  ·have hE := Lib.hid (vCount_none xs s (by omega))
   go_enter Tryz.func79, Tryz.ntmps79
   go_wp2_with fail
   refine hV.mono ?_
   rintro e _ ⟨rfl, rfl⟩
   go_wp2
   go_ret
   exact ⟨ret_i64 hE.out.symm, rfl⟩
  ·obtain ⟨k, rfl⟩ : ∃ k : Nat, s = (k : Int) + 1 := ⟨(s - 1).toNat, by omega⟩
   have hE := Lib.hid (vCount_nat xs k)
   have hA := pAt_any v xs k w h
   rw [if_pos rfl, hE.out]
   generalize xs.getD k 0 = x at *
   have hw : IntKind.i64.wrap (k : Int) = k := by simp only [IntKind.wrap_i64]; omega
   have hk : ((k : Int) + 1 < 1) = False := by simp; omega
   clear hE hx hs h1
   go_enter Tryz.func79, Tryz.ntmps79
   go_wp2_with fail
   refine hV.mono ?_
   rintro e _ ⟨rfl, rfl⟩
   go_wp2_with fail
   refine hA.mono ?_
   rintro e _ ⟨rfl, rfl⟩
   go_wp2
   go_ret
   exact ⟨rfl, rfl⟩
theorem heldReads {N : Nat} {s q : Int} {v : Value} {xs : List Int} {w W : World} (h : W.cell? ⟨N, 0, none⟩ = some (.int .i64 s) ∧ W.cell? ⟨N, 1, none⟩ = some (.int .i64 q) ∧ Below N w W ∧ Reads64 W v xs) : Reads64 W v xs := h.2.2.2
theorem keepHas {N : Nat} {s q : Int} {v : Value} {xs : List Int} {w W W' : World} (h : W.cell? ⟨N, 0, none⟩ = some (.int .i64 s) ∧ W.cell? ⟨N, 1, none⟩ = some (.int .i64 q) ∧ Below N w W ∧ Reads64 W v xs) (hb : Below W.heap.size W W') :
  W'.cell? ⟨N, 0, none⟩ = some (.int .i64 s) ∧ W'.cell? ⟨N, 1, none⟩ = some (.int .i64 q) ∧ Below N w W' ∧ Reads64 W' v xs := by
 have hn : NBox N s q w W := ⟨h.1, h.2.1, h.2.2.1⟩
 have h2 := hn.keep hb
 exact ⟨h2.1, h2.2.1, h2.2.2, h.2.2.2.below hb⟩
set_option maxRecDepth 100000 in
set_option maxHeartbeats 4000000 in
theorem pHas_any (v : Value) (xs : List Int) (s q : Int) (w : World) (h : Reads64 w v xs) (hx : xs.length ≤ 1000000000) :
  Calls Tryz.prog 60 #[v, nmV s q] w fun e w' => e = .returned (.bool (vMay xs && nMay s q && decide (q ≤ vCount xs s))) ∧ Below w.heap.size w w' := by
 have hM := fun W => pMayName_any s q W
 have hN := NBox.new s q w 42
 have h0 := h.below hN.2.2
 obtain ⟨c0, c1, hb0⟩ := id hN
 unfold nmV at hM ⊢
 cases hm : nMay s q with
 | false =>
  have hE := Lib.hid (show (vMay xs && false && decide (q ≤ vCount xs s)) = false by simp)
  rw [hm] at hM
  clear hm
  go_enter Tryz.func60, Tryz.ntmps60
  go_wp2_with fail
  refine wp_region_held_drew (S := fun W => W.cell? ⟨w.heap.size, 0, none⟩ = some (.int .i64 s) ∧ W.cell? ⟨w.heap.size, 1, none⟩ = some (.int .i64 q) ∧ Below w.heap.size w W ∧ Reads64 W v xs) (by kernel_rfl) ⟨c0, c1, hb0.drew, h0.drew 1⟩ (fun hHeld => ?_)
  refine tk (i := 0) (v := .agg #[.int .i64 s, .int .i64 q]) rfl (Or.inl ⟨rfl, fun W hS => ?_⟩) ?_
  ·obtain ⟨d0, d1, -, -⟩ := hS
   go_simp
  refine wpAnyH_ready (rs := [1]) (by kernel_rfl) (by simp) (AllReadyH.cons rfl (fun K hK => ?_) AllReadyH.nil)
  go_simp
  go_wp2_with (go_at_call 78; refine (hM _).mono ?_; rintro e w2 ⟨rfl, hb⟩)
  refine hK.out _ _ (keepHas hHeld hb) (fun hHeld => ?_)
  refine tk (i := 2) (v := .bool false) rfl (Or.inl ⟨rfl, fun W hS => by go_simp⟩) ?_
  refine tk (i := 3) (v := undef) rfl (Or.inr ⟨rfl, rfl⟩) ?_
  refine tk (i := 4) (v := undef) rfl (Or.inr ⟨rfl, rfl⟩) ?_
  refine tk (i := 5) (v := undef) rfl (Or.inr ⟨rfl, rfl⟩) ?_
  refine tk (i := 6) (v := undef) rfl (Or.inr ⟨rfl, rfl⟩) ?_
  refine tk (i := 7) (v := undef) rfl (Or.inr ⟨rfl, rfl⟩) ?_
  refine tk (i := 8) (v := undef) rfl (Or.inr ⟨rfl, rfl⟩) ?_
  refine tk (i := 9) (v := undef) rfl (Or.inr ⟨rfl, rfl⟩) ?_
  refine tk (i := 10) (v := .bool false) rfl (Or.inl ⟨rfl, fun W hS => by go_simp⟩) ?_
  refine tk (i := 11) (v := .bool false) rfl (Or.inl ⟨rfl, fun W hS => by go_simp⟩) ?_
  refine wpAnyH_done (by kernel_rfl) ?_ _
  simp only [Act.put, List.getElem_toArray, List.getElem_cons_succ, List.getElem_cons_zero, List.setIfInBounds_toArray, List.set_cons_zero, List.set_cons_succ]
  have hz := hHeld.2.2.1
  clear hM c0 c1
  go_wp2
  go_ret
  exact ⟨ret_bool hE.out.symm, hz⟩
 | true =>
  have hs := of_decide_eq_true hm
  have hC := fun W hW => pCount_any v xs s W hW hx (by omega)
  have hE := Lib.hid (show (vMay xs && true && decide (q ≤ vCount xs s)) = decide (q ≤ if vMay xs then vCount xs s else 0) by
   cases vMay xs with
   | true => simp
   | false => simp; omega)
  rw [hm] at hM
  generalize (if vMay xs = true then vCount xs s else 0) = c at *
  clear hm hs
  go_enter Tryz.func60, Tryz.ntmps60
  go_wp2_with fail
  go_region_held (fun W => W.cell? ⟨w.heap.size, 0, none⟩ = some (.int .i64 s) ∧ W.cell? ⟨w.heap.size, 1, none⟩ = some (.int .i64 q) ∧ Below w.heap.size w W ∧ Reads64 W v xs)
   (first | exact ⟨c0, c1, hb0.drew, h0.drew 1⟩ | assumption | exact keepHas (by assumption) hb)
   (first | (go_at_call 78; refine (hM _).mono ?_; rintro e w2 ⟨rfl, hb⟩) | (go_at_call 79; refine (hC _ (by first | assumption | exact heldReads (N := w.heap.size) (s := s) (q := q) (w := w) (by assumption))).mono ?_; rintro e _ ⟨rfl, rfl⟩))
  all_goals
   rename_i hHeld
   obtain ⟨-, -, hz, -⟩ := hHeld
   clear hM hC c0 c1
   go_wp2
   go_ret
   exact ⟨ret_bool hE.out.symm, hz⟩
end Go.Proofs.YthekkjfaaedamaaGreatDoor
