/- The document's Insert and Delete: fresh lists. -/
import Derived.Test.YtpldalmodcmfaaaDoorAppend
namespace Go.Proofs.YtpldalmodcmfaaaDoor
open Go.RowKit

theorem infoI32'' : (Tryd.prog.info? 21).map (fun i => (i.zero, i.size, i.bytes)) = some (some (.int .i32 0), 1, 4) := by kernel_rfl
/-- What an edit of a list leaves: the list, fresh or as it was. -/
def EditPost (v : Value) (x : List Int × Int) (w : World) (e : Ending) (w' : World) : Prop :=
  Below w.heap.size w w' ∧ ∃ v', e = .returned (.tuple #[v', .int .i64 x.2]) ∧ List32 w' v' x.1 ∧ (v' = v ∨ ∀ g, v'.ownBlock = some g → w.heap.size ≤ g ∧ g < w'.heap.size)

theorem own_shape {W : World} {base : Nat} {e : TypeId} {v : Value} {rs : List Int} {l : List Value} (h : W.ownsRow base e 1 v rs.length l) : ∃ ao cap, v = .slice ao rs.length cap ∧ rs.length ≤ cap ∧ cap ≤ maxLen := by
  rcases h.2 with ⟨hv, h0⟩ | ⟨g, cap, cur, hv, _, _, h1, h2, _⟩
  · exact ⟨none, 0, by rw [hv, h0], by omega, by unfold maxLen; omega⟩
  · exact ⟨_, _, hv, h1, h2⟩
/-- The cells of a part of a list. -/
theorem List32.src {w : World} {ao : Option Addr} {cap : Nat} {xs : List Int} (h : List32 w (.slice ao xs.length cap) xs) (a n : Nat) (hn : a + n ≤ xs.length) :
    0 < n → ∃ ad, Option.map (fun x : Addr => x.add a) ao = some ad ∧ ∀ j u, (((xs.drop a).take n).map (Value.int .i32))[j]? = some u → w.cell? (ad.add j) = some u := by
  intro hp
  obtain ⟨ao', cap', he, hl, _, hno, hs⟩ := h
  cases he
  cases ao with
  | none => have := hno rfl; omega
  | some ad =>
    obtain ⟨b, off, rfl, _, hc⟩ := hs ad rfl
    have e : ∀ i, (⟨b, off, none⟩ : Addr).add i = ⟨b, off + i, none⟩ := fun i => by simp [Addr.add]
    have e' : ∀ i, (⟨b, off + a, none⟩ : Addr).add i = ⟨b, off + a + i, none⟩ := fun i => by simp [Addr.add]
    refine ⟨⟨b, off + a, none⟩, by rw [Option.map_some, e], fun j u hj => ?_⟩
    rw [e']
    simp only [List.getElem?_map, Option.map_eq_some_iff] at hj
    obtain ⟨x, hx, rfl⟩ := hj
    rw [List.getElem?_take] at hx
    split at hx
    · rename_i hjn
      rw [List.getElem?_drop] at hx
      have := hc (a + j) (by omega)
      rw [Nat.add_assoc, this]
      simp [List.getD, hx]
    · cases hx
theorem List32.src0 {w : World} {ao : Option Addr} {cap : Nat} {xs : List Int} (h : List32 w (.slice ao xs.length cap) xs) (n : Nat) (hn : n ≤ xs.length) :
    0 < n → ∃ ad, ao = some ad ∧ ∀ j u, ((xs.take n).map (Value.int .i32))[j]? = some u → w.cell? (ad.add j) = some u := by
  intro hp
  obtain ⟨ad, ha, hc⟩ := h.src 0 n (by omega) hp
  rw [List.drop_zero] at hc
  refine ⟨ad, ?_, hc⟩
  cases ao with
  | none => cases ha
  | some x => simpa [Addr.add] using ha
theorem List32.srcIf {w : World} {ao : Option Addr} {cap : Nat} {xs : List Int} (h : List32 w (.slice ao xs.length cap) xs) (a n : Nat) (hn : a + n ≤ xs.length) :
    0 < n → ∃ ad, (if cap = a then ao else Option.map (fun x : Addr => x.add a) ao) = some ad ∧ ∀ j u, (((xs.drop a).take n).map (Value.int .i32))[j]? = some u → w.cell? (ad.add j) = some u := by
  intro hp
  have hc : cap ≠ a := by
    obtain ⟨ao', cap', he, hl, _⟩ := h
    cases he
    omega
  rw [if_neg hc]
  exact h.src a n hn hp
theorem ints_one (l : List Int) : ∀ u ∈ l.map (Value.int .i32), u.oneCell' = true := by
  intro u hu
  obtain ⟨x, _, rfl⟩ := List.mem_map.1 hu
  rfl
/-- A row of the call's own behind a world that has grown elsewhere. -/
theorem fresh_below {w w1 w2 : World} {v : Value} {n : Nat} {xs : List Value} (h : Below w.heap.size w w1) (ho : w1.ownsRow w.heap.size 21 1 v n xs) (hg : w1.grownBy w2 v.ownBlock) : Below w.heap.size w w2 :=
  h.grown hg h.size (fun k hk => (ho.lt k hk).1)

set_option maxRecDepth 100000 in
set_option maxHeartbeats 2000000 in
theorem rdelete_any (v : Value) (xs : List Int) (hx : xs.length ≤ 1000000) (w : World) (h1 : List32 w v xs) (a n : Int) :
    Calls Tryd.prog 12 #[v, .int .i64 a, .int .i64 n] w (EditPost v (delX xs a n) w) := by
  have hR := rrun_any v xs hx w h1.reads a n
  obtain ⟨i0, hi, hz0, hz1, hz2⟩ := info_parts infoI32''
  unfold delX
  cases hb : hasB xs.length a n with
  | false =>
    rw [hb] at hR
    have H1 := Lib.hid h1
    obtain ⟨ao, cap, rfl, _⟩ := h1
    generalize xs.length = L at hR H1
    clear hb
    go_enter Tryd.func12, Tryd.ntmps12
    go_wp2_with (go_at_call 30; refine hR.mono ?_; clear hR; rintro e _ ⟨rfl, rfl⟩)
    go_ret2
    exact ⟨Below.refl _ _, _, rfl, H1.out, .inl rfl⟩
  | true =>
    rw [hb] at hR
    have hq := of_decide_eq_true hb
    obtain ⟨k, rfl⟩ : ∃ k : Nat, a = k := ⟨a.toNat, by omega⟩
    obtain ⟨m, rfl⟩ : ∃ m : Nat, n = m := ⟨n.toNat, by omega⟩
    have hkm : k + m ≤ xs.length := by omega
    have H1 := Lib.hid h1
    obtain ⟨ao, cap, rfl, hlc, hcm, _⟩ := h1
    rw [if_pos rfl, Int.toNat_natCast, Int.toNat_natCast]
    obtain ⟨L, hL⟩ : ∃ L, xs.length = L := ⟨_, rfl⟩
    have HL := Lib.hid hL
    rw [hL] at hR hx hkm hlc ⊢
    have i1 : (k : Int) ≤ (cap : Int) := by omega
    have i2 : (k : Int) + (m : Int) ≤ (L : Int) := by omega
    have e1 : IntKind.i64.wrap ((k : Int) + m) = (k : Int) + m := IntWalk.i64_in _ (by omega)
    clear hb hq
    go_enter Tryd.func12, Tryd.ntmps12
    have hb0 : Below w.heap.size w (w.alloc (.cells #[] 21)) := (Below.refl _ w).alloc (Nat.le_refl _) _
    have h0 : (w.alloc (.cells #[] 21)).ownsRow w.heap.size 21 1 (.slice (some ⟨w.heap.size, 0, none⟩) 0 0) 0 [] := World.ownsRow_lit w #[] 0 (Nat.le_refl _) (Nat.zero_le _) rfl
    have hs1 := (H1.out.below hb0).src0 k (by omega)
    have hl1 : ((xs.take k).map (Value.int .i32)).length = k := by rw [List.length_map, List.length_take]; omega
    have hl2 : (((xs.drop (k + m)).take (L - (k + m))).map (Value.int .i32)).length = L - (k + m) := by rw [List.length_map, List.length_take, List.length_drop]; omega
    have hs2 : ∀ W, Below w.heap.size w W → _ := fun W hb => (H1.out.below hb).srcIf (k + m) (L - (k + m)) (by omega)
    have z1 : 0 + k ≤ maxLen := by unfold maxLen; omega
    have z2 : (0 + k) * 4 ≤ 140737488355328 := by omega
    have z3 : 0 + k + (L - (k + m)) ≤ maxLen := by unfold maxLen; omega
    have z4 : (0 + k + (L - (k + m))) * 4 ≤ 140737488355328 := by omega
    have HS2 := Lib.hid hs2
    clear hs2 hL
    go_wp2_with (first
      | (go_at_call 30; refine hR.mono ?_; clear hR; rintro e _ ⟨rfl, rfl⟩)
      | (at_builtin; go_must (first
          | (refine wpList_append_any rfl _ _ 29 rfl w.heap.size 21 i0 (.int .i32 0) 4 Tryd.underlying29 hi hz0 hz1 hz2 rfl _ _ _ rfl ho1 _ (L - (k + m)) _ _ rfl hl2 (HS2.out _ hb1) (ints_one _) z3 z4 hb1.size ?_; intro v2 w2 ho2 hg2; have hb2 := fresh_below hb1 ho1 hg2)
          | (refine wpList_append_any rfl _ _ 29 rfl w.heap.size 21 i0 (.int .i32 0) 4 Tryd.underlying29 hi hz0 hz1 hz2 rfl _ 0 [] rfl h0 _ k _ _ rfl hl1 hs1 (ints_one _) z1 z2 hb0.size ?_; intro v1 w1 ho1 hg1; have hb1 := fresh_below hb0 h0 hg1))))
    all_goals
      go_ret2
      refine ⟨hb2, v2, rfl, ?_, .inr fun g hg => ho2.lt g hg⟩
      refine List32.of_own (base := w.heap.size) ?_
      have el : (xs.take k ++ xs.drop (k + m)).length = 0 + k + (L - (k + m)) := by rw [List.length_append, List.length_take, List.length_drop, HL.out]; omega
      have em : (xs.take k ++ xs.drop (k + m)).map (Value.int .i32) = [] ++ (xs.take k).map (Value.int .i32) ++ ((xs.drop (k + m)).take (L - (k + m))).map (Value.int .i32) := by
        rw [List.nil_append, List.map_append, List.take_of_length_le (l := xs.drop (k + m)) (by rw [List.length_drop, HL.out]; omega)]
      rw [el, em]
      exact ho2

theorem insX_none (xs : List Int) (a : Int) : insX xs a none = (xs, 2) := rfl
theorem insX_out (xs l : List Int) (a : Int) (h : ¬ (0 ≤ a ∧ a ≤ xs.length)) : insX xs a (some l) = (xs, 3) := by
  unfold insX
  simp only
  rw [if_neg h]
theorem insX_full (xs l : List Int) (k : Nat) (h : k ≤ xs.length) (hf : ¬ (xs.length + l.length ≤ 20000)) : insX xs k (some l) = (xs, 4) := by
  unfold insX
  simp only
  rw [if_pos ⟨by omega, by omega⟩, if_neg hf]
theorem insX_ok (xs l : List Int) (k : Nat) (h : k ≤ xs.length) (hf : xs.length + l.length ≤ 20000) : insX xs k (some l) = (xs.take k ++ (l ++ xs.drop k), 0) := by
  unfold insX
  simp only
  rw [if_pos ⟨by omega, by omega⟩, if_pos hf, Int.toNat_natCast]

set_option maxRecDepth 100000 in
set_option maxHeartbeats 4000000 in
theorem rinsert_any (v : Value) (xs : List Int) (hx : xs.length ≤ 20000) (w : World) (h1 : List32 w v xs) (a : Int) (s : ByteArray) (hs : s.size ≤ 1000000) :
    Calls Tryd.prog 11 #[v, .int .i64 a, .string s] w (EditPost v (insX xs a (runesL s.data.toList)) w) := by
  have hS := rsplit_any s hs w
  obtain ⟨i0, hi, hz0, hz1, hz2⟩ := info_parts infoI32''
  have H1 := Lib.hid h1
  obtain ⟨ao, cap, rfl, hlc, hcm, _⟩ := h1
  obtain ⟨L, hL⟩ : ∃ L, xs.length = L := ⟨_, rfl⟩
  cases hr : runesL s.data.toList with
  | none =>
    rw [insX_none]
    rw [hr] at hS
    rw [hL] at hx hlc ⊢
    have HL := Lib.hid hL
    clear hr hL
    go_enter Tryd.func11, Tryd.ntmps11
    go_wp2_with fail
    refine hS.mono ?_
    clear hS
    rintro e w1 ⟨hb, rfl⟩
    go_wp2
    go_ret2
    exact ⟨hb, _, rfl, by rw [← HL.out]; exact H1.out.below hb, .inl rfl⟩
  | some rs =>
    have hrl : rs.length ≤ s.size := by rw [Lib.size_eq]; exact runes_le hr
    rw [hr] at hS
    clear hr
    by_cases ha : 0 ≤ a ∧ a ≤ xs.length
    case neg =>
      rw [insX_out xs rs a ha]
      rw [hL] at hx hlc ha ⊢
      have HL := Lib.hid hL
      clear hL
      have hc : a < 0 ∨ (0 ≤ a ∧ (L : Int) < a) := by omega
      clear ha
      rcases hc with h1 | ⟨h1, h2⟩
      all_goals
        go_enter Tryd.func11, Tryd.ntmps11
        go_wp2_with fail
        refine hS.mono ?_
        clear hS
        rintro e w1 ⟨hb, vt, rfl, hown⟩
        go_wp2
        go_ret2
        exact ⟨hb, _, rfl, by rw [← HL.out]; exact H1.out.below hb, .inl rfl⟩
    obtain ⟨k, rfl⟩ : ∃ k : Nat, a = k := ⟨a.toNat, by omega⟩
    have hk : k ≤ xs.length := by omega
    clear ha
    by_cases hf : xs.length + rs.length ≤ 20000
    case neg =>
      rw [insX_full xs rs k hk hf]
      obtain ⟨T, hT⟩ : ∃ T, rs.length = T := ⟨_, rfl⟩
      rw [hL] at hx hlc hf hk ⊢
      rw [hT] at hf hrl
      have HL := Lib.hid hL
      have HT := Lib.hid hT
      clear hL hT
      have e1 : IntKind.i64.wrap ((L : Int) + T) = (L : Int) + T := IntWalk.i64_in _ (by omega)
      have i1 : ¬ ((k : Int) < 0) := by omega
      have i2 : ¬ ((L : Int) < (k : Int)) := by omega
      have i3 : (20000 : Int) < (L : Int) + (T : Int) := by omega
      go_enter Tryd.func11, Tryd.ntmps11
      go_wp2_with fail
      refine hS.mono ?_
      clear hS
      rintro e w1 ⟨hb, vt, rfl, hown⟩
      obtain ⟨aT, cT, rfl, hc1, hc2⟩ := own_shape hown
      rw [HT.out] at hc1 ⊢
      clear hown
      go_wp2
      go_ret2
      exact ⟨hb, _, rfl, by rw [← HL.out]; exact H1.out.below hb, .inl rfl⟩
    rw [insX_ok xs rs k hk hf]
    obtain ⟨T, hT⟩ : ∃ T, rs.length = T := ⟨_, rfl⟩
    have HL := Lib.hid hL
    have HT := Lib.hid hT
    rw [hL] at hx hlc hf hk ⊢
    rw [hT] at hf hrl
    have e1 : IntKind.i64.wrap ((L : Int) + T) = (L : Int) + T := IntWalk.i64_in _ (by omega)
    have i1 : ¬ ((k : Int) < 0) := by omega
    have i2 : ¬ ((L : Int) < (k : Int)) := by omega
    have i3 : ¬ ((20000 : Int) < (L : Int) + (T : Int)) := by omega
    have i4 : (k : Int) ≤ (cap : Int) := by omega
    have i5 : (k : Int) ≤ (L : Int) := by omega
    have hl1 : ((xs.take k).map (Value.int .i32)).length = k := by rw [List.length_map, List.length_take]; omega
    have hl2 : ((rs.take T).map (Value.int .i32)).length = T := by rw [List.length_map, List.length_take]; omega
    have hl3 : (((xs.drop k).take (L - k)).map (Value.int .i32)).length = L - k := by rw [List.length_map, List.length_take, List.length_drop]; omega
    have z1 : 0 + k ≤ maxLen := by unfold maxLen; omega
    have z2 : (0 + k) * 4 ≤ 140737488355328 := by omega
    have z3 : 0 + k + T ≤ maxLen := by unfold maxLen; omega
    have z4 : (0 + k + T) * 4 ≤ 140737488355328 := by omega
    have z5 : 0 + k + T + (L - k) ≤ maxLen := by unfold maxLen; omega
    have z6 : (0 + k + T + (L - k)) * 4 ≤ 140737488355328 := by omega
    have hs3' : ∀ W, List32 W (.slice ao xs.length cap) xs → _ := fun W hb => hb.srcIf k (L - k) (by omega)
    have hs2' : ∀ W at' ct, List32 W (.slice at' rs.length ct) rs → _ := fun W at' ct hb => hb.src0 T (by omega)
    have hs1' : ∀ W, List32 W (.slice ao xs.length cap) xs → _ := fun W hb => hb.src0 k (by omega)
    have HS1 := Lib.hid hs1'
    have HS2 := Lib.hid hs2'
    have HS3 := Lib.hid hs3'
    clear hs1' hs2' hs3' hL hT
    go_enter Tryd.func11, Tryd.ntmps11
    go_wp2_with fail
    refine hS.mono ?_
    clear hS
    rintro e w1 ⟨hb, vt, rfl, hown⟩
    have hLt := List32.of_own hown
    obtain ⟨aT, cT, rfl, hc1, hc2⟩ := own_shape hown
    have hL1 := H1.out.below hb
    have hb0 : Below w1.heap.size w1 (w1.alloc (.cells #[] 21)) := (Below.refl _ w1).alloc (Nat.le_refl _) _
    have h0 : (w1.alloc (.cells #[] 21)).ownsRow w1.heap.size 21 1 (.slice (some ⟨w1.heap.size, 0, none⟩) 0 0) 0 [] := World.ownsRow_lit w1 #[] 0 (Nat.le_refl _) (Nat.zero_le _) rfl
    have hs1 := HS1.out _ (hL1.below hb0)
    have hs2 : ∀ W, Below w1.heap.size w1 W → _ := fun W hb => HS2.out _ _ _ (hLt.below hb)
    have hs3 : ∀ W, Below w1.heap.size w1 W → _ := fun W hb => HS3.out _ (hL1.below hb)
    have HS2' := Lib.hid hs2
    have HS3' := Lib.hid hs3
    have Hb := Lib.hid hb
    rw [HT.out] at hc1 ⊢
    clear HS1 HS2 HS3 hs2 hs3 hLt hL1 hown hb
    go_wp2_with (at_builtin; go_must (first
          | (refine wpList_append_any rfl _ _ 29 rfl w1.heap.size 21 i0 (.int .i32 0) 4 Tryd.underlying29 hi hz0 hz1 hz2 rfl _ _ _ rfl ho2 _ (L - k) _ _ rfl hl3 (HS3'.out _ hb2) (ints_one _) z5 z6 hb2.size ?_; intro v3 wc ho3 hg3; have hb3 := fresh_below hb2 ho2 hg3)
          | (refine wpList_append_any rfl _ _ 29 rfl w1.heap.size 21 i0 (.int .i32 0) 4 Tryd.underlying29 hi hz0 hz1 hz2 rfl _ _ _ rfl ho1 _ T _ _ rfl hl2 (HS2'.out _ hb1) (ints_one _) z3 z4 hb1.size ?_; intro v2 wb ho2 hg2; have hb2 := fresh_below hb1 ho1 hg2)
          | (refine wpList_append_any rfl _ _ 29 rfl w1.heap.size 21 i0 (.int .i32 0) 4 Tryd.underlying29 hi hz0 hz1 hz2 rfl _ 0 [] rfl h0 _ k _ _ rfl hl1 hs1 (ints_one _) z1 z2 hb0.size ?_; intro v1 wa ho1 hg1; have hb1 := fresh_below hb0 h0 hg1)))
    all_goals
      go_ret2
      refine ⟨Hb.out.trans (hb3.mono Hb.out.size), v3, rfl, ?_, .inr fun g hg => ⟨Nat.le_trans Hb.out.size (ho3.lt g hg).1, (ho3.lt g hg).2⟩⟩
      refine List32.of_own (base := w1.heap.size) ?_
      have el : (xs.take k ++ (rs ++ xs.drop k)).length = 0 + k + T + (L - k) := by rw [List.length_append, List.length_append, List.length_take, List.length_drop, HL.out, HT.out]; omega
      have em : (xs.take k ++ (rs ++ xs.drop k)).map (Value.int .i32) = [] ++ (xs.take k).map (Value.int .i32) ++ (rs.take T).map (Value.int .i32) ++ ((xs.drop k).take (L - k)).map (Value.int .i32) := by
        rw [List.nil_append, List.map_append, List.map_append, List.take_of_length_le (l := xs.drop k) (by rw [List.length_drop, HL.out]; omega), List.take_of_length_le (l := rs) (by rw [HT.out]; omega), List.append_assoc]
      rw [el, em]
      exact ho3
end Go.Proofs.YtpldalmodcmfaaaDoor
