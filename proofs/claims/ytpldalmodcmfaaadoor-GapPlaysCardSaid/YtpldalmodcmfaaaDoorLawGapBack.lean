/- The law GapBack. -/
import Derived.Test.YtpldalmodcmfaaaDoorGapPlain
import Derived.Test.YtpldalmodcmfaaaDoorRefSplit
namespace Go.Proofs.YtpldalmodcmfaaaDoor
open Go.RowKit

set_option maxRecDepth 100000 in
theorem great_none (s : ByteArray) (hs : s.size ≤ maxLen) (w : World) :
    Calls Tryd.prog 9 #[.string s, .slice none 0 0] w fun e w' => e = .returned (.bool (decide (600 < s.size))) ∧ w = w' := by
  unfold maxLen at hs
  by_cases h : 600 < s.size
  · rw [decide_eq_true h]
    have h' : (600 : Int) < (s.size : Int) := by omega
    clear h
    go_enter Tryd.func9, Tryd.ntmps9
    go_wp2
    go_ret
    exact ⟨rfl, rfl⟩
  · rw [decide_eq_false h]
    have h' : ¬ ((600 : Int) < (s.size : Int)) := by omega
    have hd : decide ((600 : Int) < (s.size : Int)) = false := decide_eq_false h'
    clear h
    go_enter Tryd.func9, Tryd.ntmps9
    go_wp2
    go_loop [5] (fun i => i = .int .i64 0) (fun _ => 0)
    case atStart => rfl
    case round =>
      subst hrel
      go_wp2
      go_ret
      exact ⟨rfl, rfl⟩

/-- What was put into New. -/
theorem new_runes {s : ByteArray} {zs ys : List Int} (hc : (insX [] 0 (runesL s.data.toList)).2 = 0) (hz : zs ++ ys = (insX [] 0 (runesL s.data.toList)).1) : runesL s.data.toList = some (zs ++ ys) := by
  obtain ⟨l, k, hr, _, hk, _, he⟩ := insX_zero hc
  rw [hz, he, hr]
  simp
theorem text_is {S : Nat → Prop} {N r B : Nat} {zs ys : List Int} {w : World} {s : ByteArray} (h : Bf S N r B zs ys w) (hr : runesL s.data.toList = some (zs ++ ys)) :
    Calls Tryd.prog 15 #[.pointer (some ⟨B, 0, none⟩)] w fun e w' => e = .returned (.string s) ∧ Below w.heap.size w w' := by
  refine (btext_any h (text_of hr).2).mono ?_
  rintro e w' ⟨rfl, hb⟩
  exact ⟨by rw [(text_of hr).1], hb⟩
theorem runes_valid {l : List Int} (h : allValid l = true) : runesL (⟨(joinL l).toArray⟩ : ByteArray).data.toList = some l := runesL_split (allValid_iff.1 h)
theorem valid_ins {xs l : List Int} {k : Nat} (h1 : allValid xs = true) (h2 : allValid l = true) : allValid (xs.take k ++ (l ++ xs.drop k)) = true := by
  rw [allValid_iff] at *
  intro r hr
  rcases List.mem_append.1 hr with h | h
  · exact h1 r (List.mem_of_mem_take h)
  · rcases List.mem_append.1 h with h | h
    · exact h2 r h
    · exact h1 r (List.mem_of_mem_drop h)

set_option maxRecDepth 100000 in
set_option maxHeartbeats 4000000 in
theorem lawGapBack_any (s t : ByteArray) (a : Int) (w : World) (hs : s.size ≤ maxLen) (ht : t.size ≤ maxLen) (hT : Lib.Utf8Tabs 0 1 w) :
    Calls Tryd.prog 5 #[.string s, .string t, .int .i64 a] w fun e w' => e = .returned (.bool true) ∧ Below w.heap.size w w' := by
  have hA := galive_any w hT
  have hG1 := fun W => great_none s hs W
  have hG2 := fun W => great_none t ht W
  by_cases h1 : 600 < s.size
  · rw [decide_eq_true h1] at hG1
    clear hT hG2 hs ht h1
    go_enter Tryd.func5, Tryd.ntmps5
    go_wp2_with (first
      | (go_at_call 8; refine hA.mono ?_; clear hA; rintro e w1 ⟨rfl, hb1⟩)
      | (go_at_call 9; refine (hG1 _).mono ?_; rintro e _ ⟨rfl, rfl⟩))
    go_ret
    exact ⟨rfl, hb1⟩
  by_cases h2 : 600 < t.size
  · rw [decide_eq_true h2] at hG2
    rw [decide_eq_false h1] at hG1
    clear hT hs ht h1 h2
    go_enter Tryd.func5, Tryd.ntmps5
    go_wp2_with (first
      | (go_at_call 8; refine hA.mono ?_; clear hA; rintro e w1 ⟨rfl, hb1⟩)
      | (go_at_call 9; (first | (with_reducible refine (hG1 _).mono ?_) | (with_reducible refine (hG2 _).mono ?_)); rintro e _ ⟨rfl, rfl⟩))
    go_ret
    exact ⟨rfl, hb1⟩
  rw [decide_eq_false h1] at hG1
  rw [decide_eq_false h2] at hG2
  have hN : ∀ W, Below w.heap.size w W → _ := fun W hb => new_any s (by omega) W (Utf8Tabs_below hT hb)
  have HT := Lib.hid hT
  have HN := Lib.hid hN
  clear hT hN hs ht
  go_enter Tryd.func5, Tryd.ntmps5
  go_wp2_with (first
    | (go_at_call 8; refine hA.mono ?_; clear hA; rintro e w1 ⟨rfl, hb1⟩)
    | (go_at_call 9; (first | (with_reducible refine (hG1 _).mono ?_) | (with_reducible refine (hG2 _).mono ?_)); rintro e _ ⟨rfl, rfl⟩))
  refine (HN.out _ hb1).mono ?_
  clear HN hG1 hG2
  rintro e w2 ⟨hb2, ⟨hc, rfl, zs, ys, hz, hB⟩ | ⟨hc, rfl⟩⟩
  · have hr := new_runes hc hz
    have hw2 : Below w.heap.size w w2 := hb1.trans (hb2.mono hb1.size)
    have hTx : ∀ W, Below w2.heap.size w2 W → _ := fun W hb => text_is (hB.fresh hb) hr
    have hIn : ∀ W, Below w2.heap.size w2 W → _ := fun W hb => binsert_any (hB.fresh hb) a t (by omega) (Utf8Tabs_below HT.out (hw2.trans (hb.mono hw2.size)))
    have HTx := Lib.hid hTx
    have HIn := Lib.hid hIn
    have HB := Lib.hid hB
    have Hr := Lib.hid hr
    have Hw2 := Lib.hid hw2
    clear hTx hIn hB hr hz hc hw2 hb2
    go_wp2_with (go_at_call 15; refine (HTx.out _ (Below.refl _ _)).mono ?_; clear HTx; rintro e w3 ⟨rfl, hb3⟩)
    refine (HIn.out _ hb3).mono ?_
    clear HIn
    rintro e w4 ⟨rfl, zs', ys', hz', hB', hK'⟩
    have hN1 : w.heap.size ≤ w1.heap.size := hb1.size
    have hw4 : Below w.heap.size w w4 := Hw2.out.trans ((hb3.mono Hw2.out.size).trans (hK'.zero.mono hN1))
    clear hK' hb3 HB
    by_cases hx : (insX (zs ++ ys) a (runesL t.data.toList)).2 = 0
    · obtain ⟨l, k, hl, rfl, hk, hlen, hxx⟩ := insX_zero hx
      rw [hx]
      rw [hxx] at hz'
      have hvx := (text_of Hr.out).2
      have hvl := (text_of hl).2
      have hv' : allValid (zs' ++ ys') = true := by rw [hz']; exact valid_ins hvx hvl
      have hn' : zs'.length + ys'.length = zs.length + ys.length + l.length := by
        rw [← List.length_append, hz']
        simp only [List.length_append, List.length_take, List.length_drop]
        rw [List.length_append] at hk
        omega
      rw [List.length_append] at hk hlen
      obtain ⟨n, hn⟩ : ∃ n, zs'.length + ys'.length = n := ⟨_, rfl⟩
      have hn2 : n ≤ 20000 := by omega
      have hkn : k + l.length ≤ n := by omega
      have hLe : ∀ W, Below w4.heap.size w4 W → Calls Tryd.prog 14 #[.pointer (some ⟨w1.heap.size, 0, none⟩)] W fun e w' => e = .returned (.int .i64 n) ∧ ∃ q, w' = W.drewN q := fun W hb => by rw [← hn]; exact blen_any (hB'.fresh hb)
      have hPl : ∀ (q : Nat), q ≤ n → ∃ c col : Int, (∀ W, Below w4.heap.size w4 W → Calls Tryd.prog 22 #[.pointer (some ⟨w1.heap.size, 0, none⟩), .int .i64 q] W fun e w' => e = .returned (.tuple #[.int .i64 c, .int .i64 col, .int .i64 0]) ∧ Below W.heap.size W w') ∧
          ∀ W', Below w4.heap.size w4 W' → Calls Tryd.prog 24 #[.pointer (some ⟨w1.heap.size, 0, none⟩), .int .i64 c, .int .i64 col] W' fun e w' => e = .returned (.tuple #[.int .i64 q, .int .i64 0]) ∧ Below W'.heap.size W' w' := fun q hq => by
        refine ⟨_, _, fun W hb => place_yes (hB'.fresh hb) q (by omega), fun W' hb' => ?_⟩
        have hh := bat_any (hB'.fresh hb') (cnt (fd (zs' ++ ys')) q) ((q : Int) - begL (zs' ++ ys') (cnt (fd (zs' ++ ys')) q))
        rw [at_place (zs' ++ ys') q (by rw [List.length_append]; omega)] at hh
        exact hh
      have hSl : ∀ W, Below w4.heap.size w4 W → Calls Tryd.prog 28 #[.pointer (some ⟨w1.heap.size, 0, none⟩), .int .i64 k, .int .i64 l.length] W fun e w' => e = .returned (.tuple #[.string t, .int .i64 0]) ∧ Below W.heap.size W w' := fun W hb => by
        have hh := slice_yes (hB'.fresh hb) hv' k l.length (by omega)
        rw [hz', cut_ins (zs ++ ys) l k (by rw [List.length_append]; omega), (text_of hl).1] at hh
        exact hh
      have hDe : ∀ W, Below w4.heap.size w4 W → Calls Tryd.prog 29 #[.pointer (some ⟨w1.heap.size, 0, none⟩), .int .i64 k, .int .i64 l.length] W (InsPost (fun _ => False) w1.heap.size w1.heap.size (zs ++ ys, 0) W) := fun W hb => by
        have hh := bdelete_any (hB'.fresh hb) k l.length
        rw [hz', del_ins (zs ++ ys) l k (by rw [List.length_append]; omega)] at hh
        exact hh
      have hRl : ∀ W, Calls Tryd.prog 27 #[.string t] W fun e w' => e = .returned (.int .i64 l.length) ∧ Below W.heap.size W w' := fun W => by
        have hh := rlen_any t (by omega) W
        rw [hl] at hh
        exact hh
      have HLe := Lib.hid hLe
      have HPl := Lib.hid hPl
      have HSl := Lib.hid hSl
      have HDe := Lib.hid hDe
      have HRl := Lib.hid hRl
      have Hw4 := Lib.hid hw4
      clear hLe hPl hSl hDe hRl hw4 hx hl hxx hz' hvx hvl hv' hn' hn hB' Hw2 hlen hk
      go_wp2
      go_loopw [10] (fun i wr => ∃ q : Nat, i = .int .i64 q ∧ q ≤ n + 1 ∧ Below w4.heap.size w4 wr) (fun i _ => n + 1 - (intOf i).toNat)
      case atStart => exact ⟨0, rfl, Nat.zero_le _, Below.refl _ _⟩
      case round =>
        rename_i wr
        obtain ⟨q, rfl, hq, hbr⟩ := hrel
        have Hbr := Lib.hid hbr
        clear hbr
        rcases Nat.lt_or_ge n q with hlt | hle
        · have i1 : ¬ ((q : Int) ≤ (n : Int)) := by omega
          have hss : (s.toList == s.toList) = true := beq_self_eq_true _
          have htt : (t.toList == t.toList) = true := beq_self_eq_true _
          go_wp2_with (first
            | (go_at_call 14; refine (HLe.out _ Hbr.out).mono ?_; rintro e _ ⟨rfl, q2, rfl⟩)
            | (go_at_call 27; refine (HRl.out _).mono ?_; rintro e w6 ⟨rfl, hb6⟩; have hb7 : Below w4.heap.size w4 w6 := (below_drewN Hbr.out q2).trans (hb6.mono Hbr.out.size))
            | (go_at_call 28; refine (HSl.out _ hb7).mono ?_; rintro e w8 ⟨rfl, hb8⟩; have hb9 : Below w4.heap.size w4 w8 := hb7.trans (hb8.mono hb7.size)))
          refine (HDe.out _ hb9).mono ?_
          rintro e w10 ⟨rfl, z2, y2, hz2, hB2, hK2⟩
          have hT10 := text_is hB2 (s := s) (by rw [hz2]; exact Hr.out)
          have hw10 : Below w.heap.size w w10 := (Hw4.out.trans (hb9.mono Hw4.out.size)).trans (hK2.zero.mono hN1)
          clear hz2 hB2 hK2
          go_wp2_with (go_at_call 15; refine hT10.mono ?_; clear hT10; rintro e w11 ⟨rfl, hb11⟩)
          go_ret
          exact ⟨rfl, hw10.trans (hb11.mono hw10.size)⟩
        · obtain ⟨c, col, hP, hA2⟩ := HPl.out q hle
          have i1 : (q : Int) ≤ (n : Int) := by omega
          have HP := Lib.hid hP
          have HA2 := Lib.hid hA2
          clear hP hA2
          go_wp2_with (first
            | (go_at_call 14; refine (HLe.out _ Hbr.out).mono ?_; rintro e _ ⟨rfl, q2, rfl⟩)
            | (go_at_call 22; refine (HP.out _ (below_drewN Hbr.out _)).mono ?_; rintro e w6 ⟨rfl, hb6⟩; have hb7 : Below w4.heap.size w4 w6 := (below_drewN Hbr.out q2).trans (hb6.mono Hbr.out.size))
            | (go_at_call 24; refine (HA2.out _ hb7).mono ?_; rintro e w8 ⟨rfl, hb8⟩; have hb9 : Below w4.heap.size w4 w8 := hb7.trans (hb8.mono hb7.size)))
          go_roundw
          case rel => exact ⟨q + 1, by go_num, by omega, hb9⟩
          case measure => simp [intOf]; omega
    · rw [insX_nonzero hx] at hz'
      have hT4 := text_is hB' (s := s) (by rw [hz']; exact Hr.out)
      obtain ⟨c, hcc⟩ : ∃ c, (insX (zs ++ ys) a (runesL t.data.toList)).2 = c := ⟨_, rfl⟩
      rw [hcc] at hx ⊢
      have hq : (c != 0) = true := by rw [bne, beq_eq_false_iff_ne.2 hx]; rfl
      have hq2 : (c == 0) = false := beq_eq_false_iff_ne.2 hx
      have hss : (s.toList == s.toList) = true := beq_self_eq_true _
      clear hx hcc hz' hB'
      go_wp2_with (go_at_call 15; refine hT4.mono ?_; clear hT4; rintro e w5 ⟨rfl, hb5⟩)
      go_ret
      exact ⟨rfl, hw4.trans (hb5.mono hw4.size)⟩
  · obtain ⟨c, hcc⟩ : ∃ c, (insX [] 0 (runesL s.data.toList)).2 = c := ⟨_, rfl⟩
    rw [hcc] at hc ⊢
    have hq : (c != 0) = true := by rw [bne, beq_eq_false_iff_ne.2 hc]; rfl
    have hq2 : (c == 0) = false := beq_eq_false_iff_ne.2 hc
    clear hc hcc
    go_wp2
    go_ret
    exact ⟨rfl, hb1.trans (hb2.mono hb1.size)⟩
end Go.Proofs.YtpldalmodcmfaaaDoor
