/- RunesOne: the law's walk. -/
import Derived.Test.YtbaofbbikdbppaaDoorAlive
import Derived.Test.YtbaofbbikdbppaaDoorSplit
import Derived.Test.YtbaofbbikdbppaaDoorJoin
import Derived.Test.YtbaofbbikdbppaaDoorRefSame
namespace Go.Proofs.YtbaofbbikdbppaaDoor
open Go.RowKit Go.Shelf

theorem slice_of_own2 {W : World} {base : Nat} {e : TypeId} {v : Value} {rs : List Int} {l : List Value} (h : W.ownsRow base e 1 v rs.length l) : ∃ ao cap, v = .slice ao rs.length cap := by
  rcases h.2 with ⟨hv, h0⟩ | ⟨g, cap, cur, hv, _, _, h1, h2, _⟩
  · exact ⟨none, 0, by rw [hv, h0]⟩
  · exact ⟨_, _, hv⟩
theorem joinL_inj {a b : List Int} (ha : ∀ r ∈ a, Lib.validRune r = true) (hb : ∀ r ∈ b, Lib.validRune r = true) (h : joinL a = joinL b) : a = b := by
  have h1 := runesL_split ha
  rw [h, runesL_split hb] at h1
  exact (Option.some.inj h1).symm

set_option maxRecDepth 100000 in
set_option maxHeartbeats 2000000 in
theorem lawOne_any (v : Value) (a : List Int) (u : Value) (b : List Int) (w : World) (hla : a.length ≤ maxLen) (hRa : Reads32 w v a) (hlb : b.length ≤ maxLen) (hRb : Reads32 w u b) (hT : Lib.Utf8Tabs 0 1 w) :
    Calls Tryd.prog 7 #[v, u] w fun e W' => e = .returned (.bool true) ∧ Below w.heap.size w W' := by
  unfold maxLen at hla hlb
  have hA := alive_any w hT
  have hRa' := hRa
  have hRb' := hRb
  obtain ⟨ao, ca, rfl, _⟩ := hRa'
  obtain ⟨bo, cb, rfl, _⟩ := hRb'
  have HRa := Lib.hid hRa
  have HRb := Lib.hid hRb
  clear hRa hRb
  by_cases h1 : 2000 < a.length
  · have h1' : (2000 : Int) < (a.length : Int) := by omega
    go_enter Tryd.func7, Tryd.ntmps7
    go_wp2_with (go_at_call 9; refine hA.mono ?_; clear hA; rintro e w1 ⟨rfl, hb⟩)
    go_ret
    exact ⟨rfl, hb⟩
  · by_cases h2 : 2000 < b.length
    · have h2' : (2000 : Int) < (b.length : Int) := by omega
      have h1' : (a.length : Int) ≤ 2000 := by omega
      go_enter Tryd.func7, Tryd.ntmps7
      go_wp2_with (go_at_call 9; refine hA.mono ?_; clear hA; rintro e w1 ⟨rfl, hb⟩)
      go_ret
      exact ⟨rfl, hb⟩
    · have h1' : (a.length : Int) ≤ 2000 := by omega
      have h2' : (b.length : Int) ≤ 2000 := by omega
      have hJa := fun w1 (h : Below w.heap.size w w1) => join_any _ a (by omega) w1 (HRa.out.below h)
      have hJb := fun w1 (h : Below w.heap.size w w1) => join_any _ b (by omega) w1 (HRb.out.below h)
      clear h1 h2
      cases va : allValid a with
      | false =>
        have Ha := Lib.hid (show ¬ allValid a = true by rw [va]; simp)
        clear va
        cases vb : allValid b with
        | false =>
          have Hb := Lib.hid (show ¬ allValid b = true by rw [vb]; simp)
          clear vb
          go_enter Tryd.func7, Tryd.ntmps7
          go_wp2_with fail
          refine hA.mono ?_
          clear hA
          rintro e w1 ⟨rfl, hb1⟩
          go_wp2_with fail
          refine (hJa w1 hb1).mono ?_
          clear hJa
          rintro e w2 ⟨he, hb⟩
          rw [if_neg Ha.out] at he
          subst he
          have hb2 := hb1.trans (hb.mono hb1.size)
          go_wp2_with fail
          refine (hJb w2 hb2).mono ?_
          clear hJb
          rintro e w3 ⟨he, hb⟩
          rw [if_neg Hb.out] at he
          subst he
          have hb3 := hb2.trans (hb.mono hb2.size)
          go_wp2
          go_ret
          exact ⟨rfl, hb3⟩
        | true =>
          have Hb := Lib.hid vb
          clear vb
          go_enter Tryd.func7, Tryd.ntmps7
          go_wp2_with fail
          refine hA.mono ?_
          clear hA
          rintro e w1 ⟨rfl, hb1⟩
          go_wp2_with fail
          refine (hJa w1 hb1).mono ?_
          clear hJa
          rintro e w2 ⟨he, hb⟩
          rw [if_neg Ha.out] at he
          subst he
          have hb2 := hb1.trans (hb.mono hb1.size)
          go_wp2_with fail
          refine (hJb w2 hb2).mono ?_
          clear hJb
          rintro e w3 ⟨he, hb⟩
          rw [if_pos Hb.out] at he
          subst he
          have hb3 := hb2.trans (hb.mono hb2.size)
          go_wp2
          go_ret
          exact ⟨rfl, hb3⟩
      | true =>
        have Ha := Lib.hid va
        cases vb : allValid b with
        | false =>
          have Hb := Lib.hid (show ¬ allValid b = true by rw [vb]; simp)
          clear va vb
          go_enter Tryd.func7, Tryd.ntmps7
          go_wp2_with fail
          refine hA.mono ?_
          clear hA
          rintro e w1 ⟨rfl, hb1⟩
          go_wp2_with fail
          refine (hJa w1 hb1).mono ?_
          clear hJa
          rintro e w2 ⟨he, hb⟩
          rw [if_pos Ha.out] at he
          subst he
          have hb2 := hb1.trans (hb.mono hb1.size)
          go_wp2_with fail
          refine (hJb w2 hb2).mono ?_
          clear hJb
          rintro e w3 ⟨he, hb⟩
          rw [if_neg Hb.out] at he
          subst he
          have hb3 := hb2.trans (hb.mono hb2.size)
          go_wp2
          go_ret
          exact ⟨rfl, hb3⟩
        | true =>
          have Hb := Lib.hid vb
          have hva := allValid_iff.1 va
          have hvb := allValid_iff.1 vb
          have hja : (joinL a).length ≤ 8000 := by have := joinL_length_le a; omega
          have hjb : (joinL b).length ≤ 8000 := by have := joinL_length_le b; omega
          have hS := fun w1 (h : Below w.heap.size w w1) => split_some ⟨(joinL a).toArray⟩ (by rw [Lib.size_eq]; show (joinL a).length ≤ _; omega) w1 (Utf8Tabs_below hT h) a (runesL_split hva)
          have hab : runesL (joinL a ++ joinL b) = some (a ++ b) := by
            rw [← joinL_append]
            exact runesL_split (fun r h => (List.mem_append.1 h).elim (hva r) (hvb r))
          have hsum : ((⟨(joinL a).toArray⟩ : ByteArray) ++ ⟨(joinL b).toArray⟩).data.toList = joinL a ++ joinL b := by simp
          have hL := fun w1 (h : Below w.heap.size w w1) => len_any ((⟨(joinL a).toArray⟩ : ByteArray) ++ ⟨(joinL b).toArray⟩) (by unfold maxLen; rw [Lib.size_eq, hsum, List.length_append]; omega) w1 (Utf8Tabs_below hT h)
          rw [hsum, lenL_some hab, List.length_append, show (((a.length + b.length : Nat)) : Int) = (a.length : Int) + (b.length : Int) from by omega] at hL
          have hla' : a.length ≤ 2000 := by omega
          have hlb' : b.length ≤ 2000 := by omega
          have key : ∃ z : Bool, decide (a = b) = z ∧ (joinL a == joinL b) = z := by
            by_cases h : a = b
            · exact ⟨true, decide_eq_true h, by rw [h]; exact beq_iff_eq.2 rfl⟩
            · exact ⟨false, decide_eq_false h, beq_eq_false_iff_ne.2 (fun e => h (joinL_inj hva hvb e))⟩
          obtain ⟨z, hz, hq⟩ := key
          have Hz := Lib.hid hz
          clear va vb hva hvb hab hsum hz
          rcases z with _ | _
          all_goals
            go_enter Tryd.func7, Tryd.ntmps7
            go_wp2_with fail
            refine hA.mono ?_
            clear hA
            rintro e w1 ⟨rfl, hb1⟩
            go_wp2_with fail
            refine (hJa w1 hb1).mono ?_
            clear hJa
            rintro e w2 ⟨he, hb⟩
            rw [if_pos Ha.out] at he
            subst he
            have hb2 := hb1.trans (hb.mono hb1.size)
            go_wp2_with fail
            refine (hJb w2 hb2).mono ?_
            clear hJb
            rintro e w3 ⟨he, hb⟩
            rw [if_pos Hb.out] at he
            subst he
            have hb3 := hb2.trans (hb.mono hb2.size)
            go_wp2_with fail
            refine (hS w3 hb3).mono ?_
            clear hS
            rintro e w4 ⟨x, rfl, hx, hb⟩
            have hb4 := hb3.trans (hb.mono hb3.size)
            have rx := Reads32.of_own hx
            obtain ⟨xo, cx, rfl⟩ := slice_of_own2 hx
            clear hx
            have hSa := same_any _ _ a a (by omega) (by omega) w4 rx (HRa.out.below hb4)
            rw [decide_eq_true rfl] at hSa
            go_wp2_with fail
            refine hSa.mono ?_
            clear hSa
            rintro e w5 ⟨rfl, hb⟩
            have hb5 := hb4.trans (hb.mono hb4.size)
            have hSb := same_any _ _ a b (by omega) (by omega) w5 (HRa.out.below hb5) (HRb.out.below hb5)
            rw [Hz.out] at hSb
            go_wp2_with fail
            refine hSb.mono ?_
            clear hSb
            rintro e w6 ⟨rfl, hb⟩
            have hb6 := hb5.trans (hb.mono hb5.size)
            go_wp2_with fail
            refine (hL w6 hb6).mono ?_
            clear hL
            rintro e w7 ⟨rfl, hb⟩
            have hb7 := hb6.trans (hb.mono hb6.size)
            go_wp2
            go_ret
            exact ⟨rfl, hb7⟩
end Go.Proofs.YtbaofbbikdbppaaDoor
