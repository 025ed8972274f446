/- NumsOne: the law's walk. -/
import Derived.Test.YtcceanhhcoajpaaNumsAlive
namespace Go.Proofs.Ytcceanhhcoajpaa
open Go.RowKit Go.Shelf

/-- What the two numbers' bytes tell: the law's last row. -/
theorem twoPuts (k j : Nat) : ∃ b : Bool, (Lib.uvarint k == Lib.uvarint j) = b ∧ ((k : Int) == (j : Int)) = b := by
  by_cases h : k = j
  · exact ⟨true, by simp [h], by simp [h]⟩
  · exact ⟨false, beq_eq_false_iff_ne.2 fun e => h (uvarint_inj e), beq_eq_false_iff_ne.2 (by omega)⟩

set_option maxRecDepth 100000 in
set_option maxHeartbeats 4000000 in
theorem lawNumsOne_any (s : ByteArray) (n m : Int) (w : World) (hs : s.size ≤ maxLen) (hn0 : 0 ≤ n) (hn1 : n < 18446744073709551616) (hm0 : 0 ≤ m) (hm1 : m < 18446744073709551616) :
    Calls Try.prog 5 #[.string s, .int .u64 n, .int .u64 m] w fun e W' => e = .returned (.bool true) ∧ Below w.heap.size w W' := by
  unfold maxLen at hs
  obtain ⟨k, rfl⟩ := Int.eq_ofNat_of_zero_le hn0
  obtain ⟨j, rfl⟩ := Int.eq_ofNat_of_zero_le hm0
  have hA := nalive_any w
  by_cases h1 : 40 < s.size
  · clear hn0 hn1 hm0 hm1
    go_enter Try.func5, Try.ntmps5
    go_wp2_with (go_at_call 6; refine hA.mono ?_; clear hA; rintro e w1 ⟨rfl, hb⟩)
    go_ret
    exact ⟨rfl, hb⟩
  · have hs2 : s.size ≤ 40 := by omega
    have hR := fun w => read_any s w (by omega)
    have p1 := fun w => put_any k (by omega) w
    have p2 := fun w => put_any j (by omega) w
    obtain ⟨b, hb1, hb2⟩ := twoPuts k j
    have h10 := Lib.uvarint_length64 (x := k) (by omega)
    generalize Lib.uvarint k = l1 at *
    generalize Lib.uvarint j = l2 at *
    clear h1 hn0 hn1 hm0 hm1
    go_enter Try.func5, Try.ntmps5
    go_wp2_with fail
    refine hA.mono ?_
    clear hA
    rintro e w1 ⟨rfl, hw1⟩
    go_wp2_with fail
    refine (hR _).mono ?_
    clear hR
    rintro e w2 ⟨B, rfl, hB, hrd, hw⟩
    have hw2 := hw1.trans (hw.mono hw1.size)
    go_wp2_with fail
    refine (num_any B s 18446744073709551615 w2 hrd (by omega)).mono ?_
    clear hw
    rintro e w3 (⟨c, hc, rfl, hr3, hk3⟩ | ⟨x, q, hk, rfl, hr3, hk3⟩)
    · have hw3 := hw2.trans (hk3.below (M := w.heap.size) hw2.size (fun k hk => by have := hw1.size; omega))
      have hE := rdEnd_any B s c w3 hr3
      have hc0 := takeL_error hc
      have hend : endOf s c = c := by unfold endOf; rw [if_neg (by omega)]
      rw [hend] at hE
      have hcb : (c == 0) = false := beq_eq_false_iff_ne.2 (by omega)
      clear hc hc0 hend hk3
      go_wp2_with fail
      refine hE.mono ?_
      clear hE
      rintro e _ ⟨rfl, rfl⟩
      go_wp2_with fail
      refine (p1 _).mono ?_
      rintro e w4 ⟨rfl, hw⟩
      have hw4 := hw3.trans (hw.mono hw3.size)
      go_wp2_with fail
      refine (p2 _).mono ?_
      rintro e w5 ⟨rfl, hw⟩
      have hw5 := hw4.trans (hw.mono hw4.size)
      go_wp2_with fail
      refine (p1 _).mono ?_
      rintro e w6 ⟨rfl, hw⟩
      have hw6 := hw5.trans (hw.mono hw5.size)
      go_wp2
      go_ret
      exact ⟨congrArg (fun b => Ending.returned (Value.bool b)) (decide_eq_true (show (l1.length : Int) ≤ 10 by omega)), hw6⟩
    · have hw3 := hw2.trans (hk3.below (M := w.heap.size) hw2.size (fun k hk => by have := hw1.size; omega))
      have hE := rdEnd_any B _ 0 w3 hr3
      obtain ⟨_, hx64, hq, htake, _⟩ := takeL_ok hk
      rw [← Lib.size_eq] at hq
      have hsz : (s.extract q s.size).size = s.size - q := by simp
      by_cases hfull : q < s.size
      · have hend : endOf (s.extract q s.size) 0 = 11 := by unfold endOf; rw [if_pos rfl, hsz, if_pos (by omega)]
        rw [hend] at hE
        clear hk htake hq hend hsz hfull hk3 hr3
        rename_i hh1 hh2
        clear hh1 hh2
        go_wp2_with fail
        refine hE.mono ?_
        clear hE
        rintro e _ ⟨rfl, rfl⟩
        go_wp2_with fail
        refine (p1 _).mono ?_
        rintro e w4 ⟨rfl, hw⟩
        have hw4 := hw3.trans (hw.mono hw3.size)
        go_wp2_with fail
        refine (p2 _).mono ?_
        rintro e w5 ⟨rfl, hw⟩
        have hw5 := hw4.trans (hw.mono hw4.size)
        go_wp2_with fail
        refine (p1 _).mono ?_
        rintro e w6 ⟨rfl, hw⟩
        have hw6 := hw5.trans (hw.mono hw5.size)
        go_wp2
        go_ret
        exact ⟨congrArg (fun b => Ending.returned (Value.bool b)) (decide_eq_true (show (l1.length : Int) ≤ 10 by omega)), hw6⟩
      · have hend : endOf (s.extract q s.size) 0 = 0 := by unfold endOf; rw [if_pos rfl, hsz, if_neg (by omega)]
        rw [hend] at hE
        have p3 := fun w => put_any x hx64 w
        have hxs : (⟨(Lib.uvarint x).toArray⟩ : ByteArray) = s := by
          apply ByteArray.ext
          apply Array.toList_inj.1
          rw [← htake, List.take_of_length_le (by rw [← Lib.size_eq]; omega)]
        rw [hxs] at p3
        clear hk htake hq hend hsz hfull hk3 hr3 hxs
        rename_i hh1 hh2
        clear hh1 hh2
        go_wp2_with fail
        refine hE.mono ?_
        clear hE
        rintro e _ ⟨rfl, rfl⟩
        go_wp2_with fail
        refine (p3 _).mono ?_
        rintro e w3b ⟨rfl, hw⟩
        replace hw3 := hw3.trans (hw.mono hw3.size)
        go_wp2_with fail
        refine (p1 _).mono ?_
        rintro e w4 ⟨rfl, hw⟩
        have hw4 := hw3.trans (hw.mono hw3.size)
        go_wp2_with fail
        refine (p2 _).mono ?_
        rintro e w5 ⟨rfl, hw⟩
        have hw5 := hw4.trans (hw.mono hw4.size)
        go_wp2_with fail
        refine (p1 _).mono ?_
        rintro e w6 ⟨rfl, hw⟩
        have hw6 := hw5.trans (hw.mono hw5.size)
        go_wp2
        go_ret
        exact ⟨congrArg (fun b => Ending.returned (Value.bool b)) (decide_eq_true (show (l1.length : Int) ≤ 10 by omega)), hw6⟩
end Go.Proofs.Ytcceanhhcoajpaa
