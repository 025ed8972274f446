/- The document's first rune of bytes: the walk, by how many bytes the first one asks for. -/
import Derived.Test.YthekkjfaaedamaaGreatDoorGPlain
import Derived.Test.YthekkjfaaedamaaGreatDoorGConvOwn
import Derived.Laws.BytesString
import Derived.Lib.Walk
import Derived.Lib.Strings
import Derived.Deep.QuietTactic
import Derived.BigQuiet
import Derived.Deep.RegionHeld
namespace Go.Proofs.YthekkjfaaedamaaGreatDoor
open Go.RowKit

theorem byteL_at (s : ByteArray) (k : Nat) (h : k < s.size) : (s[k]'h).toNat = byteL s.data.toList k := by
  unfold byteL
  rw [List.getD_eq_getElem?_getD, List.getElem?_eq_getElem (by rw [← Lib.size_eq]; exact h)]
  rfl
def firstR (l : List UInt8) : Int := if badL l then 0 else (Lib.decodeL l).1
def firstK (l : List UInt8) : Nat := if badL l then 0 else (Lib.decodeL l).2
theorem firstR_bad {l : List UInt8} (h : badL l = true) : firstR l = 0 := by unfold firstR; rw [h]; rfl
theorem firstK_bad {l : List UInt8} (h : badL l = true) : firstK l = 0 := by unfold firstK; rw [h]; rfl
theorem ret_pair {r r' : Int} {k k' : Int} (h : r = r') (h' : k = k') : Ending.returned (.tuple #[.int .i32 r, .int .i64 k]) = .returned (.tuple #[.int .i32 r', .int .i64 k']) := by rw [h, h']
theorem nonempty_of {s : ByteArray} (h0 : 0 < s.size) : s.data.toList ≠ [] := by
  intro e
  have h2 := Lib.size_eq s
  rw [e, List.length_nil] at h2
  omega

set_option maxRecDepth 100000 in
set_option maxHeartbeats 1000000 in
theorem first_0 (s : ByteArray) (h0 : 0 < s.size) (w : World) (i1 : (128 : Int) ≤ ((s[0]'h0).toNat : Int)) (i2 : ((s[0]'h0).toNat : Int) < 192 ∨ (248 : Int) ≤ ((s[0]'h0).toNat : Int)) :
    Calls Tryz.prog 75 #[.string s] w fun e w' => e = .returned (.tuple #[.int .i32 0, .int .i64 0]) ∧ Below w.heap.size w w' := by
  have hz0 : (0 : Int) < (s.size : Int) := by omega
  have g := (s[0]'h0).toNat_lt
  rcases i2 with i2 | i2
  · go_enter Tryz.func75, Tryz.ntmps75
    go_wp2
    go_ret2
    exact ⟨rfl, Below.refl _ _⟩
  · go_enter Tryz.func75, Tryz.ntmps75
    go_wp2
    go_ret2
    exact ⟨rfl, Below.refl _ _⟩

set_option maxRecDepth 100000 in
set_option maxHeartbeats 2000000 in
theorem first_1 (s : ByteArray) (hs : s.size ≤ 1000000) (h0 : 0 < s.size) (w : World) (i1 : (0 : Int) ≤ ((s[0]'h0).toNat : Int)) (i2 : ((s[0]'h0).toNat : Int) < 128) :
    Calls Tryz.prog 75 #[.string s] w fun e w' => e = .returned (.tuple #[.int .i32 (firstR s.data.toList), .int .i64 (firstK s.data.toList)]) ∧ Below w.heap.size w w' := by
  have hne := nonempty_of h0
  have hz0 : (0 : Int) < (s.size : Int) := by omega
  have hb0 := byteL_at s 0 h0
  have Hn := Lib.hid (show hdN (byteL s.data.toList 0) = 1 by rw [← hb0]; unfold hdN; repeat' split
                                                              all_goals omega)
  have Hx := Lib.hid (show accL s.data.toList 0 = ((s[0]'h0).toNat : Int) - 0 by
    show ((hdX (byteL s.data.toList 0) : Nat) : Int) = _
    rw [← hb0]; unfold hdX; repeat' split
    all_goals omega)
  have Hs := Lib.hid (Lib.size_eq s)
  clear hb0
  rcases Nat.lt_or_ge s.size 1 with hz | hz
  · omega
  · have hz' : (1 : Int) ≤ (s.size : Int) := by omega
    go_enter Tryz.func75, Tryz.ntmps75
    go_wp2
    go_loop [4, 6] (fun x i => ∃ k : Nat, 1 ≤ k ∧ k ≤ 1 ∧ i = .int .i64 k ∧ x = .int .i64 (accL s.data.toList (k - 1)) ∧ (∀ j, 1 ≤ j → j < k → contL s.data.toList j)) (fun _ i => 1 - (intOf i).toNat)
    case atStart => exact ⟨1, by omega, by omega, rfl, by rw [Nat.sub_self, Hx.out]; simp, fun j h1 h2 => by omega⟩
    case round =>
      obtain ⟨k, hk1, hk2, rfl, rfl, hc⟩ := hrel
      have hbd := acc_bound s.data.toList (k - 1) (fun j h1 h2 => hc j h1 (by omega)) (by rw [Hn.out]; omega)
      rw [Hn.out] at hbd
      have Hc := Lib.hid hc
      clear hc
      rcases Nat.lt_or_ge k 1 with hlt | hge
      · omega
      · obtain rfl : k = 1 := by omega
        obtain ⟨X, hX⟩ : ∃ X, accL s.data.toList (1 - 1) = X := ⟨_, rfl⟩
        rw [hX] at hbd ⊢
        have HX := Lib.hid hX
        obtain ⟨x0, x1, _⟩ := hbd
        have e32 : IntKind.i32.wrap X = X := by rw [IntKind.wrap_i32]; omega
        have hI := fun w => is_any X w
        have hBy := fun w (h : Lib.validRune X = true) => bytes_conv X w h
        clear hX
        cases hv : Lib.validRune X with
        | false =>
          have Hbad := Lib.hid (end_bad s.data.toList hne 1 Hn.out (by rw [HX.out, hv]; simp))
          rw [hv] at hI
          clear hv hBy e32
          go_wp2
          go_quiet ((go_at_call 45; exact Calls.quiet_of_same (hI _)))
          go_wp2
          go_ret2
          exact ⟨ret_pair (firstR_bad Hbad.out).symm (by rw [firstK_bad Hbad.out]; rfl), below_drewN (Below.refl w.heap.size _) _⟩
        | true =>
          have Hv := Lib.hid hv
          have hB := fun w => hBy w hv
          rw [hv] at hI
          rw [← e32] at hI hB
          have hconv : Hid (IntKind.i32.wrap X = X) := e32
          obtain ⟨E, hE⟩ : ∃ E, Lib.encodeRune (IntKind.i32.wrap X) = E := ⟨_, rfl⟩
          rw [hE] at hB
          have hE' : Lib.encodeRune X = E := by rw [← hE, e32]
          have HE := Lib.hid hE'
          clear hv hBy e32 hE hE'
          by_cases heq : E = s.data.toList.take 1
          · have hq : (E == (s.extract 0 1).toList) = true := by rw [Lib.extract_toList, List.drop_zero, Nat.sub_zero, heq]; exact beq_iff_eq.2 rfl
            have hq2 : (!E == (s.extract 0 1).toList) = false := by rw [hq]; rfl
            obtain ⟨g1, g2⟩ := end_good s.data.toList 1 X Hv.out (by rw [HE.out]; exact heq) (by rw [← Hs.out]; exact hz)
            have HR := Lib.hid (show firstR s.data.toList = X by unfold firstR; rw [g1, g2]; simp; omega)
            have HK := Lib.hid (show firstK s.data.toList = 1 by unfold firstK; rw [g1, g2]; rfl)
            clear heq g1 g2
            go_wp2
            go_region_held (fun _ => True) (trivial) (first | (go_at_call 45; refine (hI _).mono ?_; rintro e _ ⟨rfl, rfl⟩) | (go_at_call 99; refine (hB _).mono ?_; rintro e w1 ⟨b, n, rfl, hb1, hcv⟩))
            go_wp2
            go_ret2
            exact ⟨ret_pair HR.out.symm (by rw [HK.out]; rfl), (Below.refl w.heap.size _).drew.trans hb1⟩
          · have hq : (E == (s.extract 0 1).toList) = false := by
              rw [Lib.extract_toList, List.drop_zero, Nat.sub_zero]
              exact beq_eq_false_iff_ne.2 heq
            have hq2 : (!E == (s.extract 0 1).toList) = true := by rw [hq]; rfl
            have Hbad := Lib.hid (end_bad s.data.toList hne 1 Hn.out (by rw [HX.out, HE.out]; exact fun h => heq h.2))
            clear heq
            go_wp2
            go_region_held (fun _ => True) (trivial) (first | (go_at_call 45; refine (hI _).mono ?_; rintro e _ ⟨rfl, rfl⟩) | (go_at_call 99; refine (hB _).mono ?_; rintro e w1 ⟨b, n, rfl, hb1, hcv⟩))
            go_wp2
            go_ret2
            exact ⟨ret_pair (firstR_bad Hbad.out).symm (by rw [firstK_bad Hbad.out]; rfl), (Below.refl w.heap.size _).drew.trans hb1⟩

set_option maxRecDepth 100000 in
set_option maxHeartbeats 2000000 in
theorem first_2 (s : ByteArray) (hs : s.size ≤ 1000000) (h0 : 0 < s.size) (w : World) (i1 : (192 : Int) ≤ ((s[0]'h0).toNat : Int)) (i2 : ((s[0]'h0).toNat : Int) < 224) :
    Calls Tryz.prog 75 #[.string s] w fun e w' => e = .returned (.tuple #[.int .i32 (firstR s.data.toList), .int .i64 (firstK s.data.toList)]) ∧ Below w.heap.size w w' := by
  have hne := nonempty_of h0
  have hz0 : (0 : Int) < (s.size : Int) := by omega
  have hb0 := byteL_at s 0 h0
  have Hn := Lib.hid (show hdN (byteL s.data.toList 0) = 2 by rw [← hb0]; unfold hdN; repeat' split
                                                              all_goals omega)
  have Hx := Lib.hid (show accL s.data.toList 0 = ((s[0]'h0).toNat : Int) - 192 by
    show ((hdX (byteL s.data.toList 0) : Nat) : Int) = _
    rw [← hb0]; unfold hdX; repeat' split
    all_goals omega)
  have Hs := Lib.hid (Lib.size_eq s)
  clear hb0
  rcases Nat.lt_or_ge s.size 2 with hz | hz
  · have hbad := bad_first s.data.toList hne (.inr (.inl (by rw [Hn.out, ← Hs.out]; exact hz)))
    rw [firstR_bad hbad, firstK_bad hbad]
    clear hbad
    have hz' : (s.size : Int) < 2 := by omega
    go_enter Tryz.func75, Tryz.ntmps75
    go_wp2
    go_ret2
    exact ⟨rfl, Below.refl _ _⟩
  · have hz' : (2 : Int) ≤ (s.size : Int) := by omega
    go_enter Tryz.func75, Tryz.ntmps75
    go_wp2
    go_loop [4, 6] (fun x i => ∃ k : Nat, 1 ≤ k ∧ k ≤ 2 ∧ i = .int .i64 k ∧ x = .int .i64 (accL s.data.toList (k - 1)) ∧ (∀ j, 1 ≤ j → j < k → contL s.data.toList j)) (fun _ i => 2 - (intOf i).toNat)
    case atStart => exact ⟨1, by omega, by omega, rfl, by rw [Nat.sub_self, Hx.out], fun j h1 h2 => by omega⟩
    case round =>
      obtain ⟨k, hk1, hk2, rfl, rfl, hc⟩ := hrel
      have hbd := acc_bound s.data.toList (k - 1) (fun j h1 h2 => hc j h1 (by omega)) (by rw [Hn.out]; omega)
      rw [Hn.out] at hbd
      have Hc := Lib.hid hc
      clear hc
      rcases Nat.lt_or_ge k 2 with hlt | hge
      · have hks : k < s.size := by omega
        have hks' : (k : Int) < (s.size : Int) := by omega
        have Hb := Lib.hid (byteL_at s k hks)
        have hbd2 := hbd.2.2 (by omega)
        obtain ⟨x0, x1, _⟩ := hbd
        have g := (s[k]'hks).toNat_lt
        by_cases hcont : contL s.data.toList k
        · have j1 : (128 : Int) ≤ ((s[k]'hks).toNat : Int) := by have := Hb.out; have := hcont.1; omega
          have j2 : ((s[k]'hks).toNat : Int) ≤ 191 := by have := Hb.out; have := hcont.2; omega
          have hnext : accL s.data.toList k = 64 * accL s.data.toList (k - 1) + ((s[k]'hks).toNat : Int) - 128 := by
            rw [Hb.out]
            obtain ⟨m, rfl⟩ : ∃ m, k = m + 1 := ⟨k - 1, by omega⟩
            rfl
          have Hnext := Lib.hid hnext
          have Hcont := Lib.hid hcont
          clear hnext hcont
          go_wp2
          go_round
          case rel =>
            refine ⟨k + 1, by omega, by omega, by go_num, ?_, fun j h1 h2 => ?_⟩
            · rw [Nat.add_sub_cancel, Hnext.out]
            · rcases Nat.lt_or_ge j k with h | h
              · exact Hc.out j h1 h
              · obtain rfl : j = k := by omega
                exact Hcont.out
          case measure => simp [intOf]; omega
        · have hbad := bad_first s.data.toList hne (.inr (.inr ⟨k, hk1, by rw [Hn.out]; exact hlt, hcont⟩))
          have Hbad := Lib.hid hbad
          have hj : ((s[k]'hks).toNat : Int) < 128 ∨ (191 : Int) < ((s[k]'hks).toNat : Int) := by
            have := Hb.out
            unfold contL at hcont
            omega
          clear hbad hcont
          rcases hj with hj | hj
          · go_wp2
            go_ret2
            exact ⟨ret_pair (firstR_bad Hbad.out).symm (by rw [firstK_bad Hbad.out]; rfl), Below.refl _ _⟩
          · have hj' : (128 : Int) ≤ ((s[k]'hks).toNat : Int) := by omega
            go_wp2
            go_ret2
            exact ⟨ret_pair (firstR_bad Hbad.out).symm (by rw [firstK_bad Hbad.out]; rfl), Below.refl _ _⟩
      · obtain rfl : k = 2 := by omega
        obtain ⟨X, hX⟩ : ∃ X, accL s.data.toList (2 - 1) = X := ⟨_, rfl⟩
        rw [hX] at hbd ⊢
        have HX := Lib.hid hX
        obtain ⟨x0, x1, _⟩ := hbd
        have e32 : IntKind.i32.wrap X = X := by rw [IntKind.wrap_i32]; omega
        have hI := fun w => is_any X w
        have hBy := fun w (h : Lib.validRune X = true) => bytes_conv X w h
        clear hX
        cases hv : Lib.validRune X with
        | false =>
          have Hbad := Lib.hid (end_bad s.data.toList hne 2 Hn.out (by rw [HX.out, hv]; simp))
          rw [hv] at hI
          clear hv hBy e32
          go_wp2
          go_quiet ((go_at_call 45; exact Calls.quiet_of_same (hI _)))
          go_wp2
          go_ret2
          exact ⟨ret_pair (firstR_bad Hbad.out).symm (by rw [firstK_bad Hbad.out]; rfl), below_drewN (Below.refl w.heap.size _) _⟩
        | true =>
          have Hv := Lib.hid hv
          have hB := fun w => hBy w hv
          rw [hv] at hI
          rw [← e32] at hI hB
          have hconv : Hid (IntKind.i32.wrap X = X) := e32
          obtain ⟨E, hE⟩ : ∃ E, Lib.encodeRune (IntKind.i32.wrap X) = E := ⟨_, rfl⟩
          rw [hE] at hB
          have hE' : Lib.encodeRune X = E := by rw [← hE, e32]
          have HE := Lib.hid hE'
          clear hv hBy e32 hE hE'
          by_cases heq : E = s.data.toList.take 2
          · have hq : (E == (s.extract 0 2).toList) = true := by rw [Lib.extract_toList, List.drop_zero, Nat.sub_zero, heq]; exact beq_iff_eq.2 rfl
            have hq2 : (!E == (s.extract 0 2).toList) = false := by rw [hq]; rfl
            obtain ⟨g1, g2⟩ := end_good s.data.toList 2 X Hv.out (by rw [HE.out]; exact heq) (by rw [← Hs.out]; exact hz)
            have HR := Lib.hid (show firstR s.data.toList = X by unfold firstR; rw [g1, g2]; simp; omega)
            have HK := Lib.hid (show firstK s.data.toList = 2 by unfold firstK; rw [g1, g2]; rfl)
            clear heq g1 g2
            go_wp2
            go_region_held (fun _ => True) (trivial) (first | (go_at_call 45; refine (hI _).mono ?_; rintro e _ ⟨rfl, rfl⟩) | (go_at_call 99; refine (hB _).mono ?_; rintro e w1 ⟨b, n, rfl, hb1, hcv⟩))
            go_wp2
            go_ret2
            exact ⟨ret_pair HR.out.symm (by rw [HK.out]; rfl), (Below.refl w.heap.size _).drew.trans hb1⟩
          · have hq : (E == (s.extract 0 2).toList) = false := by
              rw [Lib.extract_toList, List.drop_zero, Nat.sub_zero]
              exact beq_eq_false_iff_ne.2 heq
            have hq2 : (!E == (s.extract 0 2).toList) = true := by rw [hq]; rfl
            have Hbad := Lib.hid (end_bad s.data.toList hne 2 Hn.out (by rw [HX.out, HE.out]; exact fun h => heq h.2))
            clear heq
            go_wp2
            go_region_held (fun _ => True) (trivial) (first | (go_at_call 45; refine (hI _).mono ?_; rintro e _ ⟨rfl, rfl⟩) | (go_at_call 99; refine (hB _).mono ?_; rintro e w1 ⟨b, n, rfl, hb1, hcv⟩))
            go_wp2
            go_ret2
            exact ⟨ret_pair (firstR_bad Hbad.out).symm (by rw [firstK_bad Hbad.out]; rfl), (Below.refl w.heap.size _).drew.trans hb1⟩

set_option maxRecDepth 100000 in
set_option maxHeartbeats 2000000 in
theorem first_3 (s : ByteArray) (hs : s.size ≤ 1000000) (h0 : 0 < s.size) (w : World) (i1 : (224 : Int) ≤ ((s[0]'h0).toNat : Int)) (i2 : ((s[0]'h0).toNat : Int) < 240) :
    Calls Tryz.prog 75 #[.string s] w fun e w' => e = .returned (.tuple #[.int .i32 (firstR s.data.toList), .int .i64 (firstK s.data.toList)]) ∧ Below w.heap.size w w' := by
  have hne := nonempty_of h0
  have hz0 : (0 : Int) < (s.size : Int) := by omega
  have hb0 := byteL_at s 0 h0
  have Hn := Lib.hid (show hdN (byteL s.data.toList 0) = 3 by rw [← hb0]; unfold hdN; repeat' split
                                                              all_goals omega)
  have Hx := Lib.hid (show accL s.data.toList 0 = ((s[0]'h0).toNat : Int) - 224 by
    show ((hdX (byteL s.data.toList 0) : Nat) : Int) = _
    rw [← hb0]; unfold hdX; repeat' split
    all_goals omega)
  have Hs := Lib.hid (Lib.size_eq s)
  clear hb0
  rcases Nat.lt_or_ge s.size 3 with hz | hz
  · have hbad := bad_first s.data.toList hne (.inr (.inl (by rw [Hn.out, ← Hs.out]; exact hz)))
    rw [firstR_bad hbad, firstK_bad hbad]
    clear hbad
    have hz' : (s.size : Int) < 3 := by omega
    go_enter Tryz.func75, Tryz.ntmps75
    go_wp2
    go_ret2
    exact ⟨rfl, Below.refl _ _⟩
  · have hz' : (3 : Int) ≤ (s.size : Int) := by omega
    go_enter Tryz.func75, Tryz.ntmps75
    go_wp2
    go_loop [4, 6] (fun x i => ∃ k : Nat, 1 ≤ k ∧ k ≤ 3 ∧ i = .int .i64 k ∧ x = .int .i64 (accL s.data.toList (k - 1)) ∧ (∀ j, 1 ≤ j → j < k → contL s.data.toList j)) (fun _ i => 3 - (intOf i).toNat)
    case atStart => exact ⟨1, by omega, by omega, rfl, by rw [Nat.sub_self, Hx.out], fun j h1 h2 => by omega⟩
    case round =>
      obtain ⟨k, hk1, hk2, rfl, rfl, hc⟩ := hrel
      have hbd := acc_bound s.data.toList (k - 1) (fun j h1 h2 => hc j h1 (by omega)) (by rw [Hn.out]; omega)
      rw [Hn.out] at hbd
      have Hc := Lib.hid hc
      clear hc
      rcases Nat.lt_or_ge k 3 with hlt | hge
      · have hks : k < s.size := by omega
        have hks' : (k : Int) < (s.size : Int) := by omega
        have Hb := Lib.hid (byteL_at s k hks)
        have hbd2 := hbd.2.2 (by omega)
        obtain ⟨x0, x1, _⟩ := hbd
        have g := (s[k]'hks).toNat_lt
        by_cases hcont : contL s.data.toList k
        · have j1 : (128 : Int) ≤ ((s[k]'hks).toNat : Int) := by have := Hb.out; have := hcont.1; omega
          have j2 : ((s[k]'hks).toNat : Int) ≤ 191 := by have := Hb.out; have := hcont.2; omega
          have hnext : accL s.data.toList k = 64 * accL s.data.toList (k - 1) + ((s[k]'hks).toNat : Int) - 128 := by
            rw [Hb.out]
            obtain ⟨m, rfl⟩ : ∃ m, k = m + 1 := ⟨k - 1, by omega⟩
            rfl
          have Hnext := Lib.hid hnext
          have Hcont := Lib.hid hcont
          clear hnext hcont
          go_wp2
          go_round
          case rel =>
            refine ⟨k + 1, by omega, by omega, by go_num, ?_, fun j h1 h2 => ?_⟩
            · rw [Nat.add_sub_cancel, Hnext.out]
            · rcases Nat.lt_or_ge j k with h | h
              · exact Hc.out j h1 h
              · obtain rfl : j = k := by omega
                exact Hcont.out
          case measure => simp [intOf]; omega
        · have hbad := bad_first s.data.toList hne (.inr (.inr ⟨k, hk1, by rw [Hn.out]; exact hlt, hcont⟩))
          have Hbad := Lib.hid hbad
          have hj : ((s[k]'hks).toNat : Int) < 128 ∨ (191 : Int) < ((s[k]'hks).toNat : Int) := by
            have := Hb.out
            unfold contL at hcont
            omega
          clear hbad hcont
          rcases hj with hj | hj
          · go_wp2
            go_ret2
            exact ⟨ret_pair (firstR_bad Hbad.out).symm (by rw [firstK_bad Hbad.out]; rfl), Below.refl _ _⟩
          · have hj' : (128 : Int) ≤ ((s[k]'hks).toNat : Int) := by omega
            go_wp2
            go_ret2
            exact ⟨ret_pair (firstR_bad Hbad.out).symm (by rw [firstK_bad Hbad.out]; rfl), Below.refl _ _⟩
      · obtain rfl : k = 3 := by omega
        obtain ⟨X, hX⟩ : ∃ X, accL s.data.toList (3 - 1) = X := ⟨_, rfl⟩
        rw [hX] at hbd ⊢
        have HX := Lib.hid hX
        obtain ⟨x0, x1, _⟩ := hbd
        have e32 : IntKind.i32.wrap X = X := by rw [IntKind.wrap_i32]; omega
        have hI := fun w => is_any X w
        have hBy := fun w (h : Lib.validRune X = true) => bytes_conv X w h
        clear hX
        cases hv : Lib.validRune X with
        | false =>
          have Hbad := Lib.hid (end_bad s.data.toList hne 3 Hn.out (by rw [HX.out, hv]; simp))
          rw [hv] at hI
          clear hv hBy e32
          go_wp2
          go_quiet ((go_at_call 45; exact Calls.quiet_of_same (hI _)))
          go_wp2
          go_ret2
          exact ⟨ret_pair (firstR_bad Hbad.out).symm (by rw [firstK_bad Hbad.out]; rfl), below_drewN (Below.refl w.heap.size _) _⟩
        | true =>
          have Hv := Lib.hid hv
          have hB := fun w => hBy w hv
          rw [hv] at hI
          rw [← e32] at hI hB
          have hconv : Hid (IntKind.i32.wrap X = X) := e32
          obtain ⟨E, hE⟩ : ∃ E, Lib.encodeRune (IntKind.i32.wrap X) = E := ⟨_, rfl⟩
          rw [hE] at hB
          have hE' : Lib.encodeRune X = E := by rw [← hE, e32]
          have HE := Lib.hid hE'
          clear hv hBy e32 hE hE'
          by_cases heq : E = s.data.toList.take 3
          · have hq : (E == (s.extract 0 3).toList) = true := by rw [Lib.extract_toList, List.drop_zero, Nat.sub_zero, heq]; exact beq_iff_eq.2 rfl
            have hq2 : (!E == (s.extract 0 3).toList) = false := by rw [hq]; rfl
            obtain ⟨g1, g2⟩ := end_good s.data.toList 3 X Hv.out (by rw [HE.out]; exact heq) (by rw [← Hs.out]; exact hz)
            have HR := Lib.hid (show firstR s.data.toList = X by unfold firstR; rw [g1, g2]; simp; omega)
            have HK := Lib.hid (show firstK s.data.toList = 3 by unfold firstK; rw [g1, g2]; rfl)
            clear heq g1 g2
            go_wp2
            go_region_held (fun _ => True) (trivial) (first | (go_at_call 45; refine (hI _).mono ?_; rintro e _ ⟨rfl, rfl⟩) | (go_at_call 99; refine (hB _).mono ?_; rintro e w1 ⟨b, n, rfl, hb1, hcv⟩))
            go_wp2
            go_ret2
            exact ⟨ret_pair HR.out.symm (by rw [HK.out]; rfl), (Below.refl w.heap.size _).drew.trans hb1⟩
          · have hq : (E == (s.extract 0 3).toList) = false := by
              rw [Lib.extract_toList, List.drop_zero, Nat.sub_zero]
              exact beq_eq_false_iff_ne.2 heq
            have hq2 : (!E == (s.extract 0 3).toList) = true := by rw [hq]; rfl
            have Hbad := Lib.hid (end_bad s.data.toList hne 3 Hn.out (by rw [HX.out, HE.out]; exact fun h => heq h.2))
            clear heq
            go_wp2
            go_region_held (fun _ => True) (trivial) (first | (go_at_call 45; refine (hI _).mono ?_; rintro e _ ⟨rfl, rfl⟩) | (go_at_call 99; refine (hB _).mono ?_; rintro e w1 ⟨b, n, rfl, hb1, hcv⟩))
            go_wp2
            go_ret2
            exact ⟨ret_pair (firstR_bad Hbad.out).symm (by rw [firstK_bad Hbad.out]; rfl), (Below.refl w.heap.size _).drew.trans hb1⟩

set_option maxRecDepth 100000 in
set_option maxHeartbeats 2000000 in
theorem first_4 (s : ByteArray) (hs : s.size ≤ 1000000) (h0 : 0 < s.size) (w : World) (i1 : (240 : Int) ≤ ((s[0]'h0).toNat : Int)) (i2 : ((s[0]'h0).toNat : Int) < 248) :
    Calls Tryz.prog 75 #[.string s] w fun e w' => e = .returned (.tuple #[.int .i32 (firstR s.data.toList), .int .i64 (firstK s.data.toList)]) ∧ Below w.heap.size w w' := by
  have hne := nonempty_of h0
  have hz0 : (0 : Int) < (s.size : Int) := by omega
  have hb0 := byteL_at s 0 h0
  have Hn := Lib.hid (show hdN (byteL s.data.toList 0) = 4 by rw [← hb0]; unfold hdN; repeat' split
                                                              all_goals omega)
  have Hx := Lib.hid (show accL s.data.toList 0 = ((s[0]'h0).toNat : Int) - 240 by
    show ((hdX (byteL s.data.toList 0) : Nat) : Int) = _
    rw [← hb0]; unfold hdX; repeat' split
    all_goals omega)
  have Hs := Lib.hid (Lib.size_eq s)
  clear hb0
  rcases Nat.lt_or_ge s.size 4 with hz | hz
  · have hbad := bad_first s.data.toList hne (.inr (.inl (by rw [Hn.out, ← Hs.out]; exact hz)))
    rw [firstR_bad hbad, firstK_bad hbad]
    clear hbad
    have hz' : (s.size : Int) < 4 := by omega
    go_enter Tryz.func75, Tryz.ntmps75
    go_wp2
    go_ret2
    exact ⟨rfl, Below.refl _ _⟩
  · have hz' : (4 : Int) ≤ (s.size : Int) := by omega
    go_enter Tryz.func75, Tryz.ntmps75
    go_wp2
    go_loop [4, 6] (fun x i => ∃ k : Nat, 1 ≤ k ∧ k ≤ 4 ∧ i = .int .i64 k ∧ x = .int .i64 (accL s.data.toList (k - 1)) ∧ (∀ j, 1 ≤ j → j < k → contL s.data.toList j)) (fun _ i => 4 - (intOf i).toNat)
    case atStart => exact ⟨1, by omega, by omega, rfl, by rw [Nat.sub_self, Hx.out], fun j h1 h2 => by omega⟩
    case round =>
      obtain ⟨k, hk1, hk2, rfl, rfl, hc⟩ := hrel
      have hbd := acc_bound s.data.toList (k - 1) (fun j h1 h2 => hc j h1 (by omega)) (by rw [Hn.out]; omega)
      rw [Hn.out] at hbd
      have Hc := Lib.hid hc
      clear hc
      rcases Nat.lt_or_ge k 4 with hlt | hge
      · have hks : k < s.size := by omega
        have hks' : (k : Int) < (s.size : Int) := by omega
        have Hb := Lib.hid (byteL_at s k hks)
        have hbd2 := hbd.2.2 (by omega)
        obtain ⟨x0, x1, _⟩ := hbd
        have g := (s[k]'hks).toNat_lt
        by_cases hcont : contL s.data.toList k
        · have j1 : (128 : Int) ≤ ((s[k]'hks).toNat : Int) := by have := Hb.out; have := hcont.1; omega
          have j2 : ((s[k]'hks).toNat : Int) ≤ 191 := by have := Hb.out; have := hcont.2; omega
          have hnext : accL s.data.toList k = 64 * accL s.data.toList (k - 1) + ((s[k]'hks).toNat : Int) - 128 := by
            rw [Hb.out]
            obtain ⟨m, rfl⟩ : ∃ m, k = m + 1 := ⟨k - 1, by omega⟩
            rfl
          have Hnext := Lib.hid hnext
          have Hcont := Lib.hid hcont
          clear hnext hcont
          go_wp2
          go_round
          case rel =>
            refine ⟨k + 1, by omega, by omega, by go_num, ?_, fun j h1 h2 => ?_⟩
            · rw [Nat.add_sub_cancel, Hnext.out]
            · rcases Nat.lt_or_ge j k with h | h
              · exact Hc.out j h1 h
              · obtain rfl : j = k := by omega
                exact Hcont.out
          case measure => simp [intOf]; omega
        · have hbad := bad_first s.data.toList hne (.inr (.inr ⟨k, hk1, by rw [Hn.out]; exact hlt, hcont⟩))
          have Hbad := Lib.hid hbad
          have hj : ((s[k]'hks).toNat : Int) < 128 ∨ (191 : Int) < ((s[k]'hks).toNat : Int) := by
            have := Hb.out
            unfold contL at hcont
            omega
          clear hbad hcont
          rcases hj with hj | hj
          · go_wp2
            go_ret2
            exact ⟨ret_pair (firstR_bad Hbad.out).symm (by rw [firstK_bad Hbad.out]; rfl), Below.refl _ _⟩
          · have hj' : (128 : Int) ≤ ((s[k]'hks).toNat : Int) := by omega
            go_wp2
            go_ret2
            exact ⟨ret_pair (firstR_bad Hbad.out).symm (by rw [firstK_bad Hbad.out]; rfl), Below.refl _ _⟩
      · obtain rfl : k = 4 := by omega
        obtain ⟨X, hX⟩ : ∃ X, accL s.data.toList (4 - 1) = X := ⟨_, rfl⟩
        rw [hX] at hbd ⊢
        have HX := Lib.hid hX
        obtain ⟨x0, x1, _⟩ := hbd
        have e32 : IntKind.i32.wrap X = X := by rw [IntKind.wrap_i32]; omega
        have hI := fun w => is_any X w
        have hBy := fun w (h : Lib.validRune X = true) => bytes_conv X w h
        clear hX
        cases hv : Lib.validRune X with
        | false =>
          have Hbad := Lib.hid (end_bad s.data.toList hne 4 Hn.out (by rw [HX.out, hv]; simp))
          rw [hv] at hI
          clear hv hBy e32
          go_wp2
          go_quiet ((go_at_call 45; exact Calls.quiet_of_same (hI _)))
          go_wp2
          go_ret2
          exact ⟨ret_pair (firstR_bad Hbad.out).symm (by rw [firstK_bad Hbad.out]; rfl), below_drewN (Below.refl w.heap.size _) _⟩
        | true =>
          have Hv := Lib.hid hv
          have hB := fun w => hBy w hv
          rw [hv] at hI
          rw [← e32] at hI hB
          have hconv : Hid (IntKind.i32.wrap X = X) := e32
          obtain ⟨E, hE⟩ : ∃ E, Lib.encodeRune (IntKind.i32.wrap X) = E := ⟨_, rfl⟩
          rw [hE] at hB
          have hE' : Lib.encodeRune X = E := by rw [← hE, e32]
          have HE := Lib.hid hE'
          clear hv hBy e32 hE hE'
          by_cases heq : E = s.data.toList.take 4
          · have hq : (E == (s.extract 0 4).toList) = true := by rw [Lib.extract_toList, List.drop_zero, Nat.sub_zero, heq]; exact beq_iff_eq.2 rfl
            have hq2 : (!E == (s.extract 0 4).toList) = false := by rw [hq]; rfl
            obtain ⟨g1, g2⟩ := end_good s.data.toList 4 X Hv.out (by rw [HE.out]; exact heq) (by rw [← Hs.out]; exact hz)
            have HR := Lib.hid (show firstR s.data.toList = X by unfold firstR; rw [g1, g2]; simp; omega)
            have HK := Lib.hid (show firstK s.data.toList = 4 by unfold firstK; rw [g1, g2]; rfl)
            clear heq g1 g2
            go_wp2
            go_region_held (fun _ => True) (trivial) (first | (go_at_call 45; refine (hI _).mono ?_; rintro e _ ⟨rfl, rfl⟩) | (go_at_call 99; refine (hB _).mono ?_; rintro e w1 ⟨b, n, rfl, hb1, hcv⟩))
            go_wp2
            go_ret2
            exact ⟨ret_pair HR.out.symm (by rw [HK.out]; rfl), (Below.refl w.heap.size _).drew.trans hb1⟩
          · have hq : (E == (s.extract 0 4).toList) = false := by
              rw [Lib.extract_toList, List.drop_zero, Nat.sub_zero]
              exact beq_eq_false_iff_ne.2 heq
            have hq2 : (!E == (s.extract 0 4).toList) = true := by rw [hq]; rfl
            have Hbad := Lib.hid (end_bad s.data.toList hne 4 Hn.out (by rw [HX.out, HE.out]; exact fun h => heq h.2))
            clear heq
            go_wp2
            go_region_held (fun _ => True) (trivial) (first | (go_at_call 45; refine (hI _).mono ?_; rintro e _ ⟨rfl, rfl⟩) | (go_at_call 99; refine (hB _).mono ?_; rintro e w1 ⟨b, n, rfl, hb1, hcv⟩))
            go_wp2
            go_ret2
            exact ⟨ret_pair (firstR_bad Hbad.out).symm (by rw [firstK_bad Hbad.out]; rfl), (Below.refl w.heap.size _).drew.trans hb1⟩

theorem first_any (s : ByteArray) (hs : s.size ≤ 1000000) (h0 : 0 < s.size) (w : World) :
    Calls Tryz.prog 75 #[.string s] w fun e w' => e = .returned (.tuple #[.int .i32 (firstR s.data.toList), .int .i64 (firstK s.data.toList)]) ∧ Below w.heap.size w w' := by
  have hb0 := byteL_at s 0 h0
  have g := (s[0]'h0).toNat_lt
  by_cases c1 : (s[0]'h0).toNat < 128
  · exact first_1 s hs h0 w (by omega) (by omega)
  · by_cases c2 : (s[0]'h0).toNat < 192 ∨ 248 ≤ (s[0]'h0).toNat
    · have hbad := bad_first s.data.toList (nonempty_of h0) (.inl (by
        rw [← hb0]; unfold hdN; repeat' split
        all_goals omega))
      rw [firstR_bad hbad, firstK_bad hbad]
      exact first_0 s h0 w (by omega) (by omega)
    · by_cases c3 : (s[0]'h0).toNat < 224
      · exact first_2 s hs h0 w (by omega) (by omega)
      · by_cases c4 : (s[0]'h0).toNat < 240
        · exact first_3 s hs h0 w (by omega) (by omega)
        · exact first_4 s hs h0 w (by omega) (by omega)
end Go.Proofs.YthekkjfaaedamaaGreatDoor
