/- feeds: size, move, leave. -/
import Derived.Test.YtpldalmodcmfaaaDoorFeeds
import Derived.Deep.RegionHeld
namespace Go.Proofs.YtpldalmodcmfaaaDoor
open Go.RowKit

set_option maxRecDepth 100000 in
set_option maxHeartbeats 1000000 in
theorem fs_size {S : Nat → Prop} {N B : Nat} {a0 a1 a2 : Value} {ah bh : List Int} {w : World} (h : Fs S N B a0 a1 a2 ah bh w) (hl : ah.length + bh.length ≤ 1000000) :
    Calls Tryd.prog 35 #[.pointer (some ⟨B, 3, none⟩)] w fun e w' => e = .returned (.int .i64 (ah.length + bh.length : Nat)) ∧ ∃ q, w' = w.drewN q := by
  have h1 := fun q => (fsizeF (h.drewN q)).mono (fun e w' (p : _ ∧ _) => (⟨p.1, p.2.symm⟩ : e = _ ∧ w' = _))
  have h2 := fun q => (fsizeK (h.drewN q)).mono (fun e w' (p : _ ∧ _) => (⟨p.1, p.2.symm⟩ : e = _ ∧ w' = _))
  obtain ⟨n, hn⟩ : ∃ n, ah.length = n := ⟨_, rfl⟩
  obtain ⟨m, hm⟩ : ∃ m, bh.length = m := ⟨_, rfl⟩
  rw [hn] at h1 hl ⊢
  rw [hm] at h2 hl ⊢
  clear hn hm h
  have e1 : IntKind.i64.wrap ((n : Int) + (m : Int)) = ((n + m : Nat) : Int) := by rw [show ((n : Int) + (m : Int)) = ((n + m : Nat) : Int) by omega]; exact IntWalk.i64_in _ (by omega)
  go_enter Tryd.func35, Tryd.ntmps35
  go_wp2
  go_quiet ((first | (go_at_call 53; exact Calls.quiet_of_same (h1 _)) | (go_at_call 54; exact Calls.quiet_of_same (h2 _))))
  go_wp2
  go_ret
  exact ⟨rfl, _, rfl⟩

theorem take_next' (P : List Int) (k : Nat) (h : k < P.length) : P.take (k + 1) = P.take k ++ [P.getD k 0] := by
  rw [List.take_succ_eq_append_getElem h]; simp [List.getD, h]
theorem backs_next (size : Int) (P : List Int) (k : Nat) (h : k < P.length) : backs size (P.drop k) = backs size (P.drop (k + 1)) ++ [size - P.getD k 0] := by
  unfold backs
  rw [List.drop_eq_getElem_cons h, List.map_cons, List.reverse_cons]
  simp [List.getD, h]
theorem mem_take_lt {P : List Int} (hP : P.Pairwise (· < ·)) (k : Nat) (m : Int) (h : k < P.length) (hk : P.getD k 0 < m) : ∀ p ∈ P.take (k + 1), p < m := by
  intro p hp
  rw [take_next' P k h] at hp
  rcases List.mem_append.1 hp with h1 | h1
  · have h2 : (P.take (k + 1)).Pairwise (· < ·) := hP.sublist (List.take_sublist _ _)
    rw [take_next' P k h, List.pairwise_append] at h2
    have := h2.2.2 p h1 _ (List.mem_singleton.2 rfl)
    omega
  · rw [List.mem_singleton.1 h1]; exact hk
theorem mem_drop_ge {P : List Int} (hP : P.Pairwise (· < ·)) (k : Nat) (m : Int) (h : k < P.length) (hk : m ≤ P.getD k 0) : ∀ p ∈ P.drop k, m ≤ p := by
  intro p hp
  have h2 : (P.drop k).Pairwise (· < ·) := hP.sublist (List.drop_sublist _ _)
  rw [List.drop_eq_getElem_cons h] at hp h2
  have e : P.getD k 0 = P[k] := by simp [List.getD, h]
  rcases List.mem_cons.1 hp with h1 | h1
  · omega
  · have := List.rel_of_pairwise_cons h2 h1
    omega

/-- What move leaves: all ahead of the place on the one stack, all others on the other one. -/
def MovePost (S : Nat → Prop) (N B : Nat) (a0 a1 a2 : Value) (P : List Int) (at' size : Int) (w : World) (e : Ending) (w' : World) : Prop :=
  e = .returned (.tuple #[]) ∧ ∃ k, Fs S N B a0 a1 a2 (P.take k) (backs size (P.drop k)) w' ∧ Keep S N w w' ∧ (∀ p ∈ P.take k, p < at') ∧ (∀ p ∈ P.drop k, at' ≤ p)

set_option maxRecDepth 100000 in
set_option maxHeartbeats 4000000 in
theorem fs_move {S : Nat → Prop} {N B : Nat} {a0 a1 a2 : Value} (P : List Int) (k0 : Nat) (at' size : Int) (w : World) (hk0 : k0 ≤ P.length) (hl : P.length ≤ 800000) (hP : P.Pairwise (· < ·)) (hr : ∀ p ∈ P, 0 ≤ p ∧ p < size) (hs : size ≤ 1000000)
    (h : Fs S N B a0 a1 a2 (P.take k0) (backs size (P.drop k0)) w) :
    Calls Tryd.prog 60 #[.pointer (some ⟨B, 3, none⟩), .int .i64 at', .int .i64 size] w (MovePost S N B a0 a1 a2 P at' size w) := by
  have HP := Lib.hid hP
  have hrk : ∀ k, k < P.length → 0 ≤ P.getD k 0 ∧ P.getD k 0 < size := fun k hk => hr _ (by simp [List.getD, hk])
  have Hrk := Lib.hid hrk
  have H0 := Lib.hid h
  clear hP hr hrk h
  go_enter Tryd.func60, Tryd.ntmps60
  go_wp2
  go_loopg [] k0 (fun k wr => k ≤ P.length ∧ Fs S N B a0 a1 a2 (P.take k) (backs size (P.drop k)) wr ∧ Keep S N w wr)
  case atStart => exact ⟨hk0, H0.out, Keep.refl _ _ _⟩
  case round =>
    clear hk0 H0
    obtain ⟨hk, hF, hK⟩ := hrel
    have HF := Lib.hid hF
    have HK := Lib.hid hK
    clear hF hK
    rcases Nat.eq_zero_or_pos gk with hk0' | hkp
    · subst hk0'
      have hsz := fsizeF HF.out
      have Hbef : Hid (∀ p ∈ P.take 0, p < at') := by intro p hp; simp at hp
      rw [List.take_zero, List.length_nil] at hsz
      go_wp2_with (go_at_call 53; refine hsz.mono ?_; clear hsz; rintro e _ ⟨rfl, rfl⟩)
      go_loopg [] (P.length - 0) (fun g wr => ∃ j, j ≤ P.length ∧ g = P.length - j ∧ Fs S N B a0 a1 a2 (P.take j) (backs size (P.drop j)) wr ∧ Keep S N w wr ∧ ∀ p ∈ P.take j, p < at')
      case atStart => exact ⟨0, by omega, rfl, HF.out, HK.out, Hbef.out⟩
      case round =>
        clear Hbef
        obtain ⟨j2, hj, hg, hF2, hK2, hbef⟩ := hrel
        have HG := Lib.hid hg
        have HBef := Lib.hid hbef
        have HK2 := Lib.hid hK2
        have HF2 := Lib.hid hF2
        clear hg hbef hK2 hF2
        rcases Nat.lt_or_ge j2 P.length with hjl | hje
        · obtain ⟨y, hy⟩ : ∃ y, P.getD j2 0 = y := ⟨_, rfl⟩
          have hF3 := HF2.out
          rw [backs_next size P j2 hjl, hy] at hF3
          have hb2 := Hrk.out j2 hjl
          rw [hy] at hb2
          have hsz2 := fsizeK hF3
          have htop2 := ftopK hF3
          have hlen : (backs size (P.drop (j2 + 1)) ++ [size - y]).length = P.length - j2 := by rw [← hy, ← backs_next size P j2 hjl, backs_length, List.length_drop]
          rw [hlen] at hsz2
          have hlt3 : (0 : Int) < ((P.length - j2 : Nat) : Int) := by omega
          have e1 : IntKind.i64.wrap (size - (size - y)) = y := by rw [show size - (size - y) = y by omega]; exact IntWalk.i64_in _ (by omega)
          have hpopB : ∀ n, Calls Tryd.prog 63 #[.pointer (some ⟨B, 4, none⟩)] (wr.drewN n) fun e w' => e = .returned (.int .i64 (size - y)) ∧ Fs S N B a0 a1 a2 (P.take j2) (backs size (P.drop (j2 + 1))) w' ∧ Keep S N (wr.drewN n) w' := fun n => fpopK (hF3.drewN n)
          by_cases hya : y < at'
          · have hlt4 : size - (size - y) < at' := by omega
            have hbn : ∀ p ∈ P.take (j2 + 1), p < at' := mem_take_lt HP.out j2 at' hjl (by rw [hy]; exact hya)
            have Hbn := Lib.hid hbn
            have hFn : ∀ wx, Fs S N B a0 a1 a2 (P.take j2 ++ [y]) (backs size (P.drop (j2 + 1))) wx → Fs S N B a0 a1 a2 (P.take (j2 + 1)) (backs size (P.drop (j2 + 1))) wx := fun wx hh => by rw [take_next' P j2 hjl, hy]; exact hh
            have HFn := Lib.hid hFn
            have hpl : (P.take j2).length ≤ 900000 := by rw [List.length_take]; omega
            clear hlen hF3 hy hbn hFn
            go_wp2_with (first
              | (go_at_call 54; refine hsz2.mono ?_; clear hsz2; rintro e _ ⟨rfl, rfl⟩)
              | (go_at_call 62; refine htop2.mono ?_; clear htop2; rintro e _ ⟨rfl, q2, rfl⟩))
            go_region_held (fun _ => True) (trivial) (first | (go_at_call 63; refine (hpopB _).mono ?_; clear hpopB; rintro e w1 ⟨rfl, hF5, hK5⟩) | (go_at_call 61; (try rw [e1]); refine (fpushF _ hF5 hpl).mono ?_; rintro e w2 ⟨rfl, hF6, hK6⟩))
            go_wp2
            go_roundg (P.length - (j2 + 1))
            case measure => have hgg := HG.out; omega
            case rel => exact ⟨j2 + 1, hjl, rfl, HFn.out _ hF6, HK2.out.trans (((Keep.refl S N wr).drewN _).trans (hK5.trans hK6)), Hbn.out⟩
          · have hlt4 : ¬ (size - (size - y) < at') := by omega
            have hbn : ∀ p ∈ P.drop j2, at' ≤ p := mem_drop_ge HP.out j2 at' hjl (by rw [hy]; omega)
            have Hbn := Lib.hid hbn
            clear hlen hF3 hy hbn hpopB
            go_wp2_with (first
              | (go_at_call 54; refine hsz2.mono ?_; clear hsz2; rintro e _ ⟨rfl, rfl⟩)
              | (go_at_call 62; refine htop2.mono ?_; clear htop2; rintro e _ ⟨rfl, q2, rfl⟩))
            go_end0
            exact ⟨rfl, j2, HF2.out.drewN _, HK2.out.drewN _, HBef.out, Hbn.out⟩
        · obtain rfl : j2 = P.length := by omega
          have hsz2 := fsizeK HF2.out
          rw [backs_length, List.length_drop, Nat.sub_self] at hsz2
          go_wp2_with (go_at_call 54; refine hsz2.mono ?_; clear hsz2; rintro e _ ⟨rfl, rfl⟩)
          go_end0
          exact ⟨rfl, P.length, HF2.out, HK2.out, HBef.out, by simp⟩
    · obtain ⟨j, rfl⟩ : ∃ j, gk = j + 1 := ⟨gk - 1, by omega⟩
      obtain ⟨x, hx⟩ : ∃ x, P.getD j 0 = x := ⟨_, rfl⟩
      have hF3 := HF.out
      rw [take_next' P j (by omega), hx] at hF3
      have hb := Hrk.out j (by omega)
      rw [hx] at hb
      have hsz := fsizeF hF3
      have htop := ftopF hF3
      rw [List.length_append, List.length_take, Nat.min_eq_left (by omega), List.length_cons, List.length_nil] at hsz
      have hlt2 : (0 : Int) < ((j + (0 + 1) : Nat) : Int) := by omega
      have e1 : IntKind.i64.wrap (size - x) = size - x := IntWalk.i64_in _ (by omega)
      by_cases hxa : at' ≤ x
      · have hpopA : ∀ n, Calls Tryd.prog 71 #[.pointer (some ⟨B, 3, none⟩)] (wr.drewN n) fun e w' => e = .returned (.int .i64 x) ∧ Fs S N B a0 a1 a2 (P.take j) (backs size (P.drop (j + 1))) w' ∧ Keep S N (wr.drewN n) w' := fun n => fpopF (hF3.drewN n)
        have hFn : ∀ wx, Fs S N B a0 a1 a2 (P.take j) (backs size (P.drop (j + 1)) ++ [size - x]) wx → Fs S N B a0 a1 a2 (P.take j) (backs size (P.drop j)) wx := fun wx hh => by rw [backs_next size P j (by omega), hx]; exact hh
        have HFn := Lib.hid hFn
        clear hF3 hx hFn
        go_wp2_with (first
          | (go_at_call 53; refine hsz.mono ?_; clear hsz; rintro e _ ⟨rfl, rfl⟩)
          | (go_at_call 69; refine htop.mono ?_; clear htop; rintro e _ ⟨rfl, q, rfl⟩))
        go_region_held (fun _ => True) (trivial) (first | (go_at_call 71; refine (hpopA _).mono ?_; clear hpopA; rintro e w1 ⟨rfl, hF5, hK5⟩) | (go_at_call 70; refine (fpushK _ hF5 (by rw [backs_length, List.length_drop]; omega)).mono ?_; rintro e w2 ⟨rfl, hF6, hK6⟩))
        go_wp2
        go_roundg j
        case measure => omega
        case rel => exact ⟨by omega, HFn.out _ hF6, HK.out.trans (((Keep.refl S N wr).drewN _).trans (hK5.trans hK6))⟩
      · have hbn : ∀ p ∈ P.take (j + 1), p < at' := mem_take_lt HP.out j at' (by omega) (by rw [hx]; omega)
        have Hbef := Lib.hid hbn
        clear hF3 hx hbn
        go_wp2_with (first
          | (go_at_call 53; refine hsz.mono ?_; clear hsz; rintro e _ ⟨rfl, rfl⟩)
          | (go_at_call 69; refine htop.mono ?_; clear htop; rintro e _ ⟨rfl, q, rfl⟩))
        go_loopg [] (P.length - (j + 1)) (fun g wr => ∃ j, j ≤ P.length ∧ g = P.length - j ∧ Fs S N B a0 a1 a2 (P.take j) (backs size (P.drop j)) wr ∧ Keep S N w wr ∧ ∀ p ∈ P.take j, p < at')
        case atStart => exact ⟨(j + 1), by omega, rfl, HF.out.drewN _, HK.out.drewN _, Hbef.out⟩
        case round =>
          clear Hbef
          obtain ⟨j2, hj, hg, hF2, hK2, hbef⟩ := hrel
          have HG := Lib.hid hg
          have HBef := Lib.hid hbef
          have HK2 := Lib.hid hK2
          have HF2 := Lib.hid hF2
          clear hg hbef hK2 hF2
          rcases Nat.lt_or_ge j2 P.length with hjl | hje
          · obtain ⟨y, hy⟩ : ∃ y, P.getD j2 0 = y := ⟨_, rfl⟩
            have hF3 := HF2.out
            rw [backs_next size P j2 hjl, hy] at hF3
            have hb2 := Hrk.out j2 hjl
            rw [hy] at hb2
            have hsz2 := fsizeK hF3
            have htop2 := ftopK hF3
            have hlen : (backs size (P.drop (j2 + 1)) ++ [size - y]).length = P.length - j2 := by rw [← hy, ← backs_next size P j2 hjl, backs_length, List.length_drop]
            rw [hlen] at hsz2
            have hlt3 : (0 : Int) < ((P.length - j2 : Nat) : Int) := by omega
            have e1 : IntKind.i64.wrap (size - (size - y)) = y := by rw [show size - (size - y) = y by omega]; exact IntWalk.i64_in _ (by omega)
            have hpopB : ∀ n, Calls Tryd.prog 63 #[.pointer (some ⟨B, 4, none⟩)] (wr.drewN n) fun e w' => e = .returned (.int .i64 (size - y)) ∧ Fs S N B a0 a1 a2 (P.take j2) (backs size (P.drop (j2 + 1))) w' ∧ Keep S N (wr.drewN n) w' := fun n => fpopK (hF3.drewN n)
            by_cases hya : y < at'
            · have hlt4 : size - (size - y) < at' := by omega
              have hbn : ∀ p ∈ P.take (j2 + 1), p < at' := mem_take_lt HP.out j2 at' hjl (by rw [hy]; exact hya)
              have Hbn := Lib.hid hbn
              have hFn : ∀ wx, Fs S N B a0 a1 a2 (P.take j2 ++ [y]) (backs size (P.drop (j2 + 1))) wx → Fs S N B a0 a1 a2 (P.take (j2 + 1)) (backs size (P.drop (j2 + 1))) wx := fun wx hh => by rw [take_next' P j2 hjl, hy]; exact hh
              have HFn := Lib.hid hFn
              have hpl : (P.take j2).length ≤ 900000 := by rw [List.length_take]; omega
              clear hlen hF3 hy hbn hFn
              go_wp2_with (first
                | (go_at_call 54; refine hsz2.mono ?_; clear hsz2; rintro e _ ⟨rfl, rfl⟩)
                | (go_at_call 62; refine htop2.mono ?_; clear htop2; rintro e _ ⟨rfl, q2, rfl⟩))
              go_region_held (fun _ => True) (trivial) (first | (go_at_call 63; refine (hpopB _).mono ?_; clear hpopB; rintro e w1 ⟨rfl, hF5, hK5⟩) | (go_at_call 61; (try rw [e1]); refine (fpushF _ hF5 hpl).mono ?_; rintro e w2 ⟨rfl, hF6, hK6⟩))
              go_wp2
              go_roundg (P.length - (j2 + 1))
              case measure => have hgg := HG.out; omega
              case rel => exact ⟨j2 + 1, hjl, rfl, HFn.out _ hF6, HK2.out.trans (((Keep.refl S N wr).drewN _).trans (hK5.trans hK6)), Hbn.out⟩
            · have hlt4 : ¬ (size - (size - y) < at') := by omega
              have hbn : ∀ p ∈ P.drop j2, at' ≤ p := mem_drop_ge HP.out j2 at' hjl (by rw [hy]; omega)
              have Hbn := Lib.hid hbn
              clear hlen hF3 hy hbn hpopB
              go_wp2_with (first
                | (go_at_call 54; refine hsz2.mono ?_; clear hsz2; rintro e _ ⟨rfl, rfl⟩)
                | (go_at_call 62; refine htop2.mono ?_; clear htop2; rintro e _ ⟨rfl, q2, rfl⟩))
              go_end0
              exact ⟨rfl, j2, HF2.out.drewN _, HK2.out.drewN _, HBef.out, Hbn.out⟩
          · obtain rfl : j2 = P.length := by omega
            have hsz2 := fsizeK HF2.out
            rw [backs_length, List.length_drop, Nat.sub_self] at hsz2
            go_wp2_with (go_at_call 54; refine hsz2.mono ?_; clear hsz2; rintro e _ ⟨rfl, rfl⟩)
            go_end0
            exact ⟨rfl, P.length, HF2.out, HK2.out, HBef.out, by simp⟩

end Go.Proofs.YtpldalmodcmfaaaDoor
