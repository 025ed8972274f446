/- What statements let go of, where there are acts; an act of a buffer. -/
import Derived.Test.YtpldalmodcmfaaaDoorActs
namespace Go.Proofs.YtpldalmodcmfaaaDoor
open Go.RowKit Go.WideShapes

/-- What is looked at. -/
def Small (s : ByteArray) (n : Nat) (f : Nat → GAct) : Prop := s.size ≤ 600 ∧ n ≤ 60 ∧ ∀ i, i < n → (f i).tx.size ≤ 300
def GreatPost (s : ByteArray) (n : Nat) (f : Nat → GAct) (w : World) (e : Ending) (w' : World) : Prop := ∃ b, e = .returned (.bool b) ∧ w = w' ∧ (b = false ↔ Small s n f)

set_option maxRecDepth 100000 in
theorem great_acts (s : ByteArray) (hs : s.size ≤ maxLen) (w : World) (v : Value) (n : Nat) (f : Nat → GAct) (hA : Acts w v n f) :
    Calls Tryd.prog 9 #[.string s, v] w (GreatPost s n f w) := by
  obtain ⟨ao, cap, rfl, hm, hc, ht⟩ := hA
  unfold maxLen at hs hm
  by_cases h : 600 < s.size
  · have h' : (600 : Int) < (s.size : Int) := by omega
    have hno : ¬ Small s n f := fun hh => by have := hh.1; omega
    have Hno := Lib.hid hno
    clear h ht hc hno
    go_enter Tryd.func9, Tryd.ntmps9
    go_wp2
    go_ret
    exact ⟨true, rfl, rfl, fun h => (by cases h), fun h => absurd h Hno.out⟩
  have h' : ¬ ((600 : Int) < (s.size : Int)) := by omega
  by_cases h60 : 60 < n
  · have h6 : (60 : Int) < (n : Int) := by omega
    have hno : ¬ Small s n f := fun hh => by have := hh.2.1; omega
    have Hno := Lib.hid hno
    clear h ht hc hno
    go_enter Tryd.func9, Tryd.ntmps9
    go_wp2
    go_ret
    exact ⟨true, rfl, rfl, fun h => (by cases h), fun h => absurd h Hno.out⟩
  have h6 : ¬ ((60 : Int) < (n : Int)) := by omega
  have Hc := Lib.hid hc
  have Ht := Lib.hid ht
  have Hs : Hid (s.size ≤ 600) := Lib.hid (by omega)
  clear h hc ht h60
  go_enter Tryd.func9, Tryd.ntmps9
  go_wp2
  go_loop [5] (fun i => ∃ q : Nat, i = .int .i64 q ∧ q ≤ n ∧ ∀ j, j < q → (f j).tx.size ≤ 300) (fun i => n - (intOf i).toNat)
  case atStart => exact ⟨0, rfl, Nat.zero_le _, fun j hj => absurd hj (Nat.not_lt_zero j)⟩
  case round =>
    obtain ⟨q, rfl, hq, hj⟩ := hrel
    have Hj := Lib.hid hj
    clear hj
    rcases Nat.lt_or_ge q n with hlt | hge
    · obtain ⟨b, off, rfl, _, hcell⟩ := Hc.out (by omega)
      obtain ⟨_, _, _, c3⟩ := hcell q hlt
      have hsz := (Ht.out q hlt).1
      unfold maxLen at hsz
      have i1 : (q : Int) < (n : Int) := by omega
      clear hcell
      generalize hfs : (f q).tx = tx at *
      by_cases h3 : 300 < tx.size
      · have h3' : (300 : Int) < (tx.size : Int) := by omega
        go_wp2
        go_ret
        exact ⟨true, rfl, rfl, fun h => (by cases h), fun h => by have := h.2.2 q hlt; rw [hfs] at this; omega⟩
      · have h3' : ¬ ((300 : Int) < (tx.size : Int)) := by omega
        go_wp2
        go_roundw
        case rel => exact ⟨q + 1, by go_num, by omega, fun j hj => by
          rcases Nat.lt_succ_iff_lt_or_eq.1 hj with h | rfl
          · exact Hj.out j h
          · rw [hfs]; omega⟩
        case measure => simp [intOf]; omega
    · have i1 : ¬ ((q : Int) < (n : Int)) := by omega
      go_wp2
      go_ret
      exact ⟨false, rfl, rfl, fun _ => ⟨Hs.out, by omega, fun j hj => Hj.out j (by omega)⟩, fun _ => rfl⟩

theorem great_yes {s : ByteArray} (hs : s.size ≤ maxLen) {w : World} {v : Value} {n : Nat} {f : Nat → GAct} (hA : Acts w v n f) (h : ¬ Small s n f) :
    Calls Tryd.prog 9 #[.string s, v] w fun e w' => e = .returned (.bool true) ∧ w = w' := by
  refine (great_acts s hs w v n f hA).mono ?_
  rintro e _ ⟨b, rfl, rfl, hb⟩
  cases b with
  | true => exact ⟨rfl, rfl⟩
  | false => exact absurd (hb.1 rfl) h
theorem great_no {s : ByteArray} (hs : s.size ≤ maxLen) {w : World} {v : Value} {n : Nat} {f : Nat → GAct} (hA : Acts w v n f) (h : Small s n f) :
    Calls Tryd.prog 9 #[.string s, v] w fun e w' => e = .returned (.bool false) ∧ w = w' := by
  refine (great_acts s hs w v n f hA).mono ?_
  rintro e _ ⟨b, rfl, rfl, hb⟩
  cases b with
  | true => exact absurd (hb.2 h) (by decide)
  | false => exact ⟨rfl, rfl⟩

/-- What an act makes of the runes, and its answer. -/
def actX (xs : List Int) (x : GAct) : List Int × Int := if x.kd % 3 = 2 then delX xs x.pl x.nn else insX xs x.pl (runesL x.tx.data.toList)
theorem InsPost.from {S : Nat → Prop} {N B : Nat} {x : List Int × Int} {w w1 : World} (hk : Keep S N w w1) {e : Ending} {w' : World} (h : InsPost S N B x w1 e w') : InsPost S N B x w e w' := by
  obtain ⟨he, zs, ys, hz, hB, hK⟩ := h
  exact ⟨he, zs, ys, hz, hB, hk.trans hK⟩

set_option maxRecDepth 100000 in
set_option maxHeartbeats 4000000 in
theorem do_any {S : Nat → Prop} {N B : Nat} {zs ys : List Int} {w : World} (h : Bf S N 0 B zs ys w) (x : GAct) (hs : x.tx.size ≤ 1000000) (hk : (Lit.int .u8 x.kd).wf = true) (hT : Lib.Utf8Tabs 0 1 w) :
    Calls Tryd.prog 13 #[.pointer (some ⟨B, 0, none⟩), x.val] w (InsPost S N B (actX (zs ++ ys) x) w) := by
  obtain ⟨kd, pl, nn, tx⟩ := x
  unfold GAct.val
  have hN := h.mem
  have hA : Below w.heap.size w (w.alloc (.cells #[.int .u8 kd, .int .i64 pl, .int .i64 nn, .string tx] 33)) := (Below.refl _ w).alloc (Nat.le_refl _) _
  have h1 := h.fresh hA
  have hk1 : Keep S N w (w.alloc (.cells #[.int .u8 kd, .int .i64 pl, .int .i64 nn, .string tx] 33)) := Keep.of_below hA hN
  have hT1 := Utf8Tabs_below hT hA
  simp only [Lit.wf, Bool.and_eq_true, decide_eq_true_eq] at hk
  obtain ⟨hk1', hk2'⟩ := hk
  have e1 : IntKind.u8.min = 0 := rfl
  have e2 : IntKind.u8.max = 255 := rfl
  simp only [e1, e2] at hk1' hk2'
  obtain ⟨k, rfl⟩ : ∃ k : Nat, kd = k := ⟨kd.toNat, by omega⟩
  unfold actX
  by_cases hm : k % 3 = 2
  · rw [if_pos (by simp only; omega)]
    have hd := bdelete_any h1 pl nn
    have hm2 : (k : Int) % 3 = 2 := by omega
    clear h h1 hT hT1 hA
    go_enter Tryd.func13, Tryd.ntmps13
    go_wp2_with (go_at_call 29; refine hd.mono ?_; clear hd; rintro e w1 hP; have HP := Lib.hid hP; obtain ⟨rfl, _⟩ := hP)
    go_ret
    exact InsPost.from hk1 HP.out
  · rw [if_neg (by simp only; omega)]
    have hd := binsert_any h1 pl tx hs hT1
    have hm2 : ¬ ((k : Int) % 3 = 2) := by omega
    clear h h1 hT hT1 hA
    go_enter Tryd.func13, Tryd.ntmps13
    go_wp2_with (go_at_call 26; refine hd.mono ?_; clear hd; rintro e w1 hP; have HP := Lib.hid hP; obtain ⟨rfl, _⟩ := hP)
    go_ret
    exact InsPost.from hk1 HP.out
end Go.Proofs.YtpldalmodcmfaaaDoor
