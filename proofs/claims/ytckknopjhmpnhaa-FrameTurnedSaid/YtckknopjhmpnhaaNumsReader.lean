/- A reader: Read, Left, Fault, End; how many bytes the next number has. -/
import Derived.Test.YtckknopjhmpnhaaNumsPlain
import Derived.WalkKit
import Derived.WalkSpells
import Derived.WalkLawsBesides
import Derived.Lib.Hide
import Derived.Lib.Strings
import Derived.BigCall
import Derived.Test.YtckknopjhmpnhaaClone
namespace Go.Proofs.Ytckknopjhmpnhaa
open Go.RowKit Go.Shelf

/-- A reader's box: what wasn't passed, and the fault. -/
def Rd (B : Nat) (s : ByteArray) (f : Int) (w : World) : Prop := w.heap[B]? = some (.cells #[.string s, .int .i64 f] 85 (0, 0))
theorem Rd.c0 {B : Nat} {s : ByteArray} {f : Int} {w : World} (h : Rd B s f w) : w.cell? ⟨B, 0, none⟩ = some (.string s) := cell_of_row w B 0 _ _ (0, 0) h
theorem Rd.c1 {B : Nat} {s : ByteArray} {f : Int} {w : World} (h : Rd B s f w) : w.cell? ⟨B, 1, none⟩ = some (.int .i64 f) := cell_of_row w B 1 _ _ (0, 0) h
theorem Rd.f0 {B : Nat} {s : ByteArray} {f : Int} {w : World} (h : Rd B s f w) : w.frozen? ⟨B, 0, none⟩ = false := frozen_of_row w B 0 _ _ h
theorem Rd.f1 {B : Nat} {s : ByteArray} {f : Int} {w : World} (h : Rd B s f w) : w.frozen? ⟨B, 1, none⟩ = false := frozen_of_row w B 1 _ _ h
theorem Rd.lt {B : Nat} {s : ByteArray} {f : Int} {w : World} (h : Rd B s f w) : B < w.heap.size := (Array.getElem?_eq_some_iff.1 h).1
theorem Rd.below {B N : Nat} {s : ByteArray} {f : Int} {w w' : World} (h : Rd B s f w) (hb : Below N w w') (hN : B < N) : Rd B s f w' := (hb.block B hN).trans h
theorem Rd.put0 {B : Nat} {s : ByteArray} {f : Int} {w : World} (h : Rd B s f w) (t : ByteArray) : Rd B t f (w.setCell ⟨B, 0, none⟩ (.string t)) := heap_setCell_same w B 0 _ _ _ h
theorem Rd.put1 {B : Nat} {s : ByteArray} {f : Int} {w : World} (h : Rd B s f w) (g : Int) : Rd B s g (w.setCell ⟨B, 1, none⟩ (.int .i64 g)) := heap_setCell_same w B 1 _ _ _ h
theorem Rd.drew {B : Nat} {s : ByteArray} {f : Int} {w : World} (h : Rd B s f w) : Rd B s f w.drew := h

theorem getD_list (s : ByteArray) (k : Nat) (h : k < s.size) : s.data.toList.getD k 0 = s[k] := by
  have h' : k < s.data.size := h
  rw [List.getD_eq_getElem?_getD, Array.getElem?_toList, Array.getElem?_eq_getElem h']
  rfl

theorem read_any (s : ByteArray) (w : World) (hs : s.size ≤ 1000000000) :
    Calls Try.prog 33 #[.string s] w fun e W' => ∃ B, e = .returned (.pointer (some ⟨B, 0, none⟩)) ∧ w.heap.size ≤ B ∧ Rd B s 0 W' ∧ Below w.heap.size w W' := by
  have hC := clone_any s w hs
  go_enter Try.func33, Try.ntmps33
  go_wp2_with (go_at_call 46; refine hC.mono ?_; rintro e w1 ⟨rfl, hb⟩)
  go_ret
  refine ⟨_, rfl, hb.size, ?_, hb.alloc hb.size _⟩
  unfold Rd
  exact heap_alloc_new w1 _

theorem left_any (B : Nat) (s : ByteArray) (f : Int) (w : World) (h : Rd B s f w) :
    Calls Try.prog 35 #[.pointer (some ⟨B, 0, none⟩)] w fun e W' => e = .returned (.int .i64 s.size) ∧ w = W' := by
  have c0 := h.c0
  go_enter Try.func35, Try.ntmps35
  go_wp2
  go_ret
  exact ⟨rfl, rfl⟩

theorem fault_any (B : Nat) (s : ByteArray) (f : Int) (w : World) (h : Rd B s f w) :
    Calls Try.prog 34 #[.pointer (some ⟨B, 0, none⟩)] w fun e W' => e = .returned (.int .i64 f) ∧ w = W' := by
  have c1 := h.c1
  go_enter Try.func34, Try.ntmps34
  go_wp2
  go_ret
  exact ⟨rfl, rfl⟩

/-- What End tells. -/
def endOf (s : ByteArray) (f : Int) : Int := if f = 0 then (if 0 < s.size then 11 else 0) else f
/-- What a take panics with. -/
def faultEnd (c : Int) : Ending := .panicked [{ v := .iface 83 (.int .i64 c), recovered := false }]
/-- What size tells, or panics with. -/
def sizeEnd (l : List UInt8) : Ending :=
  if 10 ≤ hiL l then faultEnd 9 else if l.length ≤ hiL l then faultEnd 8 else .returned (.int .i64 (hiL l + 1))

set_option maxRecDepth 100000 in
set_option maxHeartbeats 1000000 in
theorem size_any (B : Nat) (s : ByteArray) (f : Int) (w : World) (h : Rd B s f w) (hs : s.size ≤ 1000000000) :
    Calls Try.prog 59 #[.pointer (some ⟨B, 0, none⟩)] w fun e W' => e = sizeEnd s.data.toList ∧ w = W' := by
  have c0 := h.c0
  go_enter Try.func59, Try.ntmps59
  go_wp2
  obtain ⟨M, hM, hM1, hM2, hM3⟩ : ∃ M : Nat, min (s.size : Int) 10 = M ∧ M ≤ s.size ∧ M ≤ 10 ∧ (M = s.size ∨ M = 10) := by
    rcases Nat.lt_or_ge s.size 10 with g | g
    · exact ⟨s.size, by omega, by omega, by omega, .inl rfl⟩
    · exact ⟨10, by omega, by omega, by omega, .inr rfl⟩
  rw [hM]
  clear hM
  go_loop [10] (fun i => ∃ k : Nat, i = .int .i64 k ∧ k ≤ M ∧ k ≤ hiL s.data.toList) (fun i => M - (intOf i).toNat)
  case atStart => exact ⟨0, rfl, Nat.zero_le _, Nat.zero_le _⟩
  case round =>
    obtain ⟨k, rfl, hk, hhi⟩ := hrel
    rcases Nat.lt_or_ge k M with hlt | hge
    · have hks : k < s.size := by omega
      have hgk := getD_list s k hks
      by_cases hb : s[k].toNat < 128
      · have hst := hiL_stop s.data.toList k hhi (by rw [← Lib.size_eq]; exact hks) (by rw [hgk]; exact hb)
        have hE : sizeEnd s.data.toList = .returned (.int .i64 (k + 1)) := by
          unfold sizeEnd
          rw [hst, if_neg (by omega), if_neg (by rw [← Lib.size_eq]; omega)]
        have HE := Lib.hid hE
        clear hst hE hgk hhi
        go_wp2
        go_ret
        exact ⟨HE.out.symm, rfl⟩
      · have hnx := hiL_next s.data.toList k hhi (by rw [← Lib.size_eq]; exact hks) (by rw [hgk]; exact hb)
        have Hnx := Lib.hid hnx
        clear hgk hhi hnx
        go_wp2
        go_round
        case rel => exact ⟨k + 1, by go_num, by omega, Hnx.out⟩
        case measure => simp [intOf]; omega
    · obtain rfl : k = M := by omega
      have hlen : hiL s.data.toList ≤ s.size := by rw [Lib.size_eq]; exact hiL_le _
      by_cases h10 : 10 ≤ s.size
      · have hE : sizeEnd s.data.toList = faultEnd 9 := by
          unfold sizeEnd
          rw [if_pos (by omega)]
        have HE := Lib.hid hE
        clear hhi hE hlen
        go_wp2
        exact ⟨rfl, HE.out.symm, rfl⟩
      · have hE : sizeEnd s.data.toList = faultEnd 8 := by
          unfold sizeEnd
          rw [if_neg (by omega), if_pos (by rw [← Lib.size_eq]; omega)]
        have HE := Lib.hid hE
        clear hhi hE hlen
        go_wp2
        exact ⟨rfl, HE.out.symm, rfl⟩
end Go.Proofs.Ytckknopjhmpnhaa
