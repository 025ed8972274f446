/- Join: the text of runes. -/
import Derived.Test.YtmedickofiielaaGCopyCheck
import Derived.Test.YtmedickofiielaaGConvOwn
import Derived.BigCall
namespace Go.Proofs.Ytmedickofiielaa
open Go.RowKit Go.Shelf

def JoinPost (w : World) (xs : List Int) (e : Ending) (w' : World) : Prop :=
 e = .returned (if allValid xs then .tuple #[.string ⟨(joinL xs).toArray⟩, .int .i64 0] else .tuple #[.string ⟨#[]⟩, .int .i64 2]) ∧ Below w.heap.size w w'
theorem JoinPost.yes {w w' : World} {xs : List Int} (h : allValid xs = true) (hb : Below w.heap.size w w') : JoinPost w xs (.returned (.tuple #[.string ⟨(joinL xs).toArray⟩, .int .i64 0])) w' := ⟨by rw [if_pos h], hb⟩
theorem JoinPost.no {w w' : World} {xs : List Int} (h : ¬ allValid xs = true) (hb : Below w.heap.size w w') : JoinPost w xs (.returned (.tuple #[.string ⟨#[]⟩, .int .i64 2])) w' := ⟨by rw [if_neg h], hb⟩

set_option maxRecDepth 100000 in
set_option maxHeartbeats 2000000 in
theorem join_any (v : Value) (xs : List Int) (hx : xs.length ≤ 1000000) (w : World) (h1 : Reads32 w v xs) :
  Calls Try.prog 35 #[v] w (JoinPost w xs) := by
 obtain ⟨ao, c1, rfl, r1⟩ := h1
 obtain ⟨n, hn⟩ : ∃ n, xs.length = n := ⟨_, rfl⟩
 rw [hn]
 have Hn := Lib.hid hn
 have R1 := Lib.hid r1
 have hn1 : n ≤ 1000000 := by omega
 clear hn hx r1
 go_enter Try.func35, Try.ntmps35
 go_wp2
 go_loopw [9] (fun i wr => ∃ k : Nat, i = .int .i64 k ∧ k ≤ n ∧ (∀ r ∈ xs.take k, Lib.validRune r = true) ∧ Lib.IsBuilderF 108 5 w.heap.size w.heap.size (Lib.byteCells (joinL (xs.take k))) wr ∧ Below w.heap.size w wr) (fun i _ => n - (intOf i).toNat)
 case atStart => exact ⟨0, rfl, Nat.zero_le _, by simp, Lib.IsBuilderF.of (Lib.fresh_isBuilder _ _ w), (Below.refl _ w).alloc (Nat.le_refl _) _⟩
 case round =>
  rename_i wr
  obtain ⟨k, rfl, hk, hval, hI, hb⟩ := hrel
  have Hval := Lib.hid hval
  clear hval
  rcases Nat.lt_or_ge k n with hlt | hge
  ·have hxk : k < xs.length := by rw [Hn.out]; exact hlt
   obtain ⟨b, off, rfl, q1⟩ := R1.out (by intro e; rw [e] at hxk; simp at hxk)
   have hB0 : b < w.heap.size := by
    rcases Nat.lt_or_ge b w.heap.size with h' | h'
    ·exact h'
    ·have := q1 k hxk
     simp [World.cell?, Array.getElem?_eq_none h'] at this
   obtain ⟨x, ex⟩ : ∃ x, xs.getD k 0 = x := ⟨_, rfl⟩
   have g1 : wr.cell? ⟨b, off + k, none⟩ = some (.int .i32 x) := by
    rw [hb.cell (p := ⟨b, off + k, none⟩) hB0, q1 k hxk, ex]
   have hki : (k : Int) < n := by omega
   have hV := fun w => Try.utf8_ValidRune x w
   cases hv : Lib.validRune x with
   | false =>
    have hno : ¬ allValid xs = true := fun h => by
     have := allValid_iff.1 h x (by rw [← ex]; simp [List.getD, hxk])
     rw [hv] at this; cases this
    have Hno := Lib.hid hno
    rw [hv] at hV
    clear hno hv q1 ex
    go_wp2_with (go_at_call 47; refine (hV _).mono ?_; rintro e _ ⟨rfl, rfl⟩)
    go_ret2
    exact JoinPost.no Hno.out hb
   | true =>
    have hv' : (0 ≤ x ∧ x < 0xD800) ∨ (0xDFFF < x ∧ x ≤ 0x10FFFF) := by simpa [Lib.validRune] using hv
    have hjn : joinL (xs.take (k + 1)) = joinL (xs.take k) ++ Lib.encodeRune x := by rw [joinL_take xs k hxk, ex]
    have hvn : ∀ r ∈ xs.take (k + 1), Lib.validRune r = true := by
     intro r hr
     rw [List.take_succ_eq_append_getElem hxk] at hr
     rcases List.mem_append.1 hr with h | h
     ·exact Hval.out r h
     ·simp at h
      simp [List.getD, hxk] at ex
      rw [h, ex]; exact hv
    have hjl : (joinL (xs.take k)).length ≤ 4 * 1000000 := by
     have h1 := joinL_length_le (xs.take k)
     rw [List.length_take] at h1
     omega
    have hW := writeRune_k w.heap.size w.heap.size _ x (by omega) (by omega) wr hI (by rw [Lib.byteCells_length]; omega) hb.size
    rw [hv] at hV
    have Hjn := Lib.hid hjn
    have Hvn := Lib.hid hvn
    clear hjn hvn hv q1 ex hv'
    go_wp2_with (first
     | (go_at_call 47; refine (hV _).mono ?_; clear hV; rintro e _ ⟨rfl, rfl⟩)
     | (go_at_call 48; refine hW.mono ?_; clear hW; rintro e w1 ⟨rfl, hI1, hb1⟩))
    go_roundw
    case rel =>
     refine ⟨k + 1, by go_num, hlt, Hvn.out, ?_, hb.trans hb1⟩
     rw [Hjn.out, Lib.byteCells_append, Lib.byteCells_encodeRune]
     exact .inr hI1
    case measure => simp [intOf]; omega
  ·obtain rfl : k = n := by omega
   rw [List.take_of_length_le (by rw [Hn.out]; exact Nat.le_refl _)] at hI
   have hall : allValid xs = true := by
    rw [allValid_iff]
    have := Hval.out
    rwa [List.take_of_length_le (by rw [Hn.out]; exact Nat.le_refl _)] at this
   have Hall := Lib.hid hall
   have hS := Try.Builder_String_any_f w.heap.size w.heap.size (joinL xs) wr hI hb.size
   clear hall
   go_wp2_with (go_at_call 49; refine hS.mono ?_; clear hS; rintro e w1 ⟨rfl, _, hb1⟩)
   go_ret2
   exact JoinPost.yes Hall.out (hb.trans hb1)
end Go.Proofs.Ytmedickofiielaa
