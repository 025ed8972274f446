/- The document's Join. -/
import Derived.Test.YtpldalmodcmfaaaDoorRefBytes
import Derived.Test.YtpldalmodcmfaaaDoorReads
import Derived.Laws.BytesArg
import Derived.Maps.AppendAt
import Derived.RangeFuncBox
namespace Go.Proofs.YtpldalmodcmfaaaDoor
open Go.RowKit

theorem infoU8 : (Tryd.prog.info? 5).map (fun i => (i.zero, i.size, i.bytes)) = some (some (.int .u8 0), 1, 1) := by kernel_rfl

def allValid (l : List Int) : Bool := l.all Lib.validRune
theorem allValid_iff {l : List Int} : allValid l = true ↔ ∀ r ∈ l, Lib.validRune r = true := by simp [allValid]

theorem joinL_length_le (l : List Int) : (joinL l).length ≤ 4 * l.length := by
  induction l with
  | nil => simp [joinL_nil]
  | cons r l ih =>
    rw [joinL_cons, List.length_append, List.length_cons]
    have := encode_le r
    omega
theorem joinL_take (l : List Int) (k : Nat) (h : k < l.length) : joinL (l.take (k + 1)) = joinL (l.take k) ++ Lib.encodeRune (l.getD k 0) := by
  rw [List.take_succ_eq_append_getElem h, joinL_append]
  simp [joinL, h]

/-- Bytes, with the cells of what it tells. -/
theorem bytes_cells (r : Int) (w : World) (h : Lib.validRune r = true) : Calls Tryd.prog 52 #[.int .i32 r] w fun e w' => ∃ b, e = .returned (.slice (some ⟨b, 0, none⟩) (Lib.encodeRune r).length (Lib.encodeRune r).length) ∧ Below w.heap.size w w' ∧ (∀ j u, (Lib.byteCells (Lib.encodeRune r))[j]? = some u → w'.cell? ((⟨b, 0, none⟩ : Addr).add j) = some u) := by
  refine (bytes_any r w h).mono ?_
  rintro e w' ⟨rfl, rfl⟩
  refine ⟨w.heap.size, by rw [Lib.runeCells_length], (Below.refl _ _).alloc (Nat.le_refl _) _, fun j u hj => ?_⟩
  have e : (⟨w.heap.size, 0, none⟩ : Addr).add j = ⟨w.heap.size, j, none⟩ := by simp [Addr.add]; omega
  rw [e, World.cell?_alloc_mark]
  rw [Lib.byteCells_encodeRune] at hj
  simpa using hj

theorem conv_own {W : World} {base : Nat} {v : Value} {l : List UInt8} (h : W.ownsRow base 5 1 v l.length (Lib.byteCells l)) :
    (convert 89 9 v).run Tryd.prog W = .ok (.string ⟨l.toArray⟩) W := by
  rcases h.2 with ⟨hv, h0⟩ | ⟨g, cap, cur, hv, _⟩
  · subst hv
    rw [run_convert_bytes_nil W 89 5 Tryd.underlying89 Tryd.underlying5 0 0 9 Tryd.underlying9, List.eq_nil_of_length_eq_zero h0]
    rfl
  · subst hv
    refine run_convert_bytes_back _ 89 9 5 _ _ _ Tryd.underlying89 Tryd.underlying5 Tryd.underlying9 ?_
    intro j hj
    have e : (⟨g, 0, none⟩ : Addr).add j = ⟨g, j, none⟩ := by simp [Addr.add]; omega
    rw [e, h.cellAt j (by omega)]
    simp [Lib.byteCells, hj]

/-- What Join tells: the text, or that there is none. -/
def RJoinPost (w : World) (xs : List Int) (e : Ending) (w' : World) : Prop :=
  e = .returned (if allValid xs then .tuple #[.string ⟨(joinL xs).toArray⟩, .bool true] else .tuple #[.string ⟨#[]⟩, .bool false]) ∧ Below w.heap.size w w'
theorem RJoinPost.yes {w w' : World} {xs : List Int} (h : allValid xs = true) (hb : Below w.heap.size w w') : RJoinPost w xs (.returned (.tuple #[.string ⟨(joinL xs).toArray⟩, .bool true])) w' := ⟨by rw [if_pos h], hb⟩
theorem RJoinPost.no {w w' : World} {xs : List Int} (h : ¬ allValid xs = true) (hb : Below w.heap.size w w') : RJoinPost w xs (.returned (.tuple #[.string ⟨#[]⟩, .bool false])) w' := ⟨by rw [if_neg h], hb⟩

set_option maxRecDepth 100000 in
set_option maxHeartbeats 2000000 in
theorem rjoin_any (v : Value) (xs : List Int) (hx : xs.length ≤ 1000000) (w : World) (h1 : Reads32 w v xs) :
    Calls Tryd.prog 34 #[v] w (RJoinPost w xs) := by
  obtain ⟨i0, hi, hz0, hz1, hz2⟩ := info_parts infoU8
  have hR := h1
  obtain ⟨ao, c1, rfl, r1⟩ := h1
  obtain ⟨n, hn⟩ : ∃ n, xs.length = n := ⟨_, rfl⟩
  rw [hn]
  have Hn := Lib.hid hn
  have HR := Lib.hid hR
  have R1 := Lib.hid r1
  have hn1 : n ≤ 1000000 := by omega
  clear hn hx hR r1
  go_enter Tryd.func34, Tryd.ntmps34
  go_wp2
  go_loopw [4, 5] (fun v i wr => ∃ k : Nat, i = .int .i64 k ∧ k ≤ n ∧ (∀ r ∈ xs.take k, Lib.validRune r = true) ∧ wr.ownsRow w.heap.size 5 1 v (joinL (xs.take k)).length (Lib.byteCells (joinL (xs.take k))) ∧ Below w.heap.size w wr) (fun _ i _ => n - (intOf i).toNat)
  case atStart => exact ⟨0, rfl, Nat.zero_le _, by simp, World.ownsRow_nil _ _ _ _, Below.refl _ _⟩
  case round =>
    obtain ⟨k, rfl, hk, hval, hown, hb⟩ := hrel
    have Hval := Lib.hid hval
    clear hval
    rcases Nat.lt_or_ge k n with hlt | hge
    · have hxk : k < xs.length := by rw [Hn.out]; exact hlt
      obtain ⟨b, off, rfl, q1⟩ := R1.out (by intro e; rw [e] at hxk; simp at hxk)
      have hB0 : b < w.heap.size := by
        rcases Nat.lt_or_ge b w.heap.size with h' | h'
        · exact h'
        · have := q1 k hxk
          simp [World.cell?, Array.getElem?_eq_none h'] at this
      obtain ⟨x, ex⟩ : ∃ x, xs.getD k 0 = x := ⟨_, rfl⟩
      have gk : ∀ W, Below w.heap.size w W → W.cell? ⟨b, off + k, none⟩ = some (.int .i32 x) := fun W h => by
        rw [h.cell (p := ⟨b, off + k, none⟩) hB0, q1 k hxk, ex]
      have Q1 := Lib.hid q1
      have hki : (k : Int) < n := by omega
      have hI := fun w => is_any x w
      have g1 := gk wr hb
      cases hv : Lib.validRune x with
      | false =>
        have hno : ¬ allValid xs = true := fun h => by
          have := allValid_iff.1 h x (by rw [← ex]; simp [List.getD, hxk])
          rw [hv] at this; cases this
        have Hno := Lib.hid hno
        rw [hv] at hI
        clear hno hv q1 gk ex
        go_wp2_with (go_at_call 51; refine (hI _).mono ?_; rintro e _ ⟨rfl, rfl⟩)
        go_ret2
        exact RJoinPost.no Hno.out hb
      | true =>
        have hB := fun w => bytes_cells x w hv
        have hjn : joinL (xs.take (k + 1)) = joinL (xs.take k) ++ Lib.encodeRune x := by rw [joinL_take xs k hxk, ex]
        have hvn : ∀ r ∈ xs.take (k + 1), Lib.validRune r = true := by
          intro r hr
          rw [List.take_succ_eq_append_getElem hxk] at hr
          rcases List.mem_append.1 hr with h | h
          · exact Hval.out r h
          · simp at h
            simp [List.getD, hxk] at ex
            rw [h, ex]; exact hv
        have hjl : (joinL (xs.take k)).length ≤ 4 * 1000000 := by
          have h1 := joinL_length_le (xs.take k)
          rw [List.length_take] at h1
          omega
        have h4 := encode_le x
        rw [hv] at hI
        have Hjn := Lib.hid hjn
        have Hvn := Lib.hid hvn
        have Gk := Lib.hid gk
        clear hjn hvn hv q1 gk ex
        go_wp2_with (first
          | (go_at_call 51; refine (hI _).mono ?_; clear hI; rintro e _ ⟨rfl, rfl⟩)
          | (go_at_call 52; refine (hB _).mono ?_; clear hB; rintro e w1 ⟨b1, rfl, hb1, hc1⟩; have hown1 := hown.kept (w' := w1) (row := none) ⟨hb1.os, hb1.tape, hb1.output, hb1.size, fun i hi _ => hb1.block i hi⟩ (Decidable.em (u4.ownBlock = none)); have hbw1 := hb.trans (hb1.mono hb.size); have Hc1 := Lib.hid hc1; clear hc1)
          | (at_builtin; go_must (refine wpList_append_own _ rfl _ _ 89 rfl w.heap.size 5 i0 (.int .u8 0) 1 1 Tryd.underlying89 hi hz0 hz1 hz2 rfl (by decide) _ _ _ rfl hown1 ⟨b1, 0, none⟩ (Lib.encodeRune x).length (Lib.encodeRune x).length (Lib.byteCells (Lib.encodeRune x)) rfl (by rw [Lib.byteCells_length, Nat.mul_one]) Hc1.out (by intro u hu; simp [Lib.byteCells] at hu; obtain ⟨y, _, rfl⟩ := hu; rfl) (by unfold maxLen; omega) (by omega) hbw1.size ?_; intro v' w3 hown' hgrow _)))
        refine ⟨⟨k + 1, by go_num, hlt, Hvn.out, ?_, hbw1.grown hgrow hbw1.size (fun k hk => (hown1.lt k hk).1)⟩, by simp [intOf]; omega⟩
        rw [Hjn.out, List.length_append, Lib.byteCells_append]
        exact hown'
    · obtain rfl : k = n := by omega
      rw [List.take_of_length_le (by rw [Hn.out]; exact Nat.le_refl _)] at hown
      have hall : allValid xs = true := by
        rw [allValid_iff]
        have := Hval.out
        rwa [List.take_of_length_le (by rw [Hn.out]; exact Nat.le_refl _)] at this
      have Hall := Lib.hid hall
      have hconv := conv_own hown
      clear hall
      go_wp2
      go_ret2
      exact RJoinPost.yes Hall.out hb
end Go.Proofs.YtpldalmodcmfaaaDoor
