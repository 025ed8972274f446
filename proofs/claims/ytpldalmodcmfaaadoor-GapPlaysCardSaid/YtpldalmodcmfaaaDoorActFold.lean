/- Whatever acts: the runes stay runes of a text. -/
import Derived.Test.YtpldalmodcmfaaaDoorActDo
import Derived.Test.YtpldalmodcmfaaaDoorRefGap
import Derived.Test.YtpldalmodcmfaaaDoorLawGapBack
namespace Go.Proofs.YtpldalmodcmfaaaDoor
open Go.RowKit

theorem valid_act {xs : List Int} (x : GAct) (h : allValid xs = true) : allValid (actX xs x).1 = true := by
  unfold actX
  split
  · unfold delX
    split
    · rw [allValid_iff] at *
      intro r hr
      rcases List.mem_append.1 hr with hh | hh
      · exact h r (List.mem_of_mem_take hh)
      · exact h r (List.mem_of_mem_drop hh)
    · exact h
  · rcases Classical.em ((insX xs x.pl (runesL x.tx.data.toList)).2 = 0) with h0 | h0
    · obtain ⟨l, k, hl, _, _, _, he⟩ := insX_zero h0
      rw [he]
      exact valid_ins h (text_of hl).2
    · rw [insX_nonzero h0]
      exact h
/-- A buffer of the call's own that holds the runes of a text. -/
def Held (N : Nat) (xs : List Int) (w : World) : Prop := ∃ zs ys, zs ++ ys = xs ∧ Bf (fun _ => False) N 0 N zs ys w ∧ allValid xs = true
theorem Held.fresh {N : Nat} {xs : List Int} {w w1 : World} (h : Held N xs w) (hb : Below w.heap.size w w1) : Held N xs w1 := by
  obtain ⟨zs, ys, hz, hB, hv⟩ := h
  exact ⟨zs, ys, hz, hB.fresh hb, hv⟩
theorem Held.le {N : Nat} {xs : List Int} {w : World} (h : Held N xs w) : xs.length ≤ 20000 := by
  obtain ⟨zs, ys, rfl, hB, _⟩ := h
  rw [List.length_append]
  exact hB.le
theorem Held.mem {N : Nat} {xs : List Int} {w : World} (h : Held N xs w) : N ≤ w.heap.size := by
  obtain ⟨zs, ys, rfl, hB, _⟩ := h
  exact hB.mem
/-- What an act leaves. -/
def ActPost (N : Nat) (x : List Int × Int) (w : World) (e : Ending) (w' : World) : Prop := e = .returned (.int .i64 x.2) ∧ Held N x.1 w' ∧ Below N w w'
theorem held_do {N : Nat} {xs : List Int} {w : World} (h : Held N xs w) (x : GAct) (hs : x.tx.size ≤ 1000000) (hk : (Lit.int .u8 x.kd).wf = true) (hT : Lib.Utf8Tabs 0 1 w) :
    Calls Tryd.prog 13 #[.pointer (some ⟨N, 0, none⟩), x.val] w (ActPost N (actX xs x) w) := by
  obtain ⟨zs, ys, rfl, hB, hv⟩ := h
  refine (do_any hB x hs hk hT).mono ?_
  rintro e w' ⟨he, zs', ys', hz, hB', hK⟩
  exact ⟨he, ⟨zs', ys', hz, hB', valid_act x hv⟩, hK.zero⟩
theorem held_text {N : Nat} {xs : List Int} {w : World} (h : Held N xs w) :
    Calls Tryd.prog 15 #[.pointer (some ⟨N, 0, none⟩)] w fun e w' => e = .returned (.string ⟨(joinL xs).toArray⟩) ∧ Below w.heap.size w w' := by
  obtain ⟨zs, ys, rfl, hB, hv⟩ := h
  exact btext_any hB hv
theorem held_len {N : Nat} {xs : List Int} {w : World} (h : Held N xs w) :
    Calls Tryd.prog 14 #[.pointer (some ⟨N, 0, none⟩)] w fun e w' => e = .returned (.int .i64 xs.length) ∧ ∃ q, w' = w.drewN q := by
  obtain ⟨zs, ys, rfl, hB, hv⟩ := h
  rw [List.length_append]
  exact blen_any hB
/-- What Slice tells. -/
def sliceX (xs : List Int) (a n : Int) : ByteArray × Int := if hasB xs.length a n then (⟨(joinL ((xs.drop a.toNat).take n.toNat)).toArray⟩, 0) else (⟨#[]⟩, 3)
theorem held_slice {N : Nat} {xs : List Int} {w : World} (h : Held N xs w) (a n : Int) :
    Calls Tryd.prog 28 #[.pointer (some ⟨N, 0, none⟩), .int .i64 a, .int .i64 n] w fun e w' => e = .returned (.tuple #[.string (sliceX xs a n).1, .int .i64 (sliceX xs a n).2]) ∧ Below w.heap.size w w' := by
  obtain ⟨zs, ys, rfl, hB, hv⟩ := h
  unfold sliceX
  cases hb : hasB (zs ++ ys).length a n with
  | true =>
    have hh := of_decide_eq_true hb
    rw [List.length_append] at hh
    obtain ⟨k, rfl⟩ : ∃ k : Nat, a = k := ⟨a.toNat, by omega⟩
    obtain ⟨m, rfl⟩ : ∃ m : Nat, n = m := ⟨n.toNat, by omega⟩
    simp only [if_true, Int.toNat_natCast]
    exact slice_yes hB hv k m (by omega)
  | false =>
    rw [List.length_append] at hb
    exact slice_no hB a n hb
/-- New, as a buffer that holds runes. -/
theorem held_new (s : ByteArray) (hs : s.size ≤ 1000000) (w : World) (hT : Lib.Utf8Tabs 0 1 w) :
    Calls Tryd.prog 10 #[.string s] w fun e w' => Below w.heap.size w w' ∧ ((∃ xs, e = .returned (.tuple #[.pointer (some ⟨w.heap.size, 0, none⟩), .int .i64 0]) ∧ runesL s.data.toList = some xs ∧ xs.length ≤ 20000 ∧ Held w.heap.size xs w') ∨
      ∃ c : Int, c ≠ 0 ∧ c = (insX [] 0 (runesL s.data.toList)).2 ∧ e = .returned (.tuple #[.pointer none, .int .i64 c])) := by
  refine (new_any s hs w hT).mono ?_
  rintro e w' ⟨hb, ⟨hc, rfl, zs, ys, hz, hB⟩ | ⟨hc, rfl⟩⟩
  · have hr := new_runes hc hz
    exact ⟨hb, .inl ⟨zs ++ ys, rfl, hr, by rw [List.length_append]; exact hB.le, zs, ys, rfl, hB, (text_of hr).2⟩⟩
  · exact ⟨hb, .inr ⟨_, hc, rfl, rfl⟩⟩
theorem size_join (xs : List Int) (h : xs.length ≤ 20000) : (⟨(joinL xs).toArray⟩ : ByteArray).size ≤ 1000000 := by
  have := joinL_le xs
  show (joinL xs).toArray.size ≤ 1000000
  rw [List.size_toArray]
  omega
/-- Split of a text. -/
theorem split_held (xs : List Int) (h : xs.length ≤ 20000) (hv : allValid xs = true) (w : World) :
    Calls Tryd.prog 21 #[.string ⟨(joinL xs).toArray⟩] w fun e w' => Below w.heap.size w w' ∧ ∃ v, e = .returned (.tuple #[v, .bool true]) ∧ Reads32 w' v xs := by
  refine (rsplit_any _ (size_join xs h) w).mono ?_
  rw [runes_valid hv]
  rintro e w' ⟨hb, v, he, ho⟩
  exact ⟨hb, v, he, Reads32.of_own ho⟩
end Go.Proofs.YtpldalmodcmfaaaDoor
