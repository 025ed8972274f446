/- The document's Split. -/
import Derived.Test.YtnlajfdgpdijjaaFirst
import Derived.Maps.AppendAt
import Derived.RangeFuncBox
namespace Go.Proofs.Ytnlajfdgpdijjaa
open Go.RowKit

theorem infoI32' : (Try.prog.info? 21).map (fun i => (i.zero, i.size, i.bytes)) = some (some (.int .i32 0), 1, 4) := by kernel_rfl
def strLen : Value → Nat | .string t => t.size | _ => 0
theorem extract_tail (t : ByteArray) (k : Nat) : (t.extract k t.size).data.toList = t.data.toList.drop k := by
  rw [Lib.extract_data, List.take_of_length_le]
  rw [List.length_drop, Lib.size_eq]; omega

/-- What Split tells. -/
def SplitPost (w : World) (o : Option (List Int)) (e : Ending) (w' : World) : Prop :=
  Below w.heap.size w w' ∧ match o with
    | none => e = .returned (.tuple #[.slice none 0 0, .bool false])
    | some rs => ∃ v, e = .returned (.tuple #[v, .bool true]) ∧ w'.ownsRow w.heap.size 21 1 v rs.length (rs.map (Value.int .i32))

set_option maxRecDepth 100000 in
set_option maxHeartbeats 1000000 in
theorem rsplit_any (s : ByteArray) (hs : s.size ≤ 1000000) (w : World) :
    Calls Try.prog 53 #[.string s] w (SplitPost w (runesL s.data.toList)) := by
  obtain ⟨i0, hi, hz0, hz1, hz2⟩ := info_parts infoI32'
  go_enter Try.func53, Try.ntmps53
  go_wp2
  go_loopw [0, 4] (fun sv v wr => ∃ (t : ByteArray) (acc : List Int), sv = .string t ∧ wr.ownsRow w.heap.size 21 1 v acc.length (acc.map (Value.int .i32)) ∧ runesL s.data.toList = (runesL t.data.toList).map (acc ++ ·) ∧ acc.length + t.size ≤ s.size ∧ Below w.heap.size w wr) (fun sv _ _ => strLen sv)
  case atStart => exact ⟨s, [], rfl, World.ownsRow_nil _ _ _ _, by cases runesL s.data.toList <;> rfl, by simp, Below.refl _ _⟩
  case round =>
    obtain ⟨t, acc, rfl, hown, hr, hlen, hb⟩ := hrel
    have Hr := Lib.hid hr
    clear hr
    rcases Nat.eq_zero_or_pos t.size with h0 | h0
    · have ht : t.data.toList = [] := List.eq_nil_of_length_eq_zero (by rw [← Lib.size_eq]; exact h0)
      have hfin : runesL s.data.toList = some acc := by rw [Hr.out, ht]; simp [runesL_nil]
      have Hf := Lib.hid hfin
      have h0' : ¬ (0 : Int) < (t.size : Int) := by omega
      clear hfin ht h0
      go_wp2
      go_ret2
      rw [Hf.out]
      exact ⟨hb, u4, rfl, hown⟩
    · have h0' : (0 : Int) < (t.size : Int) := by omega
      have hF := fun w => first_any t (by omega) h0 w
      cases hbad : badL t.data.toList with
      | true =>
        rw [firstR_bad hbad, firstK_bad hbad] at hF
        have hfin : runesL s.data.toList = none := by rw [Hr.out, runesL_bad _ (nonempty_of h0) hbad]; rfl
        have Hf := Lib.hid hfin
        clear hfin hbad
        go_wp2_with (go_at_call 59; refine (hF _).mono ?_; rintro e w1 ⟨rfl, hb1⟩)
        go_ret2
        rw [Hf.out]
        exact ⟨hb.trans (hb1.mono hb.size), rfl⟩
      | false =>
        have hstep := runesL_step _ (nonempty_of h0) hbad
        obtain ⟨b1, b2, b3, b4⟩ := decodeL_bound _ (nonempty_of h0) hbad
        have eR : firstR t.data.toList = ((Lib.decodeL t.data.toList).1 : Int) := by unfold firstR; rw [hbad]; rfl
        have eK : firstK t.data.toList = (Lib.decodeL t.data.toList).2 := by unfold firstK; rw [hbad]; rfl
        rw [eR, eK] at hF
        rw [← Lib.size_eq] at b4
        generalize (Lib.decodeL t.data.toList).1 = R at *
        generalize (Lib.decodeL t.data.toList).2 = K at *
        have hK0 : ((K : Int) == 0) = false := beq_eq_false_iff_ne.2 (by omega)
        have hnext : runesL s.data.toList = (runesL (t.extract K t.size).data.toList).map ((acc ++ [(R : Int)]) ++ ·) := by
          rw [Hr.out, hstep, extract_tail]
          cases runesL (t.data.toList.drop K) <;> simp
        have Hn := Lib.hid hnext
        clear hnext hstep eR eK hbad
        go_wp2_with (first
          | (go_at_call 59; refine (hF _).mono ?_; clear hF; rintro e w1 ⟨rfl, hb1⟩; have hown1 := hown.kept (w' := w1) (row := none) ⟨hb1.os, hb1.tape, hb1.output, hb1.size, fun i hi _ => hb1.block i hi⟩ (Decidable.em (u4.ownBlock = none)); have hbw1 := hb.trans (hb1.mono hb.size))
          | (at_builtin; go_must (refine wpList_append_own _ rfl _ _ 96 rfl w.heap.size 21 i0 (.int .i32 0) 1 4 Try.underlying96 hi hz0 hz1 hz2 rfl (by decide) _ _ _ rfl (hown1.alloc _) ⟨w1.heap.size, 0, none⟩ 1 1 [.int .i32 R] rfl rfl (cell_one_new _ _ _) (by simp [Value.oneCell']) (by unfold maxLen; omega) (by omega) (by have := hbw1.size; simp; omega) ?_; intro v' w3 hown' hgrow _)))
        refine ⟨⟨_, acc ++ [(R : Int)], rfl, by simpa using hown', Hn.out, by simp; omega, ?_⟩, by simp [strLen]; omega⟩
        exact (hbw1.alloc hbw1.size _).grown hgrow (by have := hbw1.size; simp; omega) (fun k hk => (hown1.lt k hk).1)

set_option maxHeartbeats 400000 in
theorem rlen_any (s : ByteArray) (hs : s.size ≤ 1000000) (w : World) :
    Calls Try.prog 37 #[.string s] w fun e w' => e = .returned (.int .i64 (match runesL s.data.toList with | some rs => (rs.length : Int) | none => -1)) ∧ Below w.heap.size w w' := by
  have hS := rsplit_any s hs w
  cases hr : runesL s.data.toList with
  | none =>
    rw [hr] at hS
    clear hr
    go_enter Try.func37, Try.ntmps37
    go_wp2_with (go_at_call 53; refine hS.mono ?_; rintro e w1 ⟨hb, rfl⟩)
    go_ret
    exact ⟨rfl, hb⟩
  | some rs =>
    rw [hr] at hS
    clear hr
    go_enter Try.func37, Try.ntmps37
    go_wp2_with fail
    refine hS.mono ?_
    rintro e w1 ⟨hb, v, rfl, hown⟩
    obtain ⟨ao, cap, rfl⟩ : ∃ ao cap, v = .slice ao rs.length cap := by
      rcases hown.2 with ⟨hv, h0⟩ | ⟨g, cap, cur, hv, _⟩
      · exact ⟨none, 0, by rw [hv, h0]⟩
      · exact ⟨_, _, hv⟩
    go_wp2
    go_ret
    exact ⟨rfl, hb⟩
end Go.Proofs.Ytnlajfdgpdijjaa
