/- Len: how many runes. -/
import Derived.Test.YtpldalmodcmfaaaDoorMay
import Derived.Laws.RangeString
import Derived.Laws.RangeAny
namespace Go.Proofs.YtpldalmodcmfaaaDoor
open Go.RowKit Go.Shelf

def lenL (l : List UInt8) : Int := match runesL l with | some rs => rs.length | none => -1
theorem lenL_some {l : List UInt8} {rs : List Int} (h : runesL l = some rs) : lenL l = rs.length := by rw [lenL, h]
theorem lenL_none {l : List UInt8} (h : runesL l = none) : lenL l = -1 := by rw [lenL, h]
theorem ret_intL {k : IntKind} {a b : Int} (h : a = b) : Ending.returned (.int k a) = .returned (.int k b) := by rw [h]

theorem decode_pos (s : ByteArray) (pos : Nat) : Utf8.decode s pos = Lib.decodeL (s.data.toList.drop pos) := by
  have g : ∀ i, s.get! i = s.data.toList.getD i 0 := fun i => get!_list s.data.toList i
  rw [Lib.decode_at, decodeL_eq, g, g, g, g, List.length_drop, ← Lib.size_eq]
  simp

set_option maxRecDepth 100000 in
set_option maxHeartbeats 1000000 in
theorem len_any (s : ByteArray) (hs : s.size ≤ maxLen) (w : World) (hT : Lib.Utf8Tabs 0 1 w) :
    Calls Tryd.prog 42 #[.string s] w fun e W' => e = .returned (.int .i64 (lenL s.data.toList)) ∧ Below w.heap.size w W' := by
  have hM := may_any s hs w hT
  unfold maxLen at hs
  cases hr : runesL s.data.toList with
  | none =>
    rw [show mayB s.data.toList = false by unfold mayB; rw [hr]; rfl] at hM
    rw [lenL_none hr]
    clear hr
    go_enter Tryd.func42, Tryd.ntmps42
    go_wp2_with (go_at_call 58; refine hM.mono ?_; rintro e w1 ⟨rfl, hb⟩)
    go_ret
    exact ⟨rfl, hb⟩
  | some rs =>
    rw [show mayB s.data.toList = true by unfold mayB; rw [hr]; rfl] at hM
    rw [lenL_some hr]
    have hlen : rs.length ≤ s.size := by
      have h1 := itF_length s.data.toList.length 0 s.data.toList (Nat.le_refl _)
      rw [itF_some _ 0 _ rs (Nat.le_refl _) hr, ← Lib.size_eq] at h1
      have h2 := congrArg List.length (placesL_snd 0 rs)
      rw [List.length_map] at h2
      omega
    go_enter Tryd.func42, Tryd.ntmps42
    go_wp2_with (go_at_call 58; refine hM.mono ?_; rintro e w1 ⟨rfl, hb⟩)
    go_loopw [3] (fun n w' => ∃ (pos acc : Nat) (rest : List Int), w' = w1.iter s pos ∧ n = .int .i64 acc ∧ acc + rest.length = rs.length ∧ runesL (s.data.toList.drop pos) = some rest) (fun _ w' => s.size - w'.iterPos w1.heap.size)
    case atStart => exact ⟨0, 0, rs, rfl, rfl, by simp, hr⟩
    case round =>
      obtain ⟨pos, acc, rest, rfl, rfl, hc, hrest⟩ := hrel
      by_cases hp : pos < s.size
      · have hnx : ∀ ty, (Instr.next (.pointer (some ⟨w1.heap.size, 0, none⟩)) true ty).run Tryd.prog (w1.iter s pos) = _ := fun ty => run_next_any w1 s pos ty hp
        rw [decode_pos] at hnx
        have hne : s.data.toList.drop pos ≠ [] := by
          intro e
          have h1 := congrArg List.length e
          have h2 := Lib.size_eq s
          rw [List.length_drop, List.length_nil] at h1
          omega
        have hbad : badL (s.data.toList.drop pos) = false := by
          cases hb' : badL (s.data.toList.drop pos) with
          | false => rfl
          | true => rw [runesL_bad _ hne hb'] at hrest; cases hrest
        obtain ⟨hR1, hK1, _, _⟩ := decodeL_bound _ hne hbad
        rw [runesL_step _ hne hbad, List.drop_drop] at hrest
        generalize (Lib.decodeL (s.data.toList.drop pos)).1 = R at *
        generalize (Lib.decodeL (s.data.toList.drop pos)).2 = K at *
        cases hr2 : runesL (s.data.toList.drop (pos + K)) with
        | none => rw [hr2] at hrest; cases hrest
        | some r2 =>
          rw [hr2] at hrest
          obtain rfl : (R : Int) :: r2 = rest := by simpa using hrest
          have hc' : acc + 1 + r2.length = rs.length := by rw [List.length_cons] at hc; omega
          have Hr := Lib.hid hr2
          have Hc := Lib.hid hc'
          have hacc : acc < rs.length := by omega
          clear hr2 hc hc' hrest hr hbad hne
          go_wp2
          go_roundw
          case rel => exact ⟨pos + K, acc + 1, r2, rfl, by go_num, Hc.out, Hr.out⟩
          case measure => simp; omega
      · have hnx : ∀ ty, (Instr.next (.pointer (some ⟨w1.heap.size, 0, none⟩)) true ty).run Tryd.prog (w1.iter s pos) = _ := fun ty => run_next_end w1 s pos ty hp
        have hd : s.data.toList.drop pos = [] := by
          rw [List.drop_eq_nil_iff, ← Lib.size_eq]
          omega
        rw [hd, runesL_nil] at hrest
        obtain rfl : [] = rest := by simpa using hrest
        have hacc : acc = rs.length := by simpa using hc
        have Hacc := Lib.hid hacc
        clear hacc hc hrest hd hr
        go_wp2
        go_ret
        exact ⟨ret_intL (by rw [Hacc.out]), hb.trans ((Below.refl _ _).alloc hb.size _)⟩
end Go.Proofs.YtpldalmodcmfaaaDoor
