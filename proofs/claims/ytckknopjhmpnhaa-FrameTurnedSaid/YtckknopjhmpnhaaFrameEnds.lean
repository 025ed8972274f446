/- The program's frames: how bytes begin, the reader of them, how they end. -/
import Derived.Test.YtckknopjhmpnhaaFrameRead
import Derived.Test.YtckknopjhmpnhaaCrcPut
import Derived.Test.YtckknopjhmpnhaaCrcMore
namespace Go.Proofs.Ytckknopjhmpnhaa
open Go.RowKit Go.Shelf

/-- What is wrong with the beginning. -/
def begC (l : List UInt8) : Int := if l.length < 3 then 8 else if l.getD 0 0 ≠ 70 ∨ l.getD 1 0 ≠ 83 ∨ (l.getD 2 0 ≠ 1 ∧ l.getD 2 0 ≠ 2) then 9 else 0
/-- What the sum tells. -/
def sumC (L l : List UInt8) : Int := if sumB (L.take (L.length - 4)) = l then 0 else 10
theorem sum_test (s : ByteArray) (l pre : List UInt8) (hp : s.data.toList = pre ++ l) (h4 : l.length = 4) :
    ((!putL (Crc.sum (byteL (s.extract 0 (s.size - 4)))) == (s.extract (s.size - 4) s.size).toList) = false → sumC s.data.toList l = 0) ∧
    ((!putL (Crc.sum (byteL (s.extract 0 (s.size - 4)))) == (s.extract (s.size - 4) s.size).toList) = true → sumC s.data.toList l = 10) := by
  have hsz : s.size = pre.length + 4 := by rw [Lib.size_eq, hp, List.length_append, h4]
  have e1 := extract_head (s := s) (a := pre) (r := l) hp
  have e2 := extract_rest (s := s) (a := pre) (r := l) hp
  have e3 : s.size - 4 = pre.length := by omega
  have e4 : s.data.toList.take (s.data.toList.length - 4) = pre := by rw [← Lib.size_eq, e3, hp, List.take_left]
  rw [e3, e1, e2, Lib.toList_data]
  unfold sumC
  rw [e4]
  have e5 : putL (Crc.sum (byteL ⟨pre.toArray⟩)) = sumB pre := by unfold sumB byteL; rfl
  rw [e5]
  exact ⟨fun h => if_pos (by simpa using h), fun h => if_neg (by simpa using h)⟩
theorem keepEnds {R B : Nat} {s : ByteArray} {x W W' : World} (h : (W.cell? ⟨R, 0, none⟩ = some (.pointer (some ⟨B, 0, none⟩)) ∧ W.cell? ⟨R, 1, none⟩ = some (.string s)) ∧ Below x.heap.size x W) (hb : Below W.heap.size W W') :
    (W'.cell? ⟨R, 0, none⟩ = some (.pointer (some ⟨B, 0, none⟩)) ∧ W'.cell? ⟨R, 1, none⟩ = some (.string s)) ∧ Below x.heap.size x W' := ⟨⟨cb hb h.1.1, cb hb h.1.2⟩, h.2.trans (hb.mono h.2.size)⟩
theorem take_two (s : ByteArray) (h : 3 ≤ s.size) : (s.extract 0 2).toList = [s.data.toList.getD 0 0, s.data.toList.getD 1 0] := by
  have hl : 3 ≤ s.data.toList.length := by rw [← Lib.size_eq]; exact h
  have hx := extract_head (s := s) (a := s.data.toList.take 2) (r := s.data.toList.drop 2) (List.take_append_drop _ _).symm
  rw [List.length_take, Nat.min_eq_left (by omega)] at hx
  rw [hx, Lib.toList_data]
  match s.data.toList, hl with
  | a :: b :: c :: r, _ => rfl
theorem beg_ok (s : ByteArray) (h : 3 ≤ s.size) (h1 : (s.extract 0 2).toList = [70, 83]) (h2 : (s[2].toNat : Int) = 1 ∨ (s[2].toNat : Int) = 2) : begC s.data.toList = 0 := by
  rw [take_two s h] at h1
  have e2 := (head_tests s h).2.2
  simp only [List.cons.injEq, and_true] at h1
  unfold begC
  rw [if_neg (by rw [← Lib.size_eq]; omega), if_neg]
  rintro (q | q | ⟨q1, q2⟩)
  · exact q h1.1
  · exact q h1.2
  · rw [e2] at q1 q2
    rcases h2 with g | g
    · exact q1 (UInt8.toNat_inj.1 (by simp; omega))
    · exact q2 (UInt8.toNat_inj.1 (by simp; omega))
theorem beg_no (s : ByteArray) (h : 3 ≤ s.size) (h1 : (s.extract 0 2).toList ≠ [70, 83] ∨ (¬ (s[2].toNat : Int) = 1 ∧ ¬ (s[2].toNat : Int) = 2)) : begC s.data.toList = 9 := by
  rw [take_two s h] at h1
  have e2 := (head_tests s h).2.2
  unfold begC
  rw [if_neg (by rw [← Lib.size_eq]; omega), if_pos]
  rcases h1 with g | ⟨g1, g2⟩
  · by_cases a0 : s.data.toList.getD 0 0 = 70
    · by_cases a1 : s.data.toList.getD 1 0 = 83
      · rw [a0, a1] at g
        exact absurd rfl g
      · exact .inr (.inl a1)
    · exact .inl a0
  · refine .inr (.inr ⟨fun e => g1 ?_, fun e => g2 ?_⟩)
    · rw [e2] at e; rw [e]; rfl
    · rw [e2] at e; rw [e]; rfl
set_option maxRecDepth 100000 in
set_option maxHeartbeats 2000000 in
theorem begins_any (s : ByteArray) (w : World) (hs : s.size ≤ 1000000) :
    Calls Try.prog 24 #[.string s] w fun e w' => e = .returned (.int .i64 (begC s.data.toList)) ∧ w = w' := by
  by_cases h3 : s.size < 3
  · have HB := Lib.hid (show begC s.data.toList = 8 by unfold begC; rw [← Lib.size_eq, if_pos h3])
    go_enter Try.func24, Try.ntmps24
    go_wp2
    go_ret
    exact ⟨congrArg (fun z => Ending.returned (.int .i64 z)) HB.out.symm, rfl⟩
  · have h3' : 3 ≤ s.size := by omega
    have HO := Lib.hid (beg_ok s h3')
    have HN := Lib.hid (beg_no s h3')
    go_enter Try.func24, Try.ntmps24
    go_wp2
    all_goals go_ret
    · rename_i g1 g2
      exact ⟨congrArg (fun z => Ending.returned (.int .i64 z)) (HO.out g1 (.inl g2)).symm, rfl⟩
    · rename_i g1 g2 g3
      exact ⟨congrArg (fun z => Ending.returned (.int .i64 z)) (HN.out (.inr ⟨by simpa using g3.1, by simpa using g3.2⟩)).symm, rfl⟩
    · rename_i g1 g2 g3
      exact ⟨congrArg (fun z => Ending.returned (.int .i64 z)) (HO.out g1 (.inr (g3.elim (fun q => absurd (by simpa using q) g2) (fun q => by simpa using q)))).symm, rfl⟩
    · rename_i g1 g2
      exact ⟨congrArg (fun z => Ending.returned (.int .i64 z)) (HN.out (.inl g2)).symm, rfl⟩
set_option maxRecDepth 100000 in
set_option maxHeartbeats 2000000 in
theorem fread_any (s : ByteArray) (w : World) (hs : s.size ≤ 1000000) (h3 : 3 ≤ s.size) :
    Calls Try.prog 25 #[.string s] w fun e w' => ∃ B R, e = .returned (.pointer (some ⟨R, 0, none⟩)) ∧ w.heap.size ≤ B ∧ w.heap.size ≤ R ∧ B < R ∧ Rd B (s.extract 3 s.size) 0 w' ∧ w'.heap[R]? = some (.cells #[.pointer (some ⟨B, 0, none⟩), .string s] 75 (0, 0)) ∧ Below w.heap.size w w' := by
  have hx : (s.extract 3 s.size).size ≤ 1000000000 := by simp; omega
  have hR := read_any (s.extract 3 s.size) w hx
  go_enter Try.func25, Try.ntmps25
  go_wp2_with fail
  refine hR.mono ?_
  rintro e w1 ⟨B, rfl, hB, hrd, hb⟩
  go_wp2
  go_ret
  have hl := box_lt hrd
  exact ⟨B, w1.heap.size, rfl, hB, hb.size, hl, hrd.below ((Below.refl _ w1).alloc (Nat.le_refl _) _) hl, heap_alloc_new _ _, hb.alloc hb.size _⟩
set_option maxRecDepth 100000 in
set_option maxHeartbeats 4000000 in
theorem ends_any (s : ByteArray) (l : List UInt8) (f : Int) (B R : Nat) (w : World) (hR : w.heap[R]? = some (.cells #[.pointer (some ⟨B, 0, none⟩), .string s] 75 (0, 0))) (hrd : Rd B ⟨l.toArray⟩ f w) (hf : f ≠ 0) :
    Calls Try.prog 26 #[.pointer (some ⟨R, 0, none⟩)] w fun e w' => e = .returned (.int .i64 f) ∧ Below w.heap.size w w' := by
  have r0 : _ = some (Value.pointer (some ⟨B, 0, none⟩)) := cell_of_row _ _ 0 _ _ _ hR
  have hF := fault_any B _ f w hrd
  have hfb : (f != 0) = true := by simpa using hf
  go_enter Try.func26, Try.ntmps26
  go_wp2_with fail
  refine hF.mono ?_
  rintro e _ ⟨rfl, rfl⟩
  go_wp2
  go_ret
  exact ⟨rfl, Below.refl _ _⟩
set_option maxRecDepth 100000 in
set_option maxHeartbeats 4000000 in
theorem ends_sum (s : ByteArray) (l : List UInt8) (B R : Nat) (w : World) (hs : s.size ≤ 1000000) (hR : w.heap[R]? = some (.cells #[.pointer (some ⟨B, 0, none⟩), .string s] 75 (0, 0))) (hrd : Rd B ⟨l.toArray⟩ 0 w) (pre : List UInt8) (hp : s.data.toList = pre ++ l) (h4 : l.length = 4) :
    Calls Try.prog 26 #[.pointer (some ⟨R, 0, none⟩)] w fun e w' => e = .returned (.int .i64 (sumC s.data.toList l)) ∧ Below w.heap.size w w' := by
  have h7 : 4 ≤ s.size := by rw [Lib.size_eq, hp, List.length_append]; omega
  have HS := Lib.hid (sum_test s l pre hp h4)
  clear hp
  have r0 : _ = some (Value.pointer (some ⟨B, 0, none⟩)) := cell_of_row _ _ 0 _ _ _ hR
  have r1 : _ = some (Value.string s) := cell_of_row _ _ 1 _ _ _ hR
  have hF := fault_any B _ 0 w hrd
  have hL := left_any B _ 0 w hrd
  rw [size_bytes, h4] at hL
  clear h4
  have hx1 := fun w => csum_any (s.extract 0 (s.size - 4)) (by simp; unfold maxLen; omega) w
  have hx2 := fun w => cput_any (Crc.sum (byteL (s.extract 0 (s.size - 4)))) w
  have hkk : ((s.size : Int) - 4).toNat = s.size - 4 := by omega
  have hk0 : (0 : Int) ≤ (s.size : Int) - 4 := by omega
  go_enter Try.func26, Try.ntmps26
  go_wp2_with fail
  refine hF.mono ?_
  rintro e _ ⟨rfl, rfl⟩
  go_wp2_with fail
  refine hL.mono ?_
  rintro e _ ⟨rfl, rfl⟩
  go_wp2_with fail
  refine hL.mono ?_
  rintro e _ ⟨rfl, rfl⟩
  go_wp2_with fail
  go_region_held (fun W => (W.cell? ⟨R, 0, none⟩ = some (.pointer (some ⟨B, 0, none⟩)) ∧ W.cell? ⟨R, 1, none⟩ = some (.string s)) ∧ Below w.heap.size w W)
    (first | exact ⟨⟨r0, r1⟩, (Below.refl _ _).drew⟩ | exact keepEnds (by assumption) hb)
    (first | (go_at_call 19; refine (hx1 _).mono ?_; rintro e w2 ⟨rfl, hb⟩) | (go_at_call 18; refine (hx2 _).mono ?_; rintro e w2 ⟨rfl, hb⟩))
  all_goals
    rename_i hHeld
    have hbW := hHeld.2
    clear hHeld hF hL hx1 hx2
    go_wp2
    all_goals go_ret
    · rename_i g
      exact ⟨congrArg (fun z => Ending.returned (.int .i64 z)) (HS.out.2 g).symm, hbW⟩
    · rename_i g
      exact ⟨congrArg (fun z => Ending.returned (.int .i64 z)) (HS.out.1 g).symm, hbW⟩
theorem ends_len (s : ByteArray) (l : List UInt8) (B R : Nat) (w : World) (hR : w.heap[R]? = some (.cells #[.pointer (some ⟨B, 0, none⟩), .string s] 75 (0, 0))) (hrd : Rd B ⟨l.toArray⟩ 0 w) (hl : l.length ≤ 1000000) (h4 : l.length ≠ 4) :
    Calls Try.prog 26 #[.pointer (some ⟨R, 0, none⟩)] w fun e w' => e = .returned (.int .i64 (if l.length < 4 then 8 else 11)) ∧ Below w.heap.size w w' := by
  have r0 : _ = some (Value.pointer (some ⟨B, 0, none⟩)) := cell_of_row _ _ 0 _ _ _ hR
  have hF := fault_any B _ 0 w hrd
  have hL := left_any B _ 0 w hrd
  rw [size_bytes] at hL
  generalize l.length = n at *
  by_cases h : n < 4
  · rw [if_pos h]
    go_enter Try.func26, Try.ntmps26
    go_wp2_with fail
    refine hF.mono ?_
    rintro e _ ⟨rfl, rfl⟩
    go_wp2_with fail
    refine hL.mono ?_
    rintro e _ ⟨rfl, rfl⟩
    go_wp2
    go_ret
    exact ⟨rfl, Below.refl _ _⟩
  · rw [if_neg h]
    have h5 : 4 < n := by omega
    clear h4
    go_enter Try.func26, Try.ntmps26
    go_wp2_with fail
    refine hF.mono ?_
    rintro e _ ⟨rfl, rfl⟩
    go_wp2_with fail
    refine hL.mono ?_
    rintro e _ ⟨rfl, rfl⟩
    go_wp2_with fail
    refine hL.mono ?_
    rintro e _ ⟨rfl, rfl⟩
    go_wp2
    go_ret
    exact ⟨rfl, Below.refl _ _⟩
/-- How the fields' bytes end. -/
def endC (L : List UInt8) (r : List UInt8 × Int) : Int := if r.2 ≠ 0 then r.2 else if r.1.length < 4 then 8 else if 4 < r.1.length then 11 else sumC L r.1
theorem fends_any (s : ByteArray) (r : List UInt8 × Int) (B R : Nat) (w : World) (hs : s.size ≤ 1000000) (hR : w.heap[R]? = some (.cells #[.pointer (some ⟨B, 0, none⟩), .string s] 75 (0, 0))) (hrd : Rd B ⟨r.1.toArray⟩ r.2 w) (pre : List UInt8) (hp : s.data.toList = pre ++ r.1) :
    Calls Try.prog 26 #[.pointer (some ⟨R, 0, none⟩)] w fun e w' => e = .returned (.int .i64 (endC s.data.toList r)) ∧ Below w.heap.size w w' := by
  have hl : r.1.length ≤ 1000000 := by
    have : s.data.toList.length = pre.length + r.1.length := by rw [hp, List.length_append]
    rw [← Lib.size_eq] at this
    omega
  obtain ⟨l, f⟩ := r
  simp only at hrd hp hl
  by_cases h0 : f = 0
  · subst h0
    by_cases h4 : l.length = 4
    · rw [show endC s.data.toList (l, 0) = sumC s.data.toList l by unfold endC; rw [if_neg (by simp), if_neg (by simp only; omega), if_neg (by simp only; omega)]]
      exact ends_sum s l B R w hs hR hrd pre hp h4
    · rw [show endC s.data.toList (l, 0) = if l.length < 4 then 8 else 11 by
        unfold endC
        rw [if_neg (by simp)]
        by_cases h : l.length < 4
        · rw [if_pos h, if_pos h]
        · rw [if_neg h, if_neg h, if_pos (by simp only; omega)]]
      exact ends_len s l B R w hR hrd hl h4
  · rw [show endC s.data.toList (l, f) = f by unfold endC; rw [if_pos h0]]
    exact ends_any s l f B R w hR hrd h0
end Go.Proofs.Ytckknopjhmpnhaa
