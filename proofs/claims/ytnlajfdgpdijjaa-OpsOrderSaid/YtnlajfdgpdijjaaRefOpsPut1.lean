/- The document's operations: an insertion's bytes. -/
import Derived.Test.YtnlajfdgpdijjaaRefOpsAny
import Derived.Test.YtnlajfdgpdijjaaOpsBytesPlain
import Derived.Deep.RegionHeld
namespace Go.Proofs.Ytnlajfdgpdijjaa
open Go.RowKit
open Go.Lib (uvarint)

theorem ret_str {a b : ByteArray} (h : a = b) : Ending.returned (.string a) = .returned (.string b) := by rw [h]
theorem size_bytes8 (a : List UInt8) : (⟨a.toArray⟩ : ByteArray).size = a.length := by rw [Lib.size_eq]
theorem cat_bytes8 (a b : List UInt8) : (⟨a.toArray⟩ : ByteArray) ++ ⟨b.toArray⟩ = ⟨(a ++ b).toArray⟩ := by
  apply bytes_same
  simp
theorem OBox.drew {N : Nat} {s q n k a : Int} {t : ByteArray} {sp : Value} {w W : World} (h : OBox N s q n k a t sp w W) : OBox N s q n k a t sp w W.drew := h.draws 1
/-- A number's bytes, as a value that is not looked into. -/
theorem num_some (x : Nat) (hx : x < 9223372036854775808) : ∃ A : ByteArray, A.size ≤ 10 ∧ A = ⟨(uvarint x).toArray⟩ ∧ ∀ w, Calls Try.prog 48 #[.int .i64 x] w fun e w' => e = .returned (.string A) ∧ Below w.heap.size w w' :=
  ⟨_, by rw [size_bytes8]; exact Lib.uvarint_length64 (by omega), rfl, fun w => rOn_any x hx w⟩
set_option maxRecDepth 100000 in
set_option maxHeartbeats 4000000 in
theorem rOPut_ins (S Q M P : Nat) (t : ByteArray) (sp : Value) (hS : S ≤ 16) (hQ : Q ≤ 1099511627776) (hM : M ≤ 1099511627776) (hP : P ≤ 20000) (ht : t.size ≤ 1000) (w : World) :
    Calls Try.prog 22 #[opV S Q M 1 P t sp] w fun e w' => e = .returned (.string ⟨(oPut ⟨S, Q, M, 1, P, t.data.toList, []⟩).toArray⟩) ∧ Below w.heap.size w w' := by
  obtain ⟨A1, s1, hA1, q1⟩ := num_some S (by omega)
  obtain ⟨A2, s2, hA2, q2⟩ := num_some Q (by omega)
  obtain ⟨A3, s3, hA3, q3⟩ := num_some M (by omega)
  obtain ⟨A4, s4, hA4, q4⟩ := num_some 1 (by omega)
  obtain ⟨A5, s5, hA5, q5⟩ := num_some P (by omega)
  rw [show (((1 : Nat) : Int)) = 1 from rfl] at q4
  have q6 := fun w => rputText_any t (by omega) w
  obtain ⟨A6, hA6⟩ : ∃ A : ByteArray, A = ⟨(rowL t.data.toList).toArray⟩ := ⟨_, rfl⟩
  rw [← hA6] at q6
  have s6 : A6.size ≤ 1010 := by rw [hA6, size_bytes8]; unfold rowL; rw [List.length_append, ← Lib.size_eq]; have := Lib.uvarint_length64 (x := t.size) (by omega); omega
  have hE : A1 ++ A2 ++ A3 ++ A4 ++ A5 ++ A6 = ⟨(oPut ⟨S, Q, M, 1, P, t.data.toList, []⟩).toArray⟩ := by
    rw [hA1, hA2, hA3, hA4, hA5, hA6]
    simp only [cat_bytes8]
    unfold oPut
    simp [show Int.toNat 1 = 1 from rfl]
  have HE := Lib.hid hE
  clear hE hA1 hA2 hA3 hA4 hA5 hA6
  have k1 : ¬ 9223372036854775807 < A1.size + A2.size := by omega
  have k2 : ¬ 9223372036854775807 < A1.size + A2.size + A3.size := by omega
  have k3 : ¬ 9223372036854775807 < A1.size + A2.size + A3.size + A4.size := by omega
  have k4 : ¬ 9223372036854775807 < A1.size + A2.size + A3.size + A4.size + A5.size := by omega
  have k5 : ¬ 9223372036854775807 < A1.size + A2.size + A3.size + A4.size + A5.size + A6.size := by omega
  have hb0 := OBox.new (S : Int) (Q : Int) (M : Int) 1 (P : Int) t sp w 26
  unfold opV
  go_enter Try.func22, Try.ntmps22
  go_wp2_with fail
  generalize w.alloc (.cells #[.int .i64 (S : Int), .int .i64 (Q : Int), .int .i64 (M : Int), .int .i64 1, .int .i64 (P : Int), .string t, sp] 26) = w0 at *
  go_region_held (fun W => W.cell? ⟨w.heap.size, 0, none⟩ = some (.int .i64 (S : Int)) ∧ W.cell? ⟨w.heap.size, 1, none⟩ = some (.int .i64 (Q : Int)) ∧ W.cell? ⟨w.heap.size, 2, none⟩ = some (.int .i64 (M : Int)) ∧ W.cell? ⟨w.heap.size, 3, none⟩ = some (.int .i64 1) ∧ W.cell? ⟨w.heap.size, 4, none⟩ = some (.int .i64 (P : Int)) ∧ W.cell? ⟨w.heap.size, 5, none⟩ = some (.string t) ∧ W.cell? ⟨w.heap.size, 6, none⟩ = some sp ∧ Below w.heap.size w W)
    (first | exact OBox.drew hb0 | assumption | exact OBox.keep (by assumption) hb)
    (first | (go_at_call 48; (first | (with_reducible refine (q1 _).mono ?_) | (with_reducible refine (q2 _).mono ?_) | (with_reducible refine (q3 _).mono ?_) | (with_reducible refine (q4 _).mono ?_)); rintro e w2 ⟨rfl, hb⟩))
  all_goals
    rename_i hHeld
    have hH2 := OBox.drew hHeld
    obtain ⟨d0, d1, d2, d3, d4, d5, d6, hbW⟩ := id hHeld
    clear hHeld hb0 q1 q2 q3 q4
    go_wp2_with fail
    clear d0 d1 d2 d3 d4 d5 d6
    go_region_held (fun W => W.cell? ⟨w.heap.size, 0, none⟩ = some (.int .i64 (S : Int)) ∧ W.cell? ⟨w.heap.size, 1, none⟩ = some (.int .i64 (Q : Int)) ∧ W.cell? ⟨w.heap.size, 2, none⟩ = some (.int .i64 (M : Int)) ∧ W.cell? ⟨w.heap.size, 3, none⟩ = some (.int .i64 1) ∧ W.cell? ⟨w.heap.size, 4, none⟩ = some (.int .i64 (P : Int)) ∧ W.cell? ⟨w.heap.size, 5, none⟩ = some (.string t) ∧ W.cell? ⟨w.heap.size, 6, none⟩ = some sp ∧ Below w.heap.size w W)
      (first | exact hH2 | assumption | exact OBox.keep (by assumption) hb)
      (first | (go_at_call 48; refine (q5 _).mono ?_; rintro e w2 ⟨rfl, hb⟩) | (go_at_call 49; refine (q6 _).mono ?_; rintro e w2 ⟨rfl, hb⟩))
    all_goals
      rename_i hHeld
      have hz := hHeld.2.2.2.2.2.2.2
      clear hHeld hH2
      go_wp2
      go_ret
      exact ⟨ret_str HE.out, hz⟩
end Go.Proofs.Ytnlajfdgpdijjaa
