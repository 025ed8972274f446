/- The statements' own example; two frames held against each other. -/
import Derived.Test.YtckknopjhmpnhaaFramePut2
import Derived.Test.YtckknopjhmpnhaaFrameGet2
import Derived.Test.YtckknopjhmpnhaaFrameOf
import Derived.Laws.StructEq
namespace Go.Proofs.Ytckknopjhmpnhaa
open Go.RowKit Go.Shelf

set_option maxRecDepth 100000 in
set_option maxHeartbeats 2000000 in
theorem falive_any (w : World) : Calls Try.prog 8 #[] w fun e w' => e = .returned (.bool true) ∧ Below w.heap.size w w' := by
  have hP := fun w => pFPut_any ⟨2, 3, 0, 5, []⟩ (by decide) w
  rw [show frOf ⟨2, 3, 0, 5, []⟩ = .agg #[.int .i64 2, .int .i64 3, .int .i64 0, .int .i64 5, .string ⟨#[]⟩] from rfl] at hP
  have hh : frHead ⟨2, 3, 0, 5, []⟩ = [70, 83, 2, 3, 5] := by
    unfold frHead
    simp only [Lib.uvarint_small (show 3 < 128 by decide), Lib.uvarint_small (show 5 < 128 by decide)]
    rfl
  obtain ⟨A, hA⟩ : ∃ A : ByteArray, A = ⟨(frPut ⟨2, 3, 0, 5, []⟩).toArray⟩ := ⟨_, rfl⟩
  rw [← hA] at hP
  have hl : A.data.toList = [70, 83, 2, 3, 5] ++ sumB [70, 83, 2, 3, 5] := by rw [hA]; unfold frPut; rw [hh]
  have hs : A.size = 9 := by rw [Lib.size_eq, hl]; rfl
  have hx := extract_head (s := A) (a := [70, 83, 2, 3, 5]) (r := sumB [70, 83, 2, 3, 5]) hl
  rw [show ([70, 83, 2, 3, 5] : List UInt8).length = 5 from rfl] at hx
  clear hA hh hl
  go_enter Try.func8, Try.ntmps8
  go_wp2_with fail
  refine (hP _).mono ?_
  clear hP
  rintro e w1 ⟨rfl, hb⟩
  go_wp2
  go_ret
  exact ⟨rfl, hb⟩
set_option maxHeartbeats 2000000 in
theorem eqG (w : World) (k s q a k' s' q' a' : Int) (b b' : ByteArray) :
    (Op.equalIn 10000 28 (.agg #[.int .i64 k, .int .i64 s, .int .i64 q, .int .i64 a, .string b]) (.agg #[.int .i64 k', .int .i64 s', .int .i64 q', .int .i64 a', .string b'])).run Try.prog w = .ok (k == k' && s == s' && q == q' && a == a' && b.toList == b'.toList) w := by
  have gi := Try.underlying3
  have gs := Try.underlying9
  have ga := Try.isAgg3
  have gz := Try.sizeOf3
  have ha := Try.isAgg9
  have hz := Try.sizeOf9
  rw [show (10000 : Nat) = 9999 + 1 from rfl, run_equalIn_struct w 9999 28 _ _ (by kernel_rfl) (by kernel_rfl)]
  simp only [Program.fieldsOf, Try.underlying28]
  simp only [Op.eqFields]
  go_simp
  by_cases h0 : k = k' <;> by_cases h1 : s = s' <;> by_cases h2 : q = q' <;> by_cases h3 : a = a' <;> by_cases h4 : b.toList = b'.toList <;> simp [h0, h1, h2, h3, h4]
set_option maxHeartbeats 2000000 in
theorem eqR (w : World) (k s q a k' s' q' a' : Int) (b b' : ByteArray) :
    (Op.equalIn 10000 23 (.agg #[.int .i64 k, .int .i64 s, .int .i64 q, .int .i64 a, .string b]) (.agg #[.int .i64 k', .int .i64 s', .int .i64 q', .int .i64 a', .string b'])).run Try.prog w = .ok (k == k' && s == s' && q == q' && a == a' && b.toList == b'.toList) w := by
  have gi := Try.underlying3
  have gs := Try.underlying9
  have ga := Try.isAgg3
  have gz := Try.sizeOf3
  have ha := Try.isAgg9
  have hz := Try.sizeOf9
  rw [show (10000 : Nat) = 9999 + 1 from rfl, run_equalIn_struct w 9999 23 _ _ (by kernel_rfl) (by kernel_rfl)]
  simp only [Program.fieldsOf, Try.underlying23]
  simp only [Op.eqFields]
  go_simp
  by_cases h0 : k = k' <;> by_cases h1 : s = s' <;> by_cases h2 : q = q' <;> by_cases h3 : a = a' <;> by_cases h4 : b.toList = b'.toList <;> simp [h0, h1, h2, h3, h4]
theorem eqR_eql (w : World) (k s q a k' s' q' a' : Int) (b b' : ByteArray) (x : Bool) (hx : (k == k' && s == s' && q == q' && a == a' && b.toList == b'.toList) = x) :
    (binOp .eql 23 (.agg #[.int .i64 k, .int .i64 s, .int .i64 q, .int .i64 a, .string b]) (.agg #[.int .i64 k', .int .i64 s', .int .i64 q', .int .i64 a', .string b'])).run Try.prog w = .ok (.bool (x)) w := by
  rw [run_eql_struct, eqR, hx]; rfl
theorem eqR_neq (w : World) (k s q a k' s' q' a' : Int) (b b' : ByteArray) (x : Bool) (hx : (k == k' && s == s' && q == q' && a == a' && b.toList == b'.toList) = x) :
    (binOp .neq 23 (.agg #[.int .i64 k, .int .i64 s, .int .i64 q, .int .i64 a, .string b]) (.agg #[.int .i64 k', .int .i64 s', .int .i64 q', .int .i64 a', .string b'])).run Try.prog w = .ok (.bool (!x)) w := by
  rw [run_neq_struct, eqR, hx]; rfl
theorem eqG_eql (w : World) (k s q a k' s' q' a' : Int) (b b' : ByteArray) (x : Bool) (hx : (k == k' && s == s' && q == q' && a == a' && b.toList == b'.toList) = x) :
    (binOp .eql 28 (.agg #[.int .i64 k, .int .i64 s, .int .i64 q, .int .i64 a, .string b]) (.agg #[.int .i64 k', .int .i64 s', .int .i64 q', .int .i64 a', .string b'])).run Try.prog w = .ok (.bool (x)) w := by
  rw [run_eql_struct, eqG, hx]; rfl
theorem eqG_neq (w : World) (k s q a k' s' q' a' : Int) (b b' : ByteArray) (x : Bool) (hx : (k == k' && s == s' && q == q' && a == a' && b.toList == b'.toList) = x) :
    (binOp .neq 28 (.agg #[.int .i64 k, .int .i64 s, .int .i64 q, .int .i64 a, .string b]) (.agg #[.int .i64 k', .int .i64 s', .int .i64 q', .int .i64 a', .string b'])).run Try.prog w = .ok (.bool (!x)) w := by
  rw [run_neq_struct, eqG, hx]; rfl
end Go.Proofs.Ytckknopjhmpnhaa
