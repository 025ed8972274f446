/- Two names held against each other. -/
import Derived.Test.YthbophioohcphaaDoorRefVect
import Derived.Laws.StructEq
namespace Go.Proofs.YthbophioohcphaaDoor
open Go.RowKit

set_option maxHeartbeats 2000000 in
theorem nmEq (w : World) (s q s' q' : Int) :
    (Op.equalIn 10000 23 (.agg #[.int .i64 s, .int .i64 q]) (.agg #[.int .i64 s', .int .i64 q'])).run Tryd.prog w = .ok (s == s' && q == q') w := by
  have gi := Tryd.underlying3
  have ga := Tryd.isAgg3
  have gz := Tryd.sizeOf3
  rw [show (10000 : Nat) = 9999 + 1 from rfl, run_equalIn_struct w 9999 23 _ _ (by kernel_rfl) (by kernel_rfl)]
  simp only [Program.fieldsOf, Tryd.underlying23]
  simp only [Op.eqFields]
  go_simp
  by_cases h0 : s = s' <;> by_cases h1 : q = q' <;> simp [h0, h1]
theorem nmEq_eql (w : World) (s q s' q' : Int) (x : Bool) (hx : (s == s' && q == q') = x) :
    (binOp .eql 23 (.agg #[.int .i64 s, .int .i64 q]) (.agg #[.int .i64 s', .int .i64 q'])).run Tryd.prog w = .ok (.bool x) w := by
  rw [run_eql_struct, nmEq, hx]; rfl
theorem nmEq_neq (w : World) (s q s' q' : Int) (x : Bool) (hx : (s == s' && q == q') = x) :
    (binOp .neq 23 (.agg #[.int .i64 s, .int .i64 q]) (.agg #[.int .i64 s', .int .i64 q'])).run Tryd.prog w = .ok (.bool (!x)) w := by
  rw [run_neq_struct, nmEq, hx]; rfl
end Go.Proofs.YthbophioohcphaaDoor
