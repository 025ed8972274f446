/- Two arrays of four bytes, held against each other. -/
import Derived.Test.YtckknopjhmpnhaaConvOwn
import Derived.Laws.StructEq
namespace Go.Proofs.Ytckknopjhmpnhaa
open Go.RowKit

theorem eq_four (a0 a1 a2 a3 : Int) (w : World) :
    (Op.equalIn 10000 41 (.agg #[.int .u8 a0, .int .u8 a1, .int .u8 a2, .int .u8 a3]) (.agg #[.int .u8 0, .int .u8 0, .int .u8 0, .int .u8 0])).run Try.prog w = .ok (a0 == 0 && a1 == 0 && a2 == 0 && a3 == 0) w := by
  have gu := Try.underlying5
  have ga := Try.isAgg5
  have gz := Try.sizeOf5
  rw [show (10000 : Nat) = 9999 + 1 from rfl, Op.equalIn]
  simp only [Sem.run_bind, run_underlying Try.underlying41, Result.andThen_ok]
  simp only [Std.Legacy.Range.forIn_eq_forIn_range', Std.Legacy.Range.size, Nat.sub_zero, Nat.add_sub_cancel, Nat.div_one, List.range'_succ, List.range'_zero, List.forIn_cons, List.forIn_nil]
  go_simp
  by_cases h0 : a0 = 0 <;> by_cases h1 : a1 = 0 <;> by_cases h2 : a2 = 0 <;> by_cases h3 : a3 = 0 <;> simp [h0, h1, h2, h3]
end Go.Proofs.Ytckknopjhmpnhaa
