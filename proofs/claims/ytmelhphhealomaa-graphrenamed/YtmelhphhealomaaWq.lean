/- Two values are compared. -/
import Derived.Test.YtmelhphhealomaaProg
import Derived.Test.YtmelhphhealomaaMem
import Derived.Laws.StructEq
namespace Go.Proofs.Ytmelhphhealomaa
set_option linter.unusedSimpArgs false
set_option linter.unusedVariables false
open Go.RowKit

theorem eql_in (r1 r2 : Bool) (n1 n2 : Int) (w : World) : (Op.equalIn 10000 35 (.agg #[.bool r1, .int .i64 n1]) (.agg #[.bool r2, .int .i64 n2])).run Try.prog w = .ok (r1 == r2 && n1 == n2) w := by
  have u2 := Try.underlying2
  have a2 := Try.isAgg2
  have z2 := Try.sizeOf2
  have u4 := Try.underlying4
  have a4 := Try.isAgg4
  have z4 := Try.sizeOf4
  have hS : Try.prog.underlying 35 = some (.struct (Try.prog.fieldsOf 35)) := by kernel_rfl
  have hp : Try.prog.stoodInHeld 35 = false := by kernel_rfl
  rw [show (10000 : Nat) = 9999 + 1 from rfl, run_equalIn_agg w 9999 35 _ _ hS hp]
  simp only [Program.fieldsOf, Try.underlying35]
  go_simp
  cases r1 <;> cases r2 <;> by_cases h2 : n1 = n2 <;> simp [h2]

theorem guard35 : Try.prog.eqGuardType Try.prog.depth 35 = false := by kernel_rfl

theorem neq_v (r1 r2 : Bool) (n1 n2 : Int) (w : World) : (binOp .neq 35 (.agg #[.bool r1, .int .i64 n1]) (.agg #[.bool r2, .int .i64 n2])).run Try.prog w = .ok (.bool (!(r1 == r2 && n1 == n2))) w := by
  rw [run_neq_struct, eql_in]; rfl

theorem eql_v (r1 r2 : Bool) (n1 n2 : Int) (w : World) : (binOp .eql 35 (.agg #[.bool r1, .int .i64 n1]) (.agg #[.bool r2, .int .i64 n2])).run Try.prog w = .ok (.bool (r1 == r2 && n1 == n2)) w := by
  rw [run_eql_struct, eql_in]; rfl

end Go.Proofs.Ytmelhphhealomaa
