import Derived.Test.YtechocnednepiaaProg
import Derived.WalkKit
import Derived.Laws.StructEq
/- Two prefixes held against each other as wholes: what the model's comparison gives. -/
namespace Go.Proofs.Ytechocnednepiaa

theorem guardP : Try.prog.eqGuardType Try.prog.depth 30 = false := by kernel_rfl

theorem eqP (a b c d : Int) (w : World) : (binOp .eql 30 (.agg #[.int .u32 a, .int .i64 b]) (.agg #[.int .u32 c, .int .i64 d])).run Try.prog w = .ok (.bool (a == c && b == d)) w := by
  have u3 := Try.underlying3
  have u22 := Try.underlying28
  have a3 := Try.isAgg3
  have a22 := Try.isAgg28
  have z3 := Try.sizeOf3
  have z22 := Try.sizeOf28
  have hS : Try.prog.underlying 30 = some (.struct (Try.prog.fieldsOf 30)) := by kernel_rfl
  have hp : Try.prog.stoodInHeld 30 = false := by kernel_rfl
  rw [run_eql_struct, show (10000 : Nat) = 9999 + 1 from rfl, run_equalIn_agg w 9999 30 _ _ hS hp]
  simp only [Program.fieldsOf, Try.underlying30]
  go_simp
  by_cases h1 : a = c <;> by_cases h2 : b = d <;> simp [h1, h2]

theorem neqP (a b c d : Int) (w : World) : (binOp .neq 30 (.agg #[.int .u32 a, .int .i64 b]) (.agg #[.int .u32 c, .int .i64 d])).run Try.prog w = .ok (.bool (!(a == c && b == d))) w := by
  have u3 := Try.underlying3
  have u22 := Try.underlying28
  have a3 := Try.isAgg3
  have a22 := Try.isAgg28
  have z3 := Try.sizeOf3
  have z22 := Try.sizeOf28
  have hS : Try.prog.underlying 30 = some (.struct (Try.prog.fieldsOf 30)) := by kernel_rfl
  have hp : Try.prog.stoodInHeld 30 = false := by kernel_rfl
  rw [run_neq_struct, show (10000 : Nat) = 9999 + 1 from rfl, run_equalIn_agg w 9999 30 _ _ hS hp]
  simp only [Program.fieldsOf, Try.underlying30]
  go_simp
  by_cases h1 : a = c <;> by_cases h2 : b = d <;> simp [h1, h2]
end Go.Proofs.Ytechocnednepiaa
