/- Two prefixes held against each other as wholes: what the model's comparison gives. -/
import Derived.Test.YtfkajefminopjaaDoorProg
import Derived.WalkKit
import Derived.Laws.StructEq
namespace Go.Proofs.YtfkajefminopjaaDoor

theorem guardP : Tryd.prog.eqGuardType Tryd.prog.depth 24 = false := by kernel_rfl

theorem eqP (a b c d : Int) (w : World) : (binOp .eql 24 (.agg #[.int .u32 a, .int .i64 b]) (.agg #[.int .u32 c, .int .i64 d])).run Tryd.prog w = .ok (.bool (a == c && b == d)) w := by
  have u3 := Tryd.underlying3
  have u22 := Tryd.underlying22
  have a3 := Tryd.isAgg3
  have a22 := Tryd.isAgg22
  have z3 := Tryd.sizeOf3
  have z22 := Tryd.sizeOf22
  have hS : Tryd.prog.underlying 24 = some (.struct (Tryd.prog.fieldsOf 24)) := by kernel_rfl
  have hp : Tryd.prog.stoodInHeld 24 = false := by kernel_rfl
  rw [run_eql_struct, show (10000 : Nat) = 9999 + 1 from rfl, run_equalIn_agg w 9999 24 _ _ hS hp]
  simp only [Program.fieldsOf, Tryd.underlying24]
  go_simp
  by_cases h1 : a = c <;> by_cases h2 : b = d <;> simp [h1, h2]

theorem neqP (a b c d : Int) (w : World) : (binOp .neq 24 (.agg #[.int .u32 a, .int .i64 b]) (.agg #[.int .u32 c, .int .i64 d])).run Tryd.prog w = .ok (.bool (!(a == c && b == d))) w := by
  have u3 := Tryd.underlying3
  have u22 := Tryd.underlying22
  have a3 := Tryd.isAgg3
  have a22 := Tryd.isAgg22
  have z3 := Tryd.sizeOf3
  have z22 := Tryd.sizeOf22
  have hS : Tryd.prog.underlying 24 = some (.struct (Tryd.prog.fieldsOf 24)) := by kernel_rfl
  have hp : Tryd.prog.stoodInHeld 24 = false := by kernel_rfl
  rw [run_neq_struct, show (10000 : Nat) = 9999 + 1 from rfl, run_equalIn_agg w 9999 24 _ _ hS hp]
  simp only [Program.fieldsOf, Tryd.underlying24]
  go_simp
  by_cases h1 : a = c <;> by_cases h2 : b = d <;> simp [h1, h2]
end Go.Proofs.YtfkajefminopjaaDoor
