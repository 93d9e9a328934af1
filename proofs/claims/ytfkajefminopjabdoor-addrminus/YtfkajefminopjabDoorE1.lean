/- Two prefixes held against each other as wholes: what the model's comparison gives. -/
import Derived.Test.YtfkajefminopjabDoorProg
import Derived.WalkKit
import Derived.Laws.StructEq
namespace Go.Proofs.YtfkajefminopjabDoor

theorem guardP : Tryd.prog.eqGuardType Tryd.prog.depth 25 = false := by kernel_rfl

theorem eqP (a b c d : Int) (w : World) : (binOp .eql 25 (.agg #[.int .u32 a, .int .i64 b]) (.agg #[.int .u32 c, .int .i64 d])).run Tryd.prog w = .ok (.bool (a == c && b == d)) w := by
  have u3 := Tryd.underlying3
  have u22 := Tryd.underlying23
  have a3 := Tryd.isAgg3
  have a22 := Tryd.isAgg23
  have z3 := Tryd.sizeOf3
  have z22 := Tryd.sizeOf23
  have hS : Tryd.prog.underlying 25 = some (.struct (Tryd.prog.fieldsOf 25)) := by kernel_rfl
  have hp : Tryd.prog.stoodInHeld 25 = false := by kernel_rfl
  rw [run_eql_struct, show (10000 : Nat) = 9999 + 1 from rfl, run_equalIn_agg w 9999 25 _ _ hS hp]
  simp only [Program.fieldsOf, Tryd.underlying25]
  go_simp
  by_cases h1 : a = c <;> by_cases h2 : b = d <;> simp [h1, h2]

theorem neqP (a b c d : Int) (w : World) : (binOp .neq 25 (.agg #[.int .u32 a, .int .i64 b]) (.agg #[.int .u32 c, .int .i64 d])).run Tryd.prog w = .ok (.bool (!(a == c && b == d))) w := by
  have u3 := Tryd.underlying3
  have u22 := Tryd.underlying23
  have a3 := Tryd.isAgg3
  have a22 := Tryd.isAgg23
  have z3 := Tryd.sizeOf3
  have z22 := Tryd.sizeOf23
  have hS : Tryd.prog.underlying 25 = some (.struct (Tryd.prog.fieldsOf 25)) := by kernel_rfl
  have hp : Tryd.prog.stoodInHeld 25 = false := by kernel_rfl
  rw [run_neq_struct, show (10000 : Nat) = 9999 + 1 from rfl, run_equalIn_agg w 9999 25 _ _ hS hp]
  simp only [Program.fieldsOf, Tryd.underlying25]
  go_simp
  by_cases h1 : a = c <;> by_cases h2 : b = d <;> simp [h1, h2]
end Go.Proofs.YtfkajefminopjabDoor
