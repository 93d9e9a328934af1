import Derived.Test.YtkpoanjcalolkaaDoorProg
import Derived.WalkKit
import Derived.Laws.StructEq
/- Two rules held against each other as wholes: what the model's comparison gives. -/
namespace Go.Proofs.YtkpoanjcalolkaaDoor

theorem guardR : Tryd.prog.eqGuardType Tryd.prog.depth 32 = false := by kernel_rfl

theorem eqIn25 (a b c d : Int) (w : World) : (Op.equalIn 9999 25 (.agg #[.int .u32 a, .int .i64 b]) (.agg #[.int .u32 c, .int .i64 d])).run Tryd.prog w = .ok (a == c && b == d) w := by
  have u3 := Tryd.underlying3
  have u23 := Tryd.underlying23
  have a3 := Tryd.isAgg3
  have a23 := Tryd.isAgg23
  have z3 := Tryd.sizeOf3
  have z23 := Tryd.sizeOf23
  have hS2 : Tryd.prog.underlying 25 = some (.struct (Tryd.prog.fieldsOf 25)) := by kernel_rfl
  have hp2 : Tryd.prog.stoodInHeld 25 = false := by kernel_rfl
  rw [show (9999 : Nat) = 9998 + 1 from rfl, run_equalIn_agg w 9998 25 _ _ hS2 hp2]
  simp only [Program.fieldsOf, Tryd.underlying25]
  go_simp
  by_cases h1 : a = c <;> by_cases h2 : b = d <;> simp [h1, h2]

theorem eqR (a b g l c d k m : Int) (p q : Bool) (w : World) : (binOp .eql 32 (.agg #[.int .u32 a, .int .i64 b, .int .i64 g, .int .i64 l, .bool p]) (.agg #[.int .u32 c, .int .i64 d, .int .i64 k, .int .i64 m, .bool q])).run Tryd.prog w = .ok (.bool (a == c && b == d && g == k && l == m && p == q)) w := by
  have u3 := Tryd.underlying3
  have u4 := Tryd.underlying4
  have a3 := Tryd.isAgg3
  have a4 := Tryd.isAgg4
  have a25 := Tryd.isAgg25
  have z3 := Tryd.sizeOf3
  have z4 := Tryd.sizeOf4
  have z25 := Tryd.sizeOf25
  have inner := eqIn25 a b c d w
  have hS : Tryd.prog.underlying 32 = some (.struct (Tryd.prog.fieldsOf 32)) := by kernel_rfl
  have hp : Tryd.prog.stoodInHeld 32 = false := by kernel_rfl
  rw [run_eql_struct, show (10000 : Nat) = 9999 + 1 from rfl, run_equalIn_agg w 9999 32 _ _ hS hp]
  simp only [Program.fieldsOf, Tryd.underlying32]
  clear hS hp
  go_simp
  by_cases h1 : a = c <;> by_cases h2 : b = d <;> by_cases h3 : g = k <;> by_cases h4 : l = m <;> by_cases h5 : p = q <;> simp [h1, h2, h3, h4, h5]
end Go.Proofs.YtkpoanjcalolkaaDoor
