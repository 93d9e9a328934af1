/- The contracts of addr's Meets, Before, Last. -/
import Derived.Test.YtechocnednepiaaA2
namespace Go.Proofs.Ytechocnednepiaa
open Go.RowKit

theorem contains_is (a b c d : Int) (r : Bool) (h : Ad.contains a b c d = r) (w : World) (ha : 0 ≤ a) (ha2 : a ≤ 4294967295) (hc : 0 ≤ c) (hc2 : c ≤ 4294967295) :
    Calls Try.prog 68 #[.agg #[.int .u32 a, .int .i64 b], .agg #[.int .u32 c, .int .i64 d]] w fun e w' => e = .returned (.bool r) ∧ Below w.heap.size w w' := by
  rw [← h]; exact contains_any a b c d w ha ha2 hc hc2

end Go.Proofs.Ytechocnednepiaa
