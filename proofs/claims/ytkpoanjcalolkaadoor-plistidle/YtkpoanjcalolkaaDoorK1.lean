import Derived.Test.YtkpoanjcalolkaaDoorF1
import Derived.Test.YtkpoanjcalolkaaDoorH1
/- addr's Last; two cells in every world that has grown. -/
namespace Go.Proofs.YtkpoanjcalolkaaDoor
open Go.RowKit

theorem last_is (a b L : Int) (h : Ad.last a b = L) (w : World) (ha : 0 ≤ a) (ha2 : a ≤ 4294967295) :
    Calls Tryd.prog 52 #[.agg #[.int .u32 a, .int .i64 b]] w fun e w' => e = .returned (.int .u32 L) ∧ Below w.heap.size w w' := by
  rw [← h]; exact last_any a b w ha ha2
/-- A box's two cells, in every world of the class. -/
theorem two_regrown {W : World} {n : Nat} {a b : Int} (h : Two W n a b) : (∀ d os, (Sort.grow (redrawn W d) os).cell? ⟨n, 0, none⟩ = some (.int .u32 a)) ∧ (∀ d os, (Sort.grow (redrawn W d) os).cell? ⟨n, 1, none⟩ = some (.int .i64 b)) :=
  ⟨fun d os => cell_regrown h.1 d os, fun d os => cell_regrown h.2.1 d os⟩

end Go.Proofs.YtkpoanjcalolkaaDoor
