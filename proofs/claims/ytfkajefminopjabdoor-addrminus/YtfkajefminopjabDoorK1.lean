/- The law AddrHas walked: it answers true at every two prefixes and every address. -/
import Derived.Test.YtfkajefminopjabDoorF3
import Derived.Test.YtfkajefminopjabDoorH1
namespace Go.Proofs.YtfkajefminopjabDoor
open Go.RowKit

theorem meets_is (a b c d : Int) (r : Bool) (h : (Ad.contains a b c d || Ad.contains c d a b) = r) (w : World) (ha : 0 ≤ a) (ha2 : a ≤ 4294967295) (hc : 0 ≤ c) (hc2 : c ≤ 4294967295) :
    Calls Tryd.prog 29 #[.agg #[.int .u32 a, .int .i64 b], .agg #[.int .u32 c, .int .i64 d]] w fun e w' => e = .returned (.bool r) ∧ Below w.heap.size w w' := by
  rw [← h]; exact meets_any a b c d w ha ha2 hc hc2
theorem before_is (a b c d : Int) (r : Bool) (h : Ad.before a b c d = r) (w : World) (ha : 0 ≤ a) (ha2 : a ≤ 4294967295) (hc : 0 ≤ c) (hc2 : c ≤ 4294967295) :
    Calls Tryd.prog 41 #[.agg #[.int .u32 a, .int .i64 b], .agg #[.int .u32 c, .int .i64 d]] w fun e w' => e = .returned (.bool r) ∧ Below w.heap.size w w' := by
  rw [← h]; exact before_any a b c d w ha ha2 hc hc2
theorem refBefore_is (a b c d : Int) (r : Bool) (h : Ad.before a b c d = r) (hm : Ad.may a b = true) (hm2 : Ad.may c d = true) (w : World) :
    Calls Tryd.prog 20 #[.agg #[.int .u32 a, .int .i64 b], .agg #[.int .u32 c, .int .i64 d]] w fun e w' => e = .returned (.bool r) ∧ Below w.heap.size w w' := by
  have : (if a = c then decide (b < d) else decide (a < c)) = r := by rw [← h]; unfold Ad.before; rw [hm, hm2]; simp
  rw [← this]; exact refBefore_any a b c d w
/-- A box's two cells, in every world of the class. -/
theorem two_regrown {W : World} {n : Nat} {a b : Int} (h : Two W n a b) : (∀ d os, (Sort.grow (redrawn W d) os).cell? ⟨n, 0, none⟩ = some (.int .u32 a)) ∧ (∀ d os, (Sort.grow (redrawn W d) os).cell? ⟨n, 1, none⟩ = some (.int .i64 b)) :=
  ⟨fun d os => cell_regrown h.1 d os, fun d os => cell_regrown h.2.1 d os⟩

end Go.Proofs.YtfkajefminopjabDoor
