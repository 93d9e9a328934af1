import Derived.Test.YtkpoanjcalolkaaDoorA2
import Derived.Test.YtkpoanjcalolkaaDoorW1
/- A prefix's two cells, where it is boxed. -/
namespace Go.Proofs.YtkpoanjcalolkaaDoor
open Go.RowKit

/-- A prefix's two cells read there, in this world; and its block is an old one. -/
def Two (w : World) (n : Nat) (a b : Int) : Prop := w.cell? ⟨n, 0, none⟩ = some (.int .u32 a) ∧ w.cell? ⟨n, 1, none⟩ = some (.int .i64 b) ∧ n < w.heap.size ∧ n < w.heap.size + 1
theorem two_of {W : World} {n : Nat} {a b : Int} (h0 : W.cell? ⟨n, 0, none⟩ = some (.int .u32 a)) (h1 : W.cell? ⟨n, 1, none⟩ = some (.int .i64 b)) : Two W n a b :=
  ⟨h0, h1, block_lt_of_cell h0, Nat.lt_succ_of_lt (block_lt_of_cell h0)⟩
theorem two_below {W w1 : World} {n : Nat} {a b : Int} (hb : Below W.heap.size W w1) (h0 : W.cell? ⟨n, 0, none⟩ = some (.int .u32 a)) (h1 : W.cell? ⟨n, 1, none⟩ = some (.int .i64 b)) : Two w1 n a b :=
  two_of ((hb.cell (p := ⟨n, 0, none⟩) (block_lt_of_cell h0)).trans h0) ((hb.cell (p := ⟨n, 1, none⟩) (block_lt_of_cell h1)).trans h1)

end Go.Proofs.YtkpoanjcalolkaaDoor
