import Derived.WalkKit
import Derived.Lib.Builder
/- Small laws on worlds: what lies in old blocks lies there still behind calls that only make memory. -/
namespace Go.Proofs.Ytechocnednepiaa
open Go.RowKit

theorem hide {p : Prop} (h : p) : Hid p := h

theorem heap_lt {w : World} {b : Nat} {o : Obj} (h : w.heap[b]? = some o) : b < w.heap.size := by
  rcases Nat.lt_or_ge b w.heap.size with h' | h'
  · exact h'
  · simp [Array.getElem?_eq_none h'] at h

/-- An owned row is owned still behind what leaves all old blocks as they were. -/
theorem row_below {w w' : World} {B e size n : Nat} {v : Value} {xs : List Value} (h : w.ownsRow B e size v n xs) (hb : Below w.heap.size w w') : w'.ownsRow B e size v n xs := by
  obtain ⟨h1, h2⟩ := h
  refine ⟨h1, ?_⟩
  rcases h2 with h2 | ⟨g, cap, cur, hv, hB, hg, r⟩
  · exact .inl h2
  · exact .inr ⟨g, cap, cur, hv, hB, (hb.block g (heap_lt hg)).trans hg, r⟩

/-- .. and so is a builder. -/
theorem builder_below {w w' : World} {T e B b : Nat} {bs : List Value} (h : Lib.IsBuilder T e B b bs w) (hb : Below w.heap.size w w') : Lib.IsBuilder T e B b bs w' := by
  rcases h with ⟨h1, v, h2, h3, h4⟩ | ⟨h1, v, h2, h3, h4⟩
  · exact .inl ⟨h1, v, (hb.block b (heap_lt h2)).trans h2, row_below h3 hb, h4⟩
  · exact .inr ⟨h1, v, (hb.block b (heap_lt h2)).trans h2, row_below h3 hb, h4⟩
end Go.Proofs.Ytechocnednepiaa
