import Derived.Test.YtechocnednepiaaA1
import Derived.Test.YtechocnednepiaaW1
/- The contract of addr's check, of whatever list of prefixes. -/
namespace Go.Proofs.Ytechocnednepiaa
open Go.RowKit

/-- A prefix's two cells; a list's. -/
def Ad.enc (x : Int × Int) : List Value := [.int .u32 x.1, .int .i64 x.2]
def Ad.cells (l : List (Int × Int)) : List Value := l.flatMap Ad.enc
/-- Addresses that are ones. -/
def Ad.fits (l : List (Int × Int)) : Prop := ∀ x ∈ l, 0 ≤ x.1 ∧ x.1 ≤ 4294967295
/-- The list's cells lie in block b from off on. -/
def Ad.reads (w : World) (b off : Nat) (l : List (Int × Int)) : Prop := ∀ j u, (Ad.cells l)[j]? = some u → w.cell? ⟨b, off + j, none⟩ = some u

theorem Ad.cells_length (l : List (Int × Int)) : (Ad.cells l).length = l.length * 2 := by
  induction l with
  | nil => rfl
  | cons x l ih => simp only [Ad.cells, List.flatMap_cons, List.length_append, List.length_cons] at *; simp only [Ad.enc, List.length_cons, List.length_nil]; omega

theorem Ad.cells_get (l : List (Int × Int)) (i : Nat) (h : i < l.length) : (Ad.cells l)[i * 2]? = some (.int .u32 l[i].1) ∧ (Ad.cells l)[i * 2 + 1]? = some (.int .i64 l[i].2) := by
  induction l generalizing i with
  | nil => simp at h
  | cons x l ih =>
    cases i with
    | zero => simp [Ad.cells, Ad.enc]
    | succ i =>
      have := ih i (by simpa using h)
      have e : (i + 1) * 2 = i * 2 + 1 + 1 := by omega
      simpa [Ad.cells, Ad.enc, e] using this

theorem Ad.reads_at {w : World} {b off : Nat} {l : List (Int × Int)} (h : Ad.reads w b off l) (i : Nat) (hi : i < l.length) :
    w.cell? ⟨b, off + i * 2, none⟩ = some (.int .u32 l[i].1) ∧ w.cell? ⟨b, off + i * 2 + 1, none⟩ = some (.int .i64 l[i].2) := by
  have := Ad.cells_get l i hi
  exact ⟨h _ _ this.1, by rw [Nat.add_assoc]; exact h _ _ this.2⟩

theorem Ad.reads_below {w w' : World} {b off : Nat} {l : List (Int × Int)} (h : Ad.reads w b off l) (hb : Below w.heap.size w w') : Ad.reads w' b off l := by
  intro j u hu
  have := h j u hu
  rw [hb.cell (p := ⟨b, off + j, none⟩) (block_lt_of_cell this)]
  exact this

/-- Which error a list has. -/
def Ad.why (l : List (Int × Int)) : Int := if 1024 < l.length then 2 else if l.all (fun x => Ad.may x.1 x.2) = true then 0 else 1

end Go.Proofs.Ytechocnednepiaa
