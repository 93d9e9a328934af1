/- How far bytes of a kind reach; the contract of the document's text. -/
import Derived.Test.YtdkfamlnmjhcfaaB1
namespace Go.Proofs.Ytdkfamlnmjhcfaa
open Go.RowKit Go.Sort

/-- How many bytes of a kind stand from a place on. -/
def tw (p : UInt8 → Bool) (l : List UInt8) (i : Nat) : Nat := ((l.drop i).takeWhile p).length
theorem tw_step {p : UInt8 → Bool} {l : List UInt8} {i : Nat} (h : i < l.length) (hp : p l[i] = true) : tw p l i = tw p l (i + 1) + 1 := by
  unfold tw
  rw [List.drop_eq_getElem_cons h, List.takeWhile_cons_of_pos hp, List.length_cons]
theorem tw_stop {p : UInt8 → Bool} {l : List UInt8} {i : Nat} (h : i < l.length) (hp : p l[i] = false) : tw p l i = 0 := by
  unfold tw
  rw [List.drop_eq_getElem_cons h, List.takeWhile_cons_of_neg (by rw [hp]; decide)]
  rfl
theorem tw_end {p : UInt8 → Bool} {l : List UInt8} {i : Nat} (h : l.length ≤ i) : tw p l i = 0 := by
  unfold tw
  rw [List.drop_of_length_le h]
  rfl
theorem tw_le (p : UInt8 → Bool) (l : List UInt8) (i : Nat) : tw p l i ≤ l.length - i := by
  have := takeWhile_le p (l.drop i)
  rw [List.length_drop] at this
  exact this
theorem txc_iff (c : UInt8) : txc c = true ↔ 32 ≤ c.toNat ∧ c.toNat ≤ 126 ∧ c.toNat ≠ 34 := by
  unfold txc
  simp only [Bool.and_eq_true, decide_eq_true_eq]
end Go.Proofs.Ytdkfamlnmjhcfaa
