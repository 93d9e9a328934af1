/- Keys and ranks that came in, opened. -/
import Derived.Test.YtkfomjinilmjaaaD1
import Derived.Test.YtkfomjinilmjaaaSc
import Derived.SliceStrings
namespace Go.Proofs.Ytkfomjinilmjaaa
open Go.ChangeShapes Go.WideShapes Go.ChangeAt Go.RowKit Go.Joins Go.Deep

theorem lt_maxLen {n m : Nat} (h : n ≤ m) (hm : m ≤ maxLen) : (n : Int) ≤ 9223372036854775807 := by unfold maxLen at hm; omega
/-- Keys that came in. -/
theorem open_keys {H : Type} {enc : TypeId × Value → H} {W : World} {base : Nat} {v : Value} {d : DataW H} {p : List MemPlace}
    (hv : Value.okWide Try.prog W .any base 43 v) (h : DataW.Trod enc Try.prog W 0 (fun _ => true) true 43 v d p) :
    ∃ ao l cap, v = .slice ao l.length cap ∧ Ks.slot W ao l := by
  obtain ⟨fuel, hx⟩ := h
  obtain ⟨a0, n0, c0, rfl⟩ := okWide_slice Try.underlying43 hv
  rcases open_strings Try.underlying43 Try.underlying9 cells9 hx with ⟨hcs, _⟩ | ⟨a, len, cap, ss, hcs, _, hl, _, hz, _, hcell, _⟩
  · simp [Value.cells] at hcs
    exact ⟨none, [], 0, by rw [hcs.1, hcs.2.1, hcs.2.2]; rfl, .inl rfl⟩
  · have hcs' : Value.slice a0 n0 c0 = .slice (some a) len cap := by simpa [Value.cells] using hcs
    simp only [Value.slice.injEq] at hcs'
    obtain ⟨rfl, rfl, rfl⟩ := hcs'
    simp only [if_true] at hz
    have hsp : a.spot = none := by
      simp only [Value.okWide, Try.underlying43, Cell.okWide, Cell.ok] at hv
      exact hv.2.2.2.1
    obtain ⟨b, off, sp⟩ := a
    subst hsp
    have hll : (ss.take n0).length = n0 := by rw [List.length_take]; omega
    refine ⟨some ⟨b, off, none⟩, ss.take n0, c0, by rw [hll], ?_⟩
    have hrd : ∀ j (h : j < (ss.take n0).length), W.cell? ⟨b, off + j, none⟩ = some (.string (ss.take n0)[j]) := by
      intro j hj
      have := hcell j (by omega)
      rw [add_plain5, List.getD_eq_getElem?_getD, List.getElem?_eq_getElem (by omega)] at this
      rw [this, List.getElem_take]
      rfl
    by_cases h0 : n0 = 0
    · left; simp [h0]
    · exact .inr ⟨b, off, rfl, block_lt_of_cell (hrd 0 (by omega)), hrd⟩
/-- Ranks that came in. -/
theorem open_ranks {H : Type} {enc : TypeId × Value → H} {W : World} {base : Nat} {v : Value} {d : DataW H} {p : List MemPlace}
    (hv : Value.okWide Try.prog W .any base 48 v) (h : DataW.Trod enc Try.prog W 0 (fun _ => true) true 48 v d p) :
    ∃ ao, ∃ l : List Int, ∃ cap, v = .slice ao l.length cap ∧ (l.length : Int) ≤ 9223372036854775807 ∧ (l = [] ∨ ∃ b off, ao = some ⟨b, off, none⟩ ∧ b < W.heap.size ∧ ∀ j (h : j < l.length), W.cell? ⟨b, off + j, none⟩ = some (.int .i64 l[j])) := by
  obtain ⟨fuel, hx⟩ := h
  obtain ⟨a0, n0, c0, rfl⟩ := okWide_slice Try.underlying48 hv
  rcases open_ints Try.underlying48 Try.underlying3 cells3 hx with ⟨hcs, _⟩ | ⟨a, len, cap, ss, hcs, _, hl, hm, hz, _, hcell, _⟩
  · simp [Value.cells] at hcs
    exact ⟨none, [], 0, by rw [hcs.1, hcs.2.1, hcs.2.2]; rfl, by simp, .inl rfl⟩
  · have hcs' : Value.slice a0 n0 c0 = .slice (some a) len cap := by simpa [Value.cells] using hcs
    simp only [Value.slice.injEq] at hcs'
    obtain ⟨rfl, rfl, rfl⟩ := hcs'
    simp only [if_true] at hz
    have hsp : a.spot = none := by
      simp only [Value.okWide, Try.underlying48, Cell.okWide, Cell.ok] at hv
      exact hv.2.2.2.1
    obtain ⟨b, off, sp⟩ := a
    subst hsp
    have hll : (ss.take n0).length = n0 := by rw [List.length_take]; omega
    refine ⟨some ⟨b, off, none⟩, ss.take n0, c0, by rw [hll], by rw [hll]; exact lt_maxLen hl hm, ?_⟩
    have hrd : ∀ j (h : j < (ss.take n0).length), W.cell? ⟨b, off + j, none⟩ = some (.int .i64 (ss.take n0)[j]) := by
      intro j hj
      have := hcell j (by omega)
      rw [add_plain5, List.getD_eq_getElem?_getD, List.getElem?_eq_getElem (by omega)] at this
      rw [this, List.getElem_take]
      rfl
    by_cases h0 : n0 = 0
    · left; simp [h0]
    · exact .inr ⟨b, off, rfl, block_lt_of_cell (hrd 0 (by omega)), hrd⟩
end Go.Proofs.Ytkfomjinilmjaaa
