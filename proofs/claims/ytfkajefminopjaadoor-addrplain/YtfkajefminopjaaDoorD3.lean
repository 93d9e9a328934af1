/- A list of prefixes that came in, opened. -/
import Derived.Test.YtfkajefminopjaaDoorD1
import Derived.Test.YtfkajefminopjaaDoorC1
import Derived.Deep.SlicePairs
namespace Go.Proofs.YtfkajefminopjaaDoor
open Go.ChangeShapes Go.WideShapes Go.ChangeAt Go.RowKit Go.Joins Go.Deep

/-- A slice at which a list lies: nil has none. -/
def Ad.slot (w : World) (ao : Option Addr) (l : List (Int × Int)) : Prop := (ao = none ∧ l = []) ∨ ∃ b off, ao = some ⟨b, off, none⟩ ∧ Ad.reads w b off l

theorem Ad.slot_below {w w' : World} {ao : Option Addr} {l : List (Int × Int)} (h : Ad.slot w ao l) (hb : Below w.heap.size w w') : Ad.slot w' ao l := by
  rcases h with h | ⟨b, off, h, hr⟩
  · exact .inl h
  · exact .inr ⟨b, off, h, Ad.reads_below hr hb⟩

theorem Ad.slot_own {w : World} {B n cap : Nat} {ao : Option Addr} {l : List (Int × Int)} (h : w.ownsRow B 24 2 (.slice ao n cap) n (Ad.cells l)) : Ad.slot w ao l := by
  rcases h.2 with ⟨hv, h0⟩ | ⟨g, cap', cur, hv, _⟩
  · left
    have := h.1
    rw [Ad.cells_length, h0] at this
    simp only [Value.slice.injEq] at hv
    exact ⟨hv.1, List.length_eq_zero_iff.1 (by omega)⟩
  · right
    simp only [Value.slice.injEq] at hv
    refine ⟨g, 0, hv.1, fun j u hu => ?_⟩
    have hj : j < n * 2 := by have := (List.getElem?_eq_some_iff.1 hu).1; have := h.1; omega
    rw [hv.1] at h
    rw [Nat.zero_add, h.cellAt j hj]
    exact hu

theorem Ad.cells_mk (f : Nat → Int × Int) (n j : Nat) (u : Value) (h : (Ad.cells ((List.range n).map f))[j]? = some u) : j / 2 < n ∧ u = (if j % 2 = 0 then Value.int .u32 (f (j / 2)).1 else Value.int .i64 (f (j / 2)).2) := by
  have hj : j < n * 2 := by have := (List.getElem?_eq_some_iff.1 h).1; rw [Ad.cells_length] at this; simpa using this
  have hn : j / 2 < n := by omega
  refine ⟨hn, ?_⟩
  have hc := Ad.cells_get ((List.range n).map f) (j / 2) (by simpa using hn)
  simp only [List.getElem_map, List.getElem_range] at hc
  by_cases hm : j % 2 = 0
  · rw [if_pos hm]
    rw [show j / 2 * 2 = j by omega, h] at hc
    exact Option.some.inj hc.1
  · rw [if_neg hm]
    rw [show j / 2 * 2 + 1 = j by omega, h] at hc
    exact Option.some.inj hc.2

set_option maxRecDepth 100000 in
theorem open_prefixes {H : Type} {enc : TypeId × Value → H} {W : World} {base : Nat} {v : Value} {d : DataW H} {p : List MemPlace}
    (hv : Value.okWide Tryd.prog W .any base 39 v) (h : DataW.Trod enc Tryd.prog W 0 (fun _ => true) true 39 v d p) :
    ∃ ao l cap, v = .slice ao l.length cap ∧ Ad.slot W ao l ∧ Ad.fits l := by
  obtain ⟨fuel, hx⟩ := h
  obtain ⟨a0, n0, c0, rfl⟩ := okWide_slice Tryd.underlying39 hv
  rcases open_slice_pairs Tryd.underlying39 Tryd.underlying24 cells24 rfl rfl (by kernel_rfl) (by kernel_rfl) hx with ⟨hcs, _⟩ | ⟨a, len, cap, m, n, V0, V1, D0, D1, P0, P1, hcs, _, hl, hm, hmm, _, hall⟩
  · simp [Value.cells] at hcs
    exact ⟨none, [], 0, by rw [hcs.1, hcs.2.1, hcs.2.2]; rfl, .inl ⟨rfl, rfl⟩, fun x hx => by cases hx⟩
  · simp only [Value.cells] at hcs
    have hcs' : Value.slice a0 n0 c0 = .slice (some a) len cap := by simpa using hcs
    simp only [Value.slice.injEq] at hcs'
    obtain ⟨rfl, rfl, rfl⟩ := hcs'
    have hmc : m = c0 := by rw [hmm]; rfl
    have hsp : a.spot = none := by
      simp only [Value.okWide, Tryd.underlying39, Cell.okWide, Cell.ok] at hv
      exact hv.2.2.2.1
    obtain ⟨b, off, sp⟩ := a
    subst hsp
    have key : ∀ i, ∃ x : Int × Int, i < n0 → W.cell? ⟨b, off + i * 2, none⟩ = some (.int .u32 x.1) ∧ W.cell? ⟨b, off + i * 2 + 1, none⟩ = some (.int .i64 x.2) ∧ 0 ≤ x.1 ∧ x.1 ≤ 4294967295 := by
      intro i
      by_cases hi : i < n0
      · obtain ⟨g0, g1, t0, t1⟩ := hall i (by omega)
        obtain ⟨x, e0, _, wx⟩ := DataW.trod_int Tryd.underlying22 t0
        obtain ⟨y, e1, _, wy⟩ := DataW.trod_int Tryd.underlying3 t1
        simp at e0 e1
        rw [add_plain] at g0 g1
        exact ⟨(x, y), fun _ => ⟨by rw [g0, e0], by rw [Nat.add_assoc, g1, e1], (bounds_u32 wx).1, (bounds_u32 wx).2⟩⟩
      · exact ⟨(0, 0), fun h => absurd h hi⟩
    obtain ⟨f, hf⟩ : ∃ f : Nat → Int × Int, ∀ i, i < n0 → W.cell? ⟨b, off + i * 2, none⟩ = some (.int .u32 (f i).1) ∧ W.cell? ⟨b, off + i * 2 + 1, none⟩ = some (.int .i64 (f i).2) ∧ 0 ≤ (f i).1 ∧ (f i).1 ≤ 4294967295 := ⟨fun i => (key i).choose, fun i => (key i).choose_spec⟩
    refine ⟨some ⟨b, off, none⟩, (List.range n0).map f, c0, by simp, .inr ⟨b, off, rfl, ?_⟩, ?_⟩
    · intro j u hu
      obtain ⟨hj, rfl⟩ := Ad.cells_mk f n0 j u hu
      have := hf (j / 2) hj
      by_cases hm2 : j % 2 = 0
      · rw [if_pos hm2, show off + j = off + j / 2 * 2 by omega]; exact this.1
      · rw [if_neg hm2, show off + j = off + j / 2 * 2 + 1 by omega]; exact this.2.1
    · intro x hx
      simp only [List.mem_map, List.mem_range] at hx
      obtain ⟨i, hi, rfl⟩ := hx
      exact (hf i hi).2.2
end Go.Proofs.YtfkajefminopjaaDoor
