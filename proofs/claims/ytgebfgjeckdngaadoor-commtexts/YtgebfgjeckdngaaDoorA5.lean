/- A row of communities that is written in place; the contract of slices.Compact. -/
import Derived.Test.YtgebfgjeckdngaaDoorA3
import Derived.Test.YtgebfgjeckdngaaDoorA4
import Derived.Lib.SlicesCompact
import Derived.Lib.SliceRun
import Derived.Laws.IdiomCopy
namespace Go.Proofs.YtgebfgjeckdngaaDoor
open Go.RowKit Go.Sort Go.Lib

/-- The row of block g holds d, and may be written. -/
def Co.holds (w : World) (g : Nat) (d : Array Co.C) : Prop := ∀ i, i < d.size → w.cell? ⟨g, i * 2, none⟩ = some (.int .i64 (d[i]!).1) ∧ w.cell? ⟨g, i * 2 + 1, none⟩ = some (.int .i64 (d[i]!).2) ∧ w.frozen? ⟨g, i * 2, none⟩ = false ∧ w.frozen? ⟨g, i * 2 + 1, none⟩ = false

theorem Co.holds_below {w w' : World} {g : Nat} {d : Array Co.C} (h : Co.holds w g d) (hb : Below w.heap.size w w') : Co.holds w' g d := by
  intro i hi
  obtain ⟨h0, h1, h2, h3⟩ := h i hi
  have hg : g < w.heap.size := block_lt_of_cell h0
  exact ⟨(hb.cell (p := ⟨g, i * 2, none⟩) hg).trans h0, (hb.cell (p := ⟨g, i * 2 + 1, none⟩) hg).trans h1, (hb.frozen (p := ⟨g, i * 2, none⟩) hg).trans h2, (hb.frozen (p := ⟨g, i * 2 + 1, none⟩) hg).trans h3⟩

theorem Co.holds_set {w : World} {g : Nat} {d : Array Co.C} (h : Co.holds w g d) (k : Nat) (hk : k < d.size) (x : Co.C) : Co.holds ((w.setCell ⟨g, k * 2, none⟩ (.int .i64 x.1)).setCell ⟨g, k * 2 + 1, none⟩ (.int .i64 x.2)) g (d.setIfInBounds k x) := by
  intro i hi
  have hi' : i < d.size := by simpa using hi
  obtain ⟨h0, h1, h2, h3⟩ := h i hi'
  obtain ⟨k0, k1, k2, k3⟩ := h k hk
  by_cases e : i = k
  · subst e
    rw [getElem!_set_same d i x hi']
    have m1 : (⟨g, i * 2 + 1, none⟩ : Addr) ≠ ⟨g, i * 2, none⟩ := by intro h; injection h; omega
    have m2 : (⟨g, i * 2, none⟩ : Addr) ≠ ⟨g, i * 2 + 1, none⟩ := by intro h; injection h; omega
    refine ⟨?_, ?_, by simpa using h2, by simpa using h3⟩
    · rw [World.cell?_setCell_other (h := m1)]
      exact World.cell?_setCell_same _ _ _ h0
    · exact World.cell?_setCell_same _ _ _ (u := .int .i64 (d[i]!).2) (by rw [World.cell?_setCell_other (h := m2)]; exact h1)
  · rw [getElem!_set_other d k i x e]
    have n1 : (⟨g, k * 2, none⟩ : Addr) ≠ ⟨g, i * 2, none⟩ := by intro h; injection h; omega
    have n2 : (⟨g, k * 2 + 1, none⟩ : Addr) ≠ ⟨g, i * 2, none⟩ := by intro h; injection h; omega
    have n3 : (⟨g, k * 2, none⟩ : Addr) ≠ ⟨g, i * 2 + 1, none⟩ := by intro h; injection h; omega
    have n4 : (⟨g, k * 2 + 1, none⟩ : Addr) ≠ ⟨g, i * 2 + 1, none⟩ := by intro h; injection h; omega
    refine ⟨?_, ?_, by simpa using h2, by simpa using h3⟩
    · rw [World.cell?_setCell_other (h := n2), World.cell?_setCell_other (h := n1)]; exact h0
    · rw [World.cell?_setCell_other (h := n4), World.cell?_setCell_other (h := n3)]; exact h1

theorem Co.holds_reads {w : World} {g : Nat} {d : Array Co.C} (h : Co.holds w g d) (m : Nat) (hm : m ≤ d.size) : Co.reads w g 0 (d.toList.take m) := by
  intro j u hu
  have hj : j < (d.toList.take m).length * 2 := by have := (List.getElem?_eq_some_iff.1 hu).1; rwa [Co.cells_length] at this
  have hlen : (d.toList.take m).length = m := by simp; omega
  have hi : j / 2 < (d.toList.take m).length := by omega
  have hi' : j / 2 < d.size := by omega
  obtain ⟨h0, h1, _⟩ := h (j / 2) hi'
  obtain ⟨c0, c1⟩ := Co.cells_get (d.toList.take m) (j / 2) hi
  have e : (d.toList.take m)[j / 2] = d[j / 2]! := by simp [hi']
  rw [e] at c0 c1
  rw [Nat.zero_add]
  rcases Nat.mod_two_eq_zero_or_one j with h2 | h2
  · have ej : j / 2 * 2 = j := by omega
    rw [ej] at c0 h0
    rw [hu] at c0
    rw [Option.some.inj c0]
    exact h0
  · have ej : j / 2 * 2 + 1 = j := by omega
    rw [ej] at c1 h1
    rw [hu] at c1
    rw [Option.some.inj c1]
    exact h1

theorem below_sets {B g : Nat} {a : World} (hg : B ≤ g) : ∀ (vs : List Value) (o : Nat) (w : World), Below B a w → Below B a (w.setCells g o vs)
  | [], _, _, h => h
  | v :: r, o, _, h => below_sets hg r (o + 1) _ (h.setCell (p := ⟨g, o, none⟩) hg v)

/-- What lies in the row's first places lies there still, behind the clearing of the others. -/
theorem reads_sets {w : World} {g o : Nat} {vs : List Value} {l : List Co.C} (h : Co.reads w g 0 l) (ho : l.length * 2 ≤ o) : Co.reads (w.setCells g o vs) g 0 l := by
  intro j u hu
  have hj : j < l.length * 2 := by have := (List.getElem?_eq_some_iff.1 hu).1; rwa [Co.cells_length] at this
  rw [World.cell?_setCells_out g vs o w ⟨g, 0 + j, none⟩ (fun _ _ => .inl (by simp; omega))]
  exact h j u hu

theorem clear_run {w : World} {g k n c : Nat} {d : Array Co.C} (h : Co.holds w g d) (hk : k + n ≤ d.size) (hn : 0 < n) :
    ∃ vs, ∀ ty : TypeId, (Builtin.clear_ #[32] ty #[.slice (some ⟨g, k * 2, none⟩) n c]).run Tryd.prog w = .ok (.tuple #[]) (w.setCells g (k * 2) vs) := by
  have hzl : (Builtin.zeroCells #[Value.int .i64 0, Value.int .i64 0] n).toList.length = n * 2 := by
    have := size_zeroCells #[Value.int .i64 0, Value.int .i64 0] n
    simpa using this
  have hcell : ∀ j, j < n * 2 → (w.cell? ⟨g, k * 2 + j, none⟩).isSome = true ∧ w.frozen? ⟨g, k * 2 + j, none⟩ = false := by
    intro j hj
    obtain ⟨h0, h1, h2, h3⟩ := h (k + j / 2) (by omega)
    rcases Nat.mod_two_eq_zero_or_one j with e | e
    · rw [show k * 2 + j = (k + j / 2) * 2 by omega]
      exact ⟨by rw [h0]; rfl, h2⟩
    · rw [show k * 2 + j = (k + j / 2) * 2 + 1 by omega]
      exact ⟨by rw [h1]; rfl, h3⟩
  have hone : ∀ v ∈ (Builtin.zeroCells #[Value.int .i64 0, Value.int .i64 0] n).toList, v.oneCell' = true := by
    intro v hv
    simp only [Builtin.zeroCells, Array.toList_map, List.mem_map] at hv
    obtain ⟨i, _, rfl⟩ := hv
    rcases Nat.mod_two_eq_zero_or_one i with e | e
    · simp [e]; rfl
    · simp [e]; rfl
  have hst := run_storeCells_cells (P := Tryd.prog) g (k * 2) (Builtin.zeroCells #[Value.int .i64 0, Value.int .i64 0] n).toList 0 w (fun j hj => by rw [Nat.add_zero]; exact (hcell j (by omega)).1) (fun j hj => by rw [Nat.add_zero]; exact (hcell j (by omega)).2) hone
  simp only [Nat.add_zero] at hst
  refine ⟨(Builtin.zeroCells #[Value.int .i64 0, Value.int .i64 0] n).toList, fun ty => ?_⟩
  obtain ⟨m, rfl⟩ : ∃ m, n = m + 1 := ⟨n - 1, by omega⟩
  have hv := Tryd.zeroValue23
  have e : (Value.agg #[Value.int .i64 0, Value.int .i64 0]).cells = #[Value.int .i64 0, Value.int .i64 0] := rfl
  simp [Builtin.clear_, run_underlying Tryd.underlying32, hv, e, hst]
end Go.Proofs.YtgebfgjeckdngaaDoor
