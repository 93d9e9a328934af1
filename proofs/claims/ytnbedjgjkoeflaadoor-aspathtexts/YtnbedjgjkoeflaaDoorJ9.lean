/- What the rows' proofs share: numbers, lists of numbers and lists of runs that came in, opened. -/
import Derived.Test.YtnbedjgjkoeflaaDoorH4
import Derived.ProofKit
import Derived.OpenShut
import Derived.Lib.SmallJoins
import Derived.Deep.SlicePairs
namespace Go.Proofs.YtnbedjgjkoeflaaDoor
open Go.ChangeShapes Go.WideShapes Go.ChangeAt Go.RowKit Go.Joins Go.Deep

theorem own : ownKnob Tryd.prog.godebug = none := by kernel_rfl
theorem cells42 : Tryd.prog.cellsOf 42 = 2 := by kernel_rfl
theorem cells3 : Tryd.prog.cellsOf 3 = 1 := by kernel_rfl
theorem laidOut : laidOutB Tryd.prog = true := by kernel_rfl

set_option maxRecDepth 10000 in
theorem arr_ints {H : Type} {enc : TypeId × Value → H} {W : World} {base fuel : Nat} {sp : Nat → Bool} {held : Bool} {cs : List Value} {x : DataW H × List MemPlace} (h : DataW.trod enc Tryd.prog W base sp held fuel 42 cs = some x) :
    ∃ a b : Int, cs = [.int .i64 a, .int .i64 b] ∧ x = (.agg [.lit (.int .i64 a), .lit (.int .i64 b)], []) ∧
      ∀ (W' : World) (sp' : Nat → Bool), DataW.Trod enc Tryd.prog W' base sp' held 42 (.agg #[.int .i64 a, .int .i64 b]) (.agg [.lit (.int .i64 a), .lit (.int .i64 b)]) [] := by
  obtain ⟨xs, m, _, rfl, hl, hxl, hi⟩ := DataW.trod_array Tryd.underlying42 h
  rw [cells42] at hl
  match xs, hxl, cs, hl with
  | [y0, y1], _, [v0, v1], _ =>
    have g0 := hi 0 (by decide)
    have g1 := hi 1 (by decide)
    simp [cells3] at g0 g1
    obtain ⟨a, e0, rfl, wa⟩ := DataW.trod_int Tryd.underlying3 g0
    obtain ⟨b, e1, rfl, wb⟩ := DataW.trod_int Tryd.underlying3 g1
    simp at e0 e1
    subst e0 e1
    refine ⟨a, b, rfl, by simp, fun W' sp' => ⟨2, ?_⟩⟩
    have r2 : List.range 2 = [0, 1] := rfl
    simp [DataW.trod, Tryd.underlying42, Tryd.underlying3, cells42, cells3, Value.cells, r2, wa, wb]

set_option maxRecDepth 10000 in
theorem open_run {H : Type} {enc : TypeId × Value → H} {W : World} {base : Nat} {v : Value} {d : DataW H} {p : List MemPlace}
    (hv : Value.okWide Tryd.prog W .any base 42 v) (h : DataW.Trod enc Tryd.prog W 0 (fun _ => true) true 42 v d p) :
    ∃ a b : Int, v = .agg #[.int .i64 a, .int .i64 b] ∧ d = .agg [.lit (.int .i64 a), .lit (.int .i64 b)] ∧ p = [] ∧
      ∀ (W' : World) (sp : Nat → Bool), DataW.Trod enc Tryd.prog W' 0 sp true 42 (.agg #[.int .i64 a, .int .i64 b]) (.agg [.lit (.int .i64 a), .lit (.int .i64 b)]) [] := by
  obtain ⟨fuel, hx⟩ := h
  obtain ⟨a, b, hc, hd, hs⟩ := arr_ints hx
  simp only [Value.okWide, Tryd.underlying42] at hv
  obtain ⟨cs, rfl, _⟩ := hv
  simp only [Prod.mk.injEq] at hd
  refine ⟨a, b, ?_, hd.1, hd.2, fun W' sp => hs W' sp⟩
  simp only [Value.cells] at hc
  congr 1
  apply Array.ext'
  simpa using hc

theorem add_plainJ (b o k : Nat) : (⟨b, o, none⟩ : Addr).add k = ⟨b, o + k, none⟩ := by unfold Addr.add; split <;> simp_all

set_option maxRecDepth 100000 in
/-- A list of numbers that came in. -/
theorem open_path {H : Type} {enc : TypeId × Value → H} {W : World} {base : Nat} {v : Value} {d : DataW H} {p : List MemPlace}
    (hv : Value.okWide Tryd.prog W .any base 22 v) (h : DataW.Trod enc Tryd.prog W 0 (fun _ => true) true 22 v d p) :
    ∃ ao l cap, v = .slice ao l.length cap ∧ Is.slot W ao l ∧ came ao cap ∧ l.length ≤ cap ∧ cap ≤ maxLen := by
  obtain ⟨fuel, hx⟩ := h
  obtain ⟨a0, n0, c0, rfl⟩ := okWide_slice Tryd.underlying22 hv
  rcases open_slice Tryd.underlying22 hx with ⟨hcs, _⟩ | ⟨a, len, cap, m, n, D, Pl, hcs, _, hl, hm, hmm, _, hall⟩
  · simp [Value.cells] at hcs
    exact ⟨none, [], 0, by rw [hcs.1, hcs.2.1, hcs.2.2]; rfl, .inl rfl, ⟨fun _ => rfl, fun ad had => (by cases had)⟩, Nat.le_refl _, Nat.zero_le _⟩
  · simp only [Value.cells] at hcs
    have hcs' : Value.slice a0 n0 c0 = .slice (some a) len cap := by simpa using hcs
    simp only [Value.slice.injEq] at hcs'
    obtain ⟨rfl, rfl, rfl⟩ := hcs'
    have hmc : m = c0 := by rw [hmm]; rfl
    have hsp : a.spot = none := by
      simp only [Value.okWide, Tryd.underlying22, Cell.okWide, Cell.ok] at hv
      exact hv.2.2.2.1
    obtain ⟨b, off, sp⟩ := a
    subst hsp
    have key : ∀ i, ∃ x : Int, i < n0 → W.cell? ⟨b, off + i, none⟩ = some (.int .i64 x) := by
      intro i
      by_cases hi : i < n0
      · obtain ⟨cs', h1, h2⟩ := hall i (by omega)
        rw [cells3] at h1
        obtain ⟨_, hlen, hcell⟩ := World.cells?_some h1
        obtain ⟨x, e0, _, _⟩ := DataW.trod_int Tryd.underlying3 h2
        subst e0
        have e1 := hcell 0 (by decide)
        rw [Nat.mul_one, add_plainJ, add_plainJ, Nat.add_zero] at e1
        exact ⟨x, fun _ => by simpa using e1⟩
      · exact ⟨0, fun h => absurd h hi⟩
    obtain ⟨f, hf⟩ : ∃ f : Nat → Int, ∀ i, i < n0 → W.cell? ⟨b, off + i, none⟩ = some (.int .i64 (f i)) := ⟨fun i => (key i).choose, fun i => (key i).choose_spec⟩
    refine ⟨some ⟨b, off, none⟩, (List.range n0).map f, c0, by simp, .inr ⟨b, off, rfl, fun j hj => ?_⟩, ⟨fun h => (by cases h), fun ad had => (by cases had; rfl)⟩, by simpa using hl, hm⟩
    simp only [List.getElem_map, List.getElem_range]
    exact hf j (by simpa using hj)

set_option maxRecDepth 100000 in
/-- A list of runs that came in. -/
theorem open_runs {H : Type} {enc : TypeId × Value → H} {W : World} {base : Nat} {v : Value} {d : DataW H} {p : List MemPlace}
    (hv : Value.okWide Tryd.prog W .any base 37 v) (h : DataW.Trod enc Tryd.prog W 0 (fun _ => true) true 37 v d p) :
    ∃ ao l cap, v = .slice ao l.length cap ∧ Ru.slot W ao l ∧ came ao cap := by
  obtain ⟨fuel, hx⟩ := h
  obtain ⟨a0, n0, c0, rfl⟩ := okWide_slice Tryd.underlying37 hv
  rcases open_slice Tryd.underlying37 hx with ⟨hcs, _⟩ | ⟨a, len, cap, m, n, D, Pl, hcs, _, hl, hm, hmm, _, hall⟩
  · simp [Value.cells] at hcs
    exact ⟨none, [], 0, by rw [hcs.1, hcs.2.1, hcs.2.2]; rfl, .inl rfl, fun _ => rfl, fun ad had => (by cases had)⟩
  · simp only [Value.cells] at hcs
    have hcs' : Value.slice a0 n0 c0 = .slice (some a) len cap := by simpa using hcs
    simp only [Value.slice.injEq] at hcs'
    obtain ⟨rfl, rfl, rfl⟩ := hcs'
    have hmc : m = c0 := by rw [hmm]; rfl
    have hsp : a.spot = none := by
      simp only [Value.okWide, Tryd.underlying37, Cell.okWide, Cell.ok] at hv
      exact hv.2.2.2.1
    obtain ⟨b, off, sp⟩ := a
    subst hsp
    have key : ∀ i, ∃ x : Int × Int, i < n0 → W.cell? ⟨b, off + i * 2, none⟩ = some (.int .i64 x.1) ∧ W.cell? ⟨b, off + i * 2 + 1, none⟩ = some (.int .i64 x.2) := by
      intro i
      by_cases hi : i < n0
      · obtain ⟨cs', h1, h2⟩ := hall i (by omega)
        rw [cells42] at h1
        obtain ⟨_, hlen, hcell⟩ := World.cells?_some h1
        obtain ⟨x, y, e0, _, _⟩ := arr_ints h2
        subst e0
        have e1 := hcell 0 (by decide)
        have e2 := hcell 1 (by decide)
        rw [add_plainJ, add_plainJ] at e1 e2
        exact ⟨(x, y), fun _ => ⟨by simpa using e1, by simpa using e2⟩⟩
      · exact ⟨(0, 0), fun h => absurd h hi⟩
    obtain ⟨f, hf⟩ : ∃ f : Nat → Int × Int, ∀ i, i < n0 → W.cell? ⟨b, off + i * 2, none⟩ = some (.int .i64 (f i).1) ∧ W.cell? ⟨b, off + i * 2 + 1, none⟩ = some (.int .i64 (f i).2) := ⟨fun i => (key i).choose, fun i => (key i).choose_spec⟩
    refine ⟨some ⟨b, off, none⟩, (List.range n0).map f, c0, by simp, .inr ⟨b, off, rfl, ?_⟩, fun h => (by cases h), fun ad had => (by cases had; rfl)⟩
    intro j u hu
    have hj : j < n0 * 2 := by have := (List.getElem?_eq_some_iff.1 hu).1; rw [Ru.cells_length] at this; simpa using this
    have hn : j / 2 < n0 := by omega
    have hc := Ru.cells_get ((List.range n0).map f) (j / 2) (by simpa using hn)
    simp only [List.getElem_map, List.getElem_range] at hc
    have hthis := hf (j / 2) hn
    by_cases hm2 : j % 2 = 0
    · rw [show j / 2 * 2 = j by omega, hu] at hc
      rw [show off + j = off + j / 2 * 2 by omega, hthis.1]
      exact hc.1.symm
    · rw [show j / 2 * 2 + 1 = j by omega, hu] at hc
      rw [show off + j = off + j / 2 * 2 + 1 by omega, hthis.2]
      exact hc.2.symm
end Go.Proofs.YtnbedjgjkoeflaaDoor
