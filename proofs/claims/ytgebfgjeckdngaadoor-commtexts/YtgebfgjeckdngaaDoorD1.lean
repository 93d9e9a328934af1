/- What the rows' proofs share: communities and lists of them that came in, opened; the table of powers of ten, out of a row's condition. -/
import Derived.Test.YtgebfgjeckdngaaDoorT1
import Derived.Test.YtgebfgjeckdngaaDoorA4
import Derived.ProofKit
import Derived.OpenShut
import Derived.Lib.SmallJoins
import Derived.Deep.SlicePairs
import Derived.LaidSub
import Derived.LaidMore
import Derived.Lib.LaidTab
namespace Go.Proofs.YtgebfgjeckdngaaDoor
open Go.ChangeShapes Go.WideShapes Go.ChangeAt Go.RowKit Go.Joins Go.Deep

theorem own : ownKnob Tryd.prog.godebug = none := by kernel_rfl
theorem cells23 : Tryd.prog.cellsOf 23 = 2 := by kernel_rfl
theorem laidOut : laidOutB Tryd.prog = true := by kernel_rfl

set_option maxRecDepth 100000 in
/-- A community that came in. -/
theorem open_comm {H : Type} {enc : TypeId × Value → H} {W : World} {base : Nat} {v : Value} {d : DataW H} {p : List MemPlace}
    (hv : Value.okWide Tryd.prog W .any base 23 v) (h : DataW.Trod enc Tryd.prog W 0 (fun _ => true) true 23 v d p) :
    ∃ a b : Int, v = .agg #[.int .i64 a, .int .i64 b] ∧ d = .agg [.lit (.int .i64 a), .lit (.int .i64 b)] ∧ p = [] ∧
      ∀ (W' : World) (sp : Nat → Bool), DataW.Trod enc Tryd.prog W' 0 sp true 23 (.agg #[.int .i64 a, .int .i64 b]) (.agg [.lit (.int .i64 a), .lit (.int .i64 b)]) [] := by
  obtain ⟨c0, c1, y0, y1, m, rfl, rfl, rfl, hy0, hy1⟩ := open_agg2 Tryd.underlying23 (by kernel_rfl) cells23 hv h
  obtain ⟨a, e0, rfl, wa⟩ := DataW.trod_int Tryd.underlying3 hy0
  obtain ⟨b, e1, rfl, wb⟩ := DataW.trod_int Tryd.underlying3 hy1
  simp at e0 e1
  subst e0 e1
  exact ⟨a, b, rfl, rfl, by simp, fun W' sp =>
    shut_agg2 (y0 := (.lit (.int .i64 a), [])) (y1 := (.lit (.int .i64 b), [])) Tryd.underlying23 (by kernel_rfl) cells23 ⟨1, by simp [DataW.trod, Tryd.underlying3, wa]⟩ ⟨1, by simp [DataW.trod, Tryd.underlying3, wb]⟩⟩

theorem Co.cells_mk (f : Nat → Int × Int) (n j : Nat) (u : Value) (h : (Co.cells ((List.range n).map f))[j]? = some u) : j / 2 < n ∧ u = (if j % 2 = 0 then Value.int .i64 (f (j / 2)).1 else Value.int .i64 (f (j / 2)).2) := by
  have hj : j < n * 2 := by have := (List.getElem?_eq_some_iff.1 h).1; rw [Co.cells_length] at this; simpa using this
  have hn : j / 2 < n := by omega
  refine ⟨hn, ?_⟩
  have hc := Co.cells_get ((List.range n).map f) (j / 2) (by simpa using hn)
  simp only [List.getElem_map, List.getElem_range] at hc
  by_cases hm : j % 2 = 0
  · rw [if_pos hm]
    rw [show j / 2 * 2 = j by omega, h] at hc
    exact Option.some.inj hc.1
  · rw [if_neg hm]
    rw [show j / 2 * 2 + 1 = j by omega, h] at hc
    exact Option.some.inj hc.2

set_option maxRecDepth 100000 in
/-- A list of communities that came in. -/
theorem open_comms {H : Type} {enc : TypeId × Value → H} {W : World} {base : Nat} {v : Value} {d : DataW H} {p : List MemPlace}
    (hv : Value.okWide Tryd.prog W .any base 32 v) (h : DataW.Trod enc Tryd.prog W 0 (fun _ => true) true 32 v d p) :
    ∃ ao l cap, v = .slice ao l.length cap ∧ Co.slot W ao l ∧ Co.came ao cap := by
  obtain ⟨fuel, hx⟩ := h
  obtain ⟨a0, n0, c0, rfl⟩ := okWide_slice Tryd.underlying32 hv
  rcases open_slice_pairs Tryd.underlying32 Tryd.underlying23 cells23 rfl rfl (by kernel_rfl) (by kernel_rfl) hx with ⟨hcs, _⟩ | ⟨a, len, cap, m, n, V0, V1, D0, D1, P0, P1, hcs, _, hl, hm, hmm, _, hall⟩
  · simp [Value.cells] at hcs
    exact ⟨none, [], 0, by rw [hcs.1, hcs.2.1, hcs.2.2]; rfl, .inl rfl, fun _ => rfl, fun ad had => (by cases had)⟩
  · simp only [Value.cells] at hcs
    have hcs' : Value.slice a0 n0 c0 = .slice (some a) len cap := by simpa using hcs
    simp only [Value.slice.injEq] at hcs'
    obtain ⟨rfl, rfl, rfl⟩ := hcs'
    have hmc : m = c0 := by rw [hmm]; rfl
    have hsp : a.spot = none := by
      simp only [Value.okWide, Tryd.underlying32, Cell.okWide, Cell.ok] at hv
      exact hv.2.2.2.1
    obtain ⟨b, off, sp⟩ := a
    subst hsp
    have key : ∀ i, ∃ x : Int × Int, i < n0 → W.cell? ⟨b, off + i * 2, none⟩ = some (.int .i64 x.1) ∧ W.cell? ⟨b, off + i * 2 + 1, none⟩ = some (.int .i64 x.2) := by
      intro i
      by_cases hi : i < n0
      · obtain ⟨g0, g1, t0, t1⟩ := hall i (by omega)
        obtain ⟨x, e0, _, wx⟩ := DataW.trod_int Tryd.underlying3 t0
        obtain ⟨y, e1, _, wy⟩ := DataW.trod_int Tryd.underlying3 t1
        simp at e0 e1
        rw [add_plain] at g0 g1
        exact ⟨(x, y), fun _ => ⟨by rw [g0, e0], by rw [Nat.add_assoc, g1, e1]⟩⟩
      · exact ⟨(0, 0), fun h => absurd h hi⟩
    obtain ⟨f, hf⟩ : ∃ f : Nat → Int × Int, ∀ i, i < n0 → W.cell? ⟨b, off + i * 2, none⟩ = some (.int .i64 (f i).1) ∧ W.cell? ⟨b, off + i * 2 + 1, none⟩ = some (.int .i64 (f i).2) := ⟨fun i => (key i).choose, fun i => (key i).choose_spec⟩
    refine ⟨some ⟨b, off, none⟩, (List.range n0).map f, c0, by simp, .inr ⟨b, off, rfl, ?_⟩, fun h => (by cases h), fun ad had => (by cases had; rfl)⟩
    intro j u hu
    obtain ⟨hj, rfl⟩ := Co.cells_mk f n0 j u hu
    have := hf (j / 2) hj
    by_cases hm2 : j % 2 = 0
    · rw [if_pos hm2, show off + j = off + j / 2 * 2 by omega]; exact this.1
    · rw [if_neg hm2, show off + j = off + j / 2 * 2 + 1 by omega]; exact this.2

theorem tab_of {W : World} {l : List (String × DataW Unit)} (hl : (l.filter fun x => x.1 == "internal/strconv.uint64pow10") = [("internal/strconv.uint64pow10", Lib.tabData .u64 Lib.pow10Tab)]) (h : laidMetH Tryd.prog l W) : Tab W := by
  have h1 := h.filter fun x => x.1 == "internal/strconv.uint64pow10"
  rw [hl] at h1
  have h2 : laidMet Tryd.prog [("internal/strconv.uint64pow10", Lib.tabData .u64 Lib.pow10Tab)] W := h1
  exact Lib.tabIs_of_head (g := (Tryd.prog.globalNamed "internal/strconv.uint64pow10").getD 0) (t := 114) (e := 95) (n := 20) (by kernel_rfl) (by kernel_rfl) (by kernel_rfl) (by kernel_rfl) (by kernel_rfl) (by kernel_rfl) h2
end Go.Proofs.YtgebfgjeckdngaaDoor
