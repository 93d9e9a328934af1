import Derived.Test.YtkpoanjcalolkaaDoorD1
import Derived.Test.YtkpoanjcalolkaaDoorPl3
import Derived.Test.YtkpoanjcalolkaaDoorT2
import Derived.Deep.SlicePairs
import Derived.LaidSub
import Derived.LaidMore
import Derived.Lib.LaidTab
/- A rule, and a list of rules, that came in, opened; the table of powers of ten, out of a row's condition. -/
namespace Go.Proofs.YtkpoanjcalolkaaDoor
open Go.ChangeShapes Go.WideShapes Go.ChangeAt Go.RowKit Go.Joins Go.Deep

theorem cells32 : Tryd.prog.cellsOf 32 = 5 := by kernel_rfl
theorem cells3 : Tryd.prog.cellsOf 3 = 1 := by kernel_rfl
theorem cells4 : Tryd.prog.cellsOf 4 = 1 := by kernel_rfl
theorem cells23 : Tryd.prog.cellsOf 23 = 1 := by kernel_rfl

set_option maxRecDepth 100000 in
/-- A rule's five cells. -/
theorem open_five {H : Type} {enc : TypeId × Value → H} {W : World} {base n : Nat} {spare : Nat → Bool} {held : Bool} {cs : List Value} {x : DataW H × List MemPlace} (h : DataW.trod enc Tryd.prog W base spare held n 32 cs = some x) :
    ∃ (a b g l : Int) (p : Bool), cs = [.int .u32 a, .int .i64 b, .int .i64 g, .int .i64 l, .bool p] ∧ 0 ≤ a ∧ a ≤ 4294967295 ∧ x.2 = [] := by
  obtain ⟨y0, y1, y2, y3, m, hx, hl, g0, g1, g2, g3⟩ := trod_struct4 Tryd.underlying32 h
  rw [cells32] at hl
  match cs, hl with
  | [v0, v1, v2, v3, v4], _ =>
    simp only [cells24, cells3, cells4, List.drop_zero, List.drop_succ_cons, List.take_succ_cons, List.take_zero] at g0 g1 g2 g3
    obtain ⟨z0, z1, k, hz, _, k0, k1⟩ := trod_struct2 Tryd.underlying25 g0
    simp only [cells23, cells3, List.drop_zero, List.drop_succ_cons, List.take_succ_cons, List.take_zero] at k0 k1
    obtain ⟨a, e0, ea, wa⟩ := DataW.trod_int Tryd.underlying23 k0
    obtain ⟨b, e1, eb, wb⟩ := DataW.trod_int Tryd.underlying3 k1
    obtain ⟨g, e2, eg, wg⟩ := DataW.trod_int Tryd.underlying3 g1
    obtain ⟨l, e3, el, wl⟩ := DataW.trod_int Tryd.underlying3 g2
    obtain ⟨p, e4, ep⟩ := DataW.trod_bool Tryd.underlying4 g3
    simp at e0 e1 e2 e3 e4
    subst e0 e1 e2 e3 e4
    subst ea eb eg el ep hz hx
    exact ⟨a, b, g, l, p, rfl, (bounds_u32 wa).1, (bounds_u32 wa).2, by simp⟩

set_option maxRecDepth 100000 in
/-- A rule that came in. -/
theorem open_rule {H : Type} {enc : TypeId × Value → H} {W : World} {base : Nat} {v : Value} {d : DataW H} {p : List MemPlace}
    (hv : Value.okWide Tryd.prog W .any base 32 v) (h : DataW.Trod enc Tryd.prog W 0 (fun _ => true) true 32 v d p) :
    ∃ (a b g l : Int) (q : Bool), v = .agg #[.int .u32 a, .int .i64 b, .int .i64 g, .int .i64 l, .bool q] ∧ 0 ≤ a ∧ a ≤ 4294967295 ∧ p = [] := by
  obtain ⟨cs, rfl, _⟩ := okWide_struct Tryd.underlying32 hv
  obtain ⟨fuel, hf⟩ := h
  obtain ⟨a, b, g, l, q, hc, h0, h1, hp⟩ := open_five hf
  refine ⟨a, b, g, l, q, ?_, h0, h1, hp⟩
  simp only [Value.cells] at hc
  obtain ⟨L⟩ := cs
  simp at hc
  rw [hc]

theorem Ad.cellsR_mk (f : Nat → Ad.R) (n j : Nat) (u : Value) (h : (Ad.cellsR ((List.range n).map f))[j]? = some u) : j / 5 < n ∧ (Ad.encR (f (j / 5)))[j % 5]? = some u := by
  have hj : j < n * 5 := by have := (List.getElem?_eq_some_iff.1 h).1; rw [Ad.cellsR_length] at this; simpa using this
  have hn : j / 5 < n := by omega
  refine ⟨hn, ?_⟩
  have hc := Ad.cellsR_get ((List.range n).map f) (j / 5) (j % 5) (by simpa using hn) (by omega)
  simp only [List.getElem_map, List.getElem_range] at hc
  rw [← hc, show j / 5 * 5 + j % 5 = j by omega, h]

set_option maxRecDepth 100000 in
theorem open_rules {H : Type} {enc : TypeId × Value → H} {W : World} {base : Nat} {v : Value} {d : DataW H} {p : List MemPlace}
    (hv : Value.okWide Tryd.prog W .any base 22 v) (h : DataW.Trod enc Tryd.prog W 0 (fun _ => true) true 22 v d p) :
    ∃ ao l cap, v = .slice ao l.length cap ∧ Ad.slotR W ao l ∧ Ad.fitsR l := by
  obtain ⟨fuel, hx⟩ := h
  obtain ⟨a0, n0, c0, rfl⟩ := okWide_slice Tryd.underlying22 hv
  rcases open_slice Tryd.underlying22 hx with ⟨hcs, _⟩ | ⟨a, len, cap, m, n, D, Pl, hcs, _, hl, _, hmm, _, hall⟩
  · simp [Value.cells] at hcs
    exact ⟨none, [], 0, by rw [hcs.1, hcs.2.1, hcs.2.2]; rfl, .inl rfl, fun x hx => by cases hx⟩
  · simp only [Value.cells] at hcs
    have hcs' : Value.slice a0 n0 c0 = .slice (some a) len cap := by simpa using hcs
    simp only [Value.slice.injEq] at hcs'
    obtain ⟨rfl, rfl, rfl⟩ := hcs'
    have hmc : m = c0 := by rw [hmm]; rfl
    have hsp : a.spot = none := by
      simp only [Value.okWide, Tryd.underlying22, Cell.okWide, Cell.ok] at hv
      exact hv.2.2.2.1
    obtain ⟨b, off, sp⟩ := a
    subst hsp
    have key : ∀ i, ∃ x : Ad.R, i < n0 → (∀ j u, (Ad.encR x)[j]? = some u → W.cell? ⟨b, off + i * 5 + j, none⟩ = some u) ∧ 0 ≤ x.1 ∧ x.1 ≤ 4294967295 := by
      intro i
      by_cases hi : i < n0
      · obtain ⟨cs', h1, h2⟩ := hall i (by omega)
        rw [cells32] at h1
        obtain ⟨_, hlen, hcell⟩ := World.cells?_some h1
        obtain ⟨a, bb, g, l, q, rfl, g0, g1, _⟩ := open_five h2
        refine ⟨(a, bb, g, l, q), fun _ => ⟨fun j u hu => ?_, g0, g1⟩⟩
        have hu' : [Value.int .u32 a, .int .i64 bb, .int .i64 g, .int .i64 l, .bool q][j]? = some u := hu
        have hj : j < 5 := by have := (List.getElem?_eq_some_iff.1 hu').1; simpa using this
        have := hcell j hj
        rw [Deep.add_add, add_plain] at this
        rw [Nat.add_assoc]
        exact this.trans hu'
      · exact ⟨(0, 0, 0, 0, false), fun h => absurd h hi⟩
    obtain ⟨f, hf⟩ : ∃ f : Nat → Ad.R, ∀ i, i < n0 → (∀ j u, (Ad.encR (f i))[j]? = some u → W.cell? ⟨b, off + i * 5 + j, none⟩ = some u) ∧ 0 ≤ (f i).1 ∧ (f i).1 ≤ 4294967295 := ⟨fun i => (key i).choose, fun i => (key i).choose_spec⟩
    refine ⟨some ⟨b, off, none⟩, (List.range n0).map f, c0, by simp, .inr ⟨b, off, rfl, ?_⟩, ?_⟩
    · intro j u hu
      obtain ⟨hj, hu2⟩ := Ad.cellsR_mk f n0 j u hu
      have := (hf (j / 5) hj).1 (j % 5) u hu2
      rwa [show off + j / 5 * 5 + j % 5 = off + j by omega] at this
    · intro x hx
      simp only [List.mem_map, List.mem_range] at hx
      obtain ⟨i, hi, rfl⟩ := hx
      exact (hf i hi).2

theorem tab_of {W : World} {l : List (String × DataW Unit)} (hl : (l.filter fun x => x.1 == "internal/strconv.uint64pow10") = [("internal/strconv.uint64pow10", Lib.tabData .u64 Lib.pow10Tab)]) (h : laidMetH Tryd.prog l W) : Tab W := by
  have h1 := h.filter fun x => x.1 == "internal/strconv.uint64pow10"
  rw [hl] at h1
  have h2 : laidMet Tryd.prog [("internal/strconv.uint64pow10", Lib.tabData .u64 Lib.pow10Tab)] W := h1
  exact Lib.tabIs_of_head (g := (Tryd.prog.globalNamed "internal/strconv.uint64pow10").getD 0) (t := 104) (e := 87) (n := 20) (by kernel_rfl) (by kernel_rfl) (by kernel_rfl) (by kernel_rfl) (by kernel_rfl) (by kernel_rfl) h2
theorem laidOut : laidOutB Tryd.prog = true := by kernel_rfl
end Go.Proofs.YtkpoanjcalolkaaDoor
