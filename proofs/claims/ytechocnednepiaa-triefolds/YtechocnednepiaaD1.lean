import Derived.Test.YtechocnednepiaaL6
import Derived.ProofKit
import Derived.OpenShut
import Derived.Lib.SmallJoins
import Derived.Deep.SlicePairs
/- Steps and prefixes that came in, opened. -/
namespace Go.Proofs.Ytechocnednepiaa
open Go.ChangeShapes Go.WideShapes Go.ChangeAt Go.RowKit Go.Joins Go.Deep

theorem own : ownKnob Try.prog.godebug = none := by kernel_rfl
theorem laidOut : laidOutB Try.prog = true := by kernel_rfl
theorem cells3 : Try.prog.cellsOf 3 = 1 := by kernel_rfl
theorem cells28 : Try.prog.cellsOf 28 = 1 := by kernel_rfl
theorem cells30 : Try.prog.cellsOf 30 = 2 := by kernel_rfl
theorem cells32 : Try.prog.cellsOf 32 = 5 := by kernel_rfl
theorem add_plain5 (b o k : Nat) : (⟨b, o, none⟩ : Addr).add k = ⟨b, o + k, none⟩ := by unfold Addr.add; split <;> simp_all
set_option maxRecDepth 100000 in
/-- A step's five cells. -/
theorem open_five {H : Type} {enc : TypeId × Value → H} {W : World} {base n : Nat} {spare : Nat → Bool} {held : Bool} {cs : List Value} {x : DataW H × List MemPlace} (h : DataW.trod enc Try.prog W base spare held n 32 cs = some x) :
    ∃ o : Opn, cs = Opn.enc o ∧ ((0 ≤ o.2.2.1.1 ∧ o.2.2.1.1 ≤ 4294967295) ∧ (0 ≤ o.2.2.2 ∧ o.2.2.2 ≤ 4294967295)) ∧ x.2 = [] := by
  obtain ⟨y0, y1, y2, y3, m, hx, hl, g0, g1, g2, g3⟩ := trod_struct4 Try.underlying32 h
  rw [cells32] at hl
  match cs, hl with
  | [v0, v1, v2, v3, v4], _ =>
    simp only [cells30, cells3, cells28, List.drop_zero, List.drop_succ_cons, List.take_succ_cons, List.take_zero] at g0 g1 g2 g3
    obtain ⟨z0, z1, k, hz, _, k0, k1⟩ := trod_struct2 Try.underlying30 g2
    simp only [cells28, cells3, List.drop_zero, List.drop_succ_cons, List.take_succ_cons, List.take_zero] at k0 k1
    obtain ⟨a, e0, ea, wa⟩ := DataW.trod_int Try.underlying28 k0
    obtain ⟨b, e1, eb, wb⟩ := DataW.trod_int Try.underlying3 k1
    obtain ⟨g, e2, eg, wg⟩ := DataW.trod_int Try.underlying3 g0
    obtain ⟨l, e3, el, wl⟩ := DataW.trod_int Try.underlying3 g1
    obtain ⟨p, e4, ep, wp⟩ := DataW.trod_int Try.underlying28 g3
    simp at e0 e1 e2 e3 e4
    subst e0 e1 e2 e3 e4
    subst ea eb eg el ep hz hx
    exact ⟨(g, l, (a, b), p), rfl, ⟨⟨(bounds_u32 wa).1, (bounds_u32 wa).2⟩, ⟨(bounds_u32 wp).1, (bounds_u32 wp).2⟩⟩, by simp⟩
set_option maxRecDepth 100000 in
/-- A step that came in. -/
theorem open_op {H : Type} {enc : TypeId × Value → H} {W : World} {base : Nat} {v : Value} {d : DataW H} {p : List MemPlace}
    (hv : Value.okWide Try.prog W .any base 32 v) (h : DataW.Trod enc Try.prog W 0 (fun _ => true) true 32 v d p) :
    ∃ o : Opn, v = .agg (Opn.enc o).toArray ∧ ((0 ≤ o.2.2.1.1 ∧ o.2.2.1.1 ≤ 4294967295) ∧ (0 ≤ o.2.2.2 ∧ o.2.2.2 ≤ 4294967295)) ∧ p = [] := by
  obtain ⟨cs, rfl, _⟩ := okWide_struct Try.underlying32 hv
  obtain ⟨fuel, hf⟩ := h
  obtain ⟨o, hc, h0, hp⟩ := open_five hf
  refine ⟨o, ?_, h0, hp⟩
  simp only [Value.cells] at hc
  rw [← hc]
set_option maxRecDepth 100000 in
/-- Steps that came in. -/
theorem open_ops {H : Type} {enc : TypeId × Value → H} {W : World} {base : Nat} {v : Value} {d : DataW H} {p : List MemPlace}
    (hv : Value.okWide Try.prog W .any base 22 v) (h : DataW.Trod enc Try.prog W 0 (fun _ => true) true 22 v d p) :
    ∃ ao l cap, v = .slice ao l.length cap ∧ Opn.rowAt W ao l ∧ Opn.fits l := by
  obtain ⟨fuel, hx⟩ := h
  obtain ⟨a0, n0, c0, rfl⟩ := okWide_slice Try.underlying22 hv
  rcases open_slice Try.underlying22 hx with ⟨hcs, _⟩ | ⟨a, len, cap, m, n, D, Pl, hcs, _, hl, _, hmm, _, hall⟩
  · simp [Value.cells] at hcs
    exact ⟨none, [], 0, by rw [hcs.1, hcs.2.1, hcs.2.2]; rfl, .inl rfl, fun x hx => by cases hx⟩
  · simp only [Value.cells] at hcs
    have hcs' : Value.slice a0 n0 c0 = .slice (some a) len cap := by simpa using hcs
    simp only [Value.slice.injEq] at hcs'
    obtain ⟨rfl, rfl, rfl⟩ := hcs'
    have hmc : m = c0 := by rw [hmm]; rfl
    have hsp : a.spot = none := by
      simp only [Value.okWide, Try.underlying22, Cell.okWide, Cell.ok] at hv
      exact hv.2.2.2.1
    obtain ⟨b, off, sp⟩ := a
    subst hsp
    have key : ∀ i, ∃ x : Opn, i < n0 → (∀ j u, (Opn.enc x)[j]? = some u → W.cell? ⟨b, off + i * 5 + j, none⟩ = some u) ∧ ((0 ≤ x.2.2.1.1 ∧ x.2.2.1.1 ≤ 4294967295) ∧ (0 ≤ x.2.2.2 ∧ x.2.2.2 ≤ 4294967295)) := by
      intro i
      by_cases hi : i < n0
      · obtain ⟨cs', h1, h2⟩ := hall i (by omega)
        rw [cells32] at h1
        obtain ⟨_, hlen, hcell⟩ := World.cells?_some h1
        obtain ⟨o, rfl, g0, _⟩ := open_five h2
        refine ⟨o, fun _ => ⟨fun j u hu => ?_, g0⟩⟩
        have hj : j < 5 := by have := (List.getElem?_eq_some_iff.1 hu).1; simpa [Opn.enc] using this
        have := hcell j hj
        rw [Deep.add_add, add_plain5] at this
        rw [Nat.add_assoc]
        exact this.trans hu
      · exact ⟨(0, 0, (0, 0), 0), fun h => absurd h hi⟩
    obtain ⟨f, hf⟩ : ∃ f : Nat → Opn, ∀ i, i < n0 → (∀ j u, (Opn.enc (f i))[j]? = some u → W.cell? ⟨b, off + i * 5 + j, none⟩ = some u) ∧ ((0 ≤ (f i).2.2.1.1 ∧ (f i).2.2.1.1 ≤ 4294967295) ∧ (0 ≤ (f i).2.2.2 ∧ (f i).2.2.2 ≤ 4294967295)) := ⟨fun i => (key i).choose, fun i => (key i).choose_spec⟩
    have hrd : Opn.reads W b off ((List.range n0).map f) := by
      intro i hi
      have hi' : i < n0 := by simpa using hi
      have h5 := (hf i hi').1
      simp only [List.getElem_map, List.getElem_range]
      refine ⟨?_, h5 1 _ rfl, h5 2 _ rfl, h5 3 _ rfl, h5 4 _ rfl⟩
      have := h5 0 _ rfl
      rwa [Nat.add_zero] at this
    refine ⟨some ⟨b, off, none⟩, (List.range n0).map f, c0, by simp, ?_, ?_⟩
    · by_cases h0 : n0 = 0
      · left; simp [h0]
      · exact .inr ⟨b, off, rfl, block_lt_of_cell (hrd 0 (by simp; omega)).1, hrd⟩
    · intro x hx
      simp only [List.mem_map, List.mem_range] at hx
      obtain ⟨i, hi, rfl⟩ := hx
      exact (hf i hi).2
set_option maxRecDepth 100000 in
/-- A prefix that came in. -/
theorem open_prefix {H : Type} {enc : TypeId × Value → H} {W : World} {base : Nat} {v : Value} {d : DataW H} {p : List MemPlace}
    (hv : Value.okWide Try.prog W .any base 30 v) (h : DataW.Trod enc Try.prog W 0 (fun _ => true) true 30 v d p) :
    ∃ a b : Int, v = .agg #[.int .u32 a, .int .i64 b] ∧ d = .agg [.lit (.int .u32 a), .lit (.int .i64 b)] ∧ p = [] ∧ 0 ≤ a ∧ a ≤ 4294967295 ∧
      ∀ (W' : World) (sp : Nat → Bool), DataW.Trod enc Try.prog W' 0 sp true 30 (.agg #[.int .u32 a, .int .i64 b]) (.agg [.lit (.int .u32 a), .lit (.int .i64 b)]) [] := by
  obtain ⟨c0, c1, y0, y1, m, rfl, rfl, rfl, hy0, hy1⟩ := open_agg2 Try.underlying30 (by kernel_rfl) cells30 hv h
  obtain ⟨a, e0, rfl, wa⟩ := DataW.trod_int Try.underlying28 hy0
  obtain ⟨b, e1, rfl, wb⟩ := DataW.trod_int Try.underlying3 hy1
  simp at e0 e1
  subst e0 e1
  exact ⟨a, b, rfl, rfl, by simp, (bounds_u32 wa).1, (bounds_u32 wa).2, fun W' sp =>
    shut_agg2 (y0 := (.lit (.int .u32 a), [])) (y1 := (.lit (.int .i64 b), [])) Try.underlying30 (by kernel_rfl) cells30 ⟨1, by simp [DataW.trod, Try.underlying28, wa]⟩ ⟨1, by simp [DataW.trod, Try.underlying3, wb]⟩⟩
end Go.Proofs.Ytechocnednepiaa
