/- Steps that came in, opened. -/
import Derived.Test.YtkfomjinilmjaaaPa
import Derived.ProofKit
import Derived.OpenShut
import Derived.Lib.SmallJoins
import Derived.Deep.SlicePairs
namespace Go.Proofs.Ytkfomjinilmjaaa
open Go.ChangeShapes Go.WideShapes Go.ChangeAt Go.RowKit Go.Joins Go.Deep

theorem own : ownKnob Try.prog.godebug = none := by kernel_rfl
theorem laidOut : laidOutB Try.prog = true := by kernel_rfl
theorem cells3 : Try.prog.cellsOf 3 = 1 := by kernel_rfl
theorem cells9 : Try.prog.cellsOf 9 = 1 := by kernel_rfl
theorem cells28 : Try.prog.cellsOf 28 = 3 := by kernel_rfl
theorem add_plain5 (b o k : Nat) : (⟨b, o, none⟩ : Addr).add k = ⟨b, o + k, none⟩ := by unfold Addr.add; split <;> simp_all
def Opn.enc (x : Opn) : List Value := [.int .i64 x.1, .int .i64 x.2.1, .string x.2.2]
set_option maxRecDepth 100000 in
/-- A step's three cells. -/
theorem open_three {H : Type} {enc : TypeId × Value → H} {W : World} {base n : Nat} {spare : Nat → Bool} {held : Bool} {cs : List Value} {x : DataW H × List MemPlace} (h : DataW.trod enc Try.prog W base spare held n 28 cs = some x) :
    ∃ o : Opn, cs = Opn.enc o ∧ x.2 = [] := by
  obtain ⟨y0, y1, y2, m, hx, hl, g0, g1, g2⟩ := trod_struct3 Try.underlying28 h
  rw [cells28] at hl
  match cs, hl with
  | [v0, v1, v2], _ =>
    simp only [cells9, cells3, List.drop_zero, List.drop_succ_cons, List.take_succ_cons, List.take_zero] at g0 g1 g2
    obtain ⟨g, e2, eg, wg⟩ := DataW.trod_int Try.underlying3 g0
    obtain ⟨l, e3, el, wl⟩ := DataW.trod_int Try.underlying3 g1
    obtain ⟨p, e4, ep, wp⟩ := DataW.trod_string Try.underlying9 g2
    simp at e2 e3 e4
    subst e2 e3 e4
    subst eg el ep hx
    exact ⟨(g, l, p), rfl, by simp⟩
set_option maxRecDepth 100000 in
/-- Steps that came in. -/
theorem open_ops {H : Type} {enc : TypeId × Value → H} {W : World} {base : Nat} {v : Value} {d : DataW H} {p : List MemPlace}
    (hv : Value.okWide Try.prog W .any base 22 v) (h : DataW.Trod enc Try.prog W 0 (fun _ => true) true 22 v d p) :
    ∃ ao l cap, v = .slice ao l.length cap ∧ Opn.rowAt W ao l := by
  obtain ⟨fuel, hx⟩ := h
  obtain ⟨a0, n0, c0, rfl⟩ := okWide_slice Try.underlying22 hv
  rcases open_slice Try.underlying22 hx with ⟨hcs, _⟩ | ⟨a, len, cap, m, n, D, Pl, hcs, _, hl, _, hmm, _, hall⟩
  · simp [Value.cells] at hcs
    exact ⟨none, [], 0, by rw [hcs.1, hcs.2.1, hcs.2.2]; rfl, .inl rfl⟩
  · simp only [Value.cells] at hcs
    have hcs' : Value.slice a0 n0 c0 = .slice (some a) len cap := by simpa using hcs
    simp only [Value.slice.injEq] at hcs'
    obtain ⟨rfl, rfl, rfl⟩ := hcs'
    have hmc : m = c0 := by rw [hmm]; rfl
    have hsp : a.spot = none := by
      simp only [Value.okWide, Try.underlying22, Cell.okWide, Cell.ok] at hv
      exact hv.2.2.2.1
    obtain ⟨b, off, sp⟩ := a
    subst hsp
    have key : ∀ i, ∃ x : Opn, i < n0 → (∀ j u, (Opn.enc x)[j]? = some u → W.cell? ⟨b, off + i * 3 + j, none⟩ = some u) := by
      intro i
      by_cases hi : i < n0
      · obtain ⟨cs', h1, h2⟩ := hall i (by omega)
        rw [cells28] at h1
        obtain ⟨_, hlen, hcell⟩ := World.cells?_some h1
        obtain ⟨o, rfl, _⟩ := open_three h2
        refine ⟨o, fun _ => fun j u hu => ?_⟩
        have hj : j < 3 := by have := (List.getElem?_eq_some_iff.1 hu).1; simpa [Opn.enc] using this
        have := hcell j hj
        rw [Deep.add_add, add_plain5] at this
        rw [Nat.add_assoc]
        exact this.trans hu
      · exact ⟨(0, 0, ⟨#[]⟩), fun h => absurd h hi⟩
    obtain ⟨f, hf⟩ : ∃ f : Nat → Opn, ∀ i, i < n0 → (∀ j u, (Opn.enc (f i))[j]? = some u → W.cell? ⟨b, off + i * 3 + j, none⟩ = some u) := ⟨fun i => (key i).choose, fun i => (key i).choose_spec⟩
    have hrd : Opn.reads W b off ((List.range n0).map f) := by
      intro i hi
      have hi' : i < n0 := by simpa using hi
      have h5 := hf i hi'
      simp only [List.getElem_map, List.getElem_range]
      refine ⟨?_, h5 1 _ rfl, h5 2 _ rfl⟩
      have := h5 0 _ rfl
      rwa [Nat.add_zero] at this
    refine ⟨some ⟨b, off, none⟩, (List.range n0).map f, c0, by simp, ?_⟩
    by_cases h0 : n0 = 0
    · left; simp [h0]
    · exact .inr ⟨b, off, rfl, block_lt_of_cell (hrd 0 (by simp; omega)).1, hrd⟩
end Go.Proofs.Ytkfomjinilmjaaa
