/- One step that came in, opened. -/
import Derived.Test.YtkfomjinilmjaaaD1
namespace Go.Proofs.Ytkfomjinilmjaaa
open Go.ChangeShapes Go.WideShapes Go.ChangeAt Go.RowKit Go.Joins Go.Deep

set_option maxRecDepth 100000 in
/-- A step that came in. -/
theorem open_step {H : Type} {enc : TypeId × Value → H} {W : World} {base : Nat} {v : Value} {d : DataW H} {p : List MemPlace}
    (hv : Value.okWide Try.prog W .any base 28 v) (h : DataW.Trod enc Try.prog W 0 (fun _ => true) true 28 v d p) :
    ∃ (k r : Int) (s : ByteArray), v = .agg #[.int .i64 k, .int .i64 r, .string s] ∧ (Lit.int .i64 r).wf = true := by
  obtain ⟨cs, rfl, _⟩ := okWide_struct Try.underlying28 hv
  obtain ⟨fuel, hf⟩ := h
  obtain ⟨y0, y1, y2, m, hx, hl, g0, g1, g2⟩ := trod_struct3 Try.underlying28 hf
  simp only [Value.cells] at hl g0 g1 g2
  rw [cells28] at hl
  obtain ⟨l⟩ := cs
  simp only at hl g0 g1 g2
  match l, hl with
  | [v0, v1, v2], _ =>
    simp only [cells9, cells3, List.drop_zero, List.drop_succ_cons, List.take_succ_cons, List.take_zero] at g0 g1 g2
    obtain ⟨g, e2, eg, wg⟩ := DataW.trod_int Try.underlying3 g0
    obtain ⟨l, e3, el, wl⟩ := DataW.trod_int Try.underlying3 g1
    obtain ⟨q, e4, ep, wp⟩ := DataW.trod_string Try.underlying9 g2
    simp at e2 e3 e4
    subst e2 e3 e4
    exact ⟨g, l, q, rfl, wl⟩
end Go.Proofs.Ytkfomjinilmjaaa
