/- What a slice that came in is: nil has no room; its address is a plain one. -/
import Derived.Test.YtkpoanjcalolkaaDoorD4
namespace Go.Proofs.YtkpoanjcalolkaaDoor
open Go.ChangeShapes Go.WideShapes Go.ChangeAt Go.RowKit Go.Joins Go.Deep

set_option maxRecDepth 100000 in
theorem slice_plain {H : Type} {enc : TypeId × Value → H} {W : World} {base n cap : Nat} {ao : Option Addr} {d : DataW H} {p : List MemPlace}
    (hv : Value.okWide Tryd.prog W .any base 22 (.slice ao n cap)) (h : DataW.Trod enc Tryd.prog W 0 (fun _ => true) true 22 (.slice ao n cap) d p) :
    (ao = none → cap = 0) ∧ ∀ ad, ao = some ad → ad.spot = none := by
  obtain ⟨fuel, hx⟩ := h
  rcases open_slice Tryd.underlying22 hx with ⟨hcs, _⟩ | ⟨a, len, c, m, k, D, Pl, hcs, _⟩
  · simp [Value.cells] at hcs
    exact ⟨fun _ => hcs.2.2, fun ad had => by rw [hcs.1] at had; cases had⟩
  · simp only [Value.cells] at hcs
    have hcs' : Value.slice ao n cap = .slice (some a) len c := by simpa using hcs
    simp only [Value.slice.injEq] at hcs'
    obtain ⟨rfl, rfl, rfl⟩ := hcs'
    have hsp : a.spot = none := by
      simp only [Value.okWide, Tryd.underlying22, Cell.okWide, Cell.ok] at hv
      exact hv.2.2.2.1
    exact ⟨fun h => (by cases h), fun ad had => by (cases had; exact hsp)⟩
end Go.Proofs.YtkpoanjcalolkaaDoor
