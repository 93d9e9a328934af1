/- Rising lists of communities. -/
import Derived.Test.YtngfoijmknclhaaGreatDoorJ04
namespace Go.Proofs.YtngfoijmknclhaaGreatDoor.Cm
open Go.RowKit Go.Sort Go.Lib
theorem Co.bef_iff (x y : Co.C) : Co.bef x y = true ↔ x.1 < y.1 ∨ (x.1 = y.1 ∧ x.2 < y.2) := by simp [Co.bef]
theorem Co.bef_irr (x : Co.C) : Co.bef x x = false := by
  cases h : Co.bef x x
  · rfl
  · rw [Co.bef_iff] at h; omega
theorem Co.bef_trans {x y z : Co.C} (h1 : Co.bef x y = true) (h2 : Co.bef y z = true) : Co.bef x z = true := by
  rw [Co.bef_iff] at *; omega
theorem Co.bef_total {x y : Co.C} (h : Co.bef y x = false) : x = y ∨ Co.bef x y = true := by
  by_cases h1 : Co.bef x y = true
  · exact .inr h1
  · left
    have h2 : ¬ Co.bef y x = true := by rw [h]; decide
    rw [Co.bef_iff] at h1 h2
    exact Prod.ext (by omega) (by omega)
/-- A list that rises. -/
def Co.rises (l : List Co.C) : Prop := l.Pairwise fun x y => Co.bef x y = true

theorem Co.rises_eq : ∀ (x y : List Co.C), Co.rises x → Co.rises y → (∀ c, c ∈ x ↔ c ∈ y) → x = y
  | [], [], _, _, _ => rfl
  | [], b :: ys, _, _, h => absurd ((h b).2 (by simp)) (by simp)
  | a :: xs, [], _, _, h => absurd ((h a).1 (by simp)) (by simp)
  | a :: xs, b :: ys, hx, hy, h => by
    obtain ⟨ha, hx'⟩ := List.pairwise_cons.1 hx
    obtain ⟨hb, hy'⟩ := List.pairwise_cons.1 hy
    have e : a = b := by
      rcases List.mem_cons.1 ((h a).1 (by simp)) with h1 | h1
      · exact h1
      · rcases List.mem_cons.1 ((h b).2 (by simp)) with h2 | h2
        · exact h2.symm
        · have := Co.bef_trans (hb a h1) (ha b h2)
          rw [Co.bef_irr] at this; cases this
    subst e
    have : xs = ys := Co.rises_eq xs ys hx' hy' fun c => by
      constructor
      · intro hc
        rcases List.mem_cons.1 ((h c).1 (by simp [hc])) with h1 | h1
        · subst h1
          have := ha c hc
          rw [Co.bef_irr] at this; cases this
        · exact h1
      · intro hc
        rcases List.mem_cons.1 ((h c).2 (by simp [hc])) with h1 | h1
        · subst h1
          have := hb c hc
          rw [Co.bef_irr] at this; cases this
        · exact h1
    rw [this]

end Go.Proofs.YtngfoijmknclhaaGreatDoor.Cm
