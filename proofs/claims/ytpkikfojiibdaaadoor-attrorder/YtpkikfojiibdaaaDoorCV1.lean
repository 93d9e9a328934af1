/- The law CommOrder: the order is one. -/
import Derived.Test.YtpkikfojiibdaaaDoorCO2
import Derived.Test.YtpkikfojiibdaaaDoorCM7
namespace Go.Proofs.YtpkikfojiibdaaaDoor.Cm
open Go.RowKit Go.Sort

theorem Co.ci_cases (a b : Int) : (a < b ∧ Co.ci a b = -1) ∨ (a = b ∧ Co.ci a b = 0) ∨ (b < a ∧ Co.ci a b = 1) := by
  unfold Co.ci
  by_cases h : a < b
  · exact .inl ⟨h, if_pos h⟩
  · by_cases h2 : b < a
    · exact .inr (.inr ⟨h2, by rw [if_neg h, if_pos h2]⟩)
    · exact .inr (.inl ⟨by omega, by rw [if_neg h, if_neg h2]⟩)
theorem Co.ord_cases (x y : Co.C) : (Co.bef x y = true ∧ Co.ord x y = -1) ∨ (x = y ∧ Co.ord x y = 0) ∨ (Co.bef y x = true ∧ Co.ord x y = 1) := by
  unfold Co.ord
  rcases Co.ci_cases x.1 y.1 with ⟨h, e⟩ | ⟨h, e⟩ | ⟨h, e⟩
  · exact .inl ⟨(Co.bef_iff x y).2 (.inl h), by rw [e]; rfl⟩
  · rcases Co.ci_cases x.2 y.2 with ⟨h2, e2⟩ | ⟨h2, e2⟩ | ⟨h2, e2⟩
    · exact .inl ⟨(Co.bef_iff x y).2 (.inr ⟨h, h2⟩), by rw [e, e2]; rfl⟩
    · exact .inr (.inl ⟨Prod.ext h h2, by rw [e, e2]; rfl⟩)
    · exact .inr (.inr ⟨(Co.bef_iff y x).2 (.inr ⟨h.symm, h2⟩), by rw [e, e2]; rfl⟩)
  · exact .inr (.inr ⟨(Co.bef_iff y x).2 (.inl h), by rw [e]; rfl⟩)
theorem Co.ord_self (x : Co.C) : Co.ord x x = 0 := by
  rcases Co.ord_cases x x with ⟨h, e⟩ | ⟨h, e⟩ | ⟨h, e⟩
  · rw [Co.bef_irr] at h; cases h
  · exact e
  · rw [Co.bef_irr] at h; cases h
theorem Co.ord_bef {x y : Co.C} (h : Co.bef x y = true) : Co.ord x y = -1 := by
  rcases Co.ord_cases x y with ⟨_, e⟩ | ⟨rfl, e⟩ | ⟨h2, e⟩
  · exact e
  · rw [Co.bef_irr] at h; cases h
  · have := Co.bef_trans h h2; rw [Co.bef_irr] at this; cases this
theorem Co.ord_aft {x y : Co.C} (h : Co.bef y x = true) : Co.ord x y = 1 := by
  rcases Co.ord_cases x y with ⟨h2, e⟩ | ⟨rfl, e⟩ | ⟨_, e⟩
  · have := Co.bef_trans h h2; rw [Co.bef_irr] at this; cases this
  · rw [Co.bef_irr] at h; cases h
  · exact e

/-- What an order's three answers must be. -/
def Co.three (x y z : Int) : Prop := x = 1 ∨ (x = 0 ∧ y = 1) ∨ (x = 0 ∧ y = 0 ∧ z = 0) ∨ (x = 0 ∧ y = -1 ∧ z = -1) ∨ (x = -1 ∧ y = 1) ∨ (x = -1 ∧ y = 0 ∧ z = -1) ∨ (x = -1 ∧ y = -1 ∧ z = -1)

theorem Co.lex_neg : ∀ a b : List Co.C, Co.lex b a = - Co.lex a b
  | [], [] => rfl
  | [], _ :: _ => rfl
  | _ :: _, [] => rfl
  | x :: xs, y :: ys => by
    have ih := Co.lex_neg xs ys
    simp only [Co.lex]
    rcases Co.ord_cases x y with ⟨h, e⟩ | ⟨rfl, e⟩ | ⟨h, e⟩
    · rw [e, Co.ord_aft h]; rfl
    · rw [e, ih]; rfl
    · rw [e, Co.ord_bef h]; rfl
theorem Co.lex_zero : ∀ a b : List Co.C, a.length = b.length → (Co.lex a b = 0 ↔ a = b)
  | [], [], _ => by simp [Co.lex]
  | [], _ :: _, h => by simp at h
  | _ :: _, [], h => by simp at h
  | x :: xs, y :: ys, h => by
    have ih := Co.lex_zero xs ys (by simpa using h)
    simp only [Co.lex]
    rcases Co.ord_cases x y with ⟨h1, e⟩ | ⟨rfl, e⟩ | ⟨h1, e⟩
    · rw [e, if_pos (by decide)]
      refine ⟨fun h => absurd h (by decide), fun h => ?_⟩
      injection h with h2 _
      subst h2
      rw [Co.bef_irr] at h1; cases h1
    · rw [e, if_neg (by decide), ih]
      simp
    · rw [e, if_pos (by decide)]
      refine ⟨fun h => absurd h (by decide), fun h => ?_⟩
      injection h with h2 _
      subst h2
      rw [Co.bef_irr] at h1; cases h1
theorem Co.lex_three : ∀ a b c : List Co.C, a.length = b.length → b.length = c.length → Co.three (Co.lex a b) (Co.lex b c) (Co.lex a c)
  | [], [], [], _, _ => by simp [Co.lex, Co.three]
  | [], [], _ :: _, _, h => by simp at h
  | [], _ :: _, _, h, _ => by simp at h
  | _ :: _, [], _, h, _ => by simp at h
  | _ :: _, _ :: _, [], _, h => by simp at h
  | x :: xs, y :: ys, z :: zs, h1, h2 => by
    have ih := Co.lex_three xs ys zs (by simpa using h1) (by simpa using h2)
    simp only [Co.lex]
    rcases Co.ord_cases x y with ⟨p, e⟩ | ⟨rfl, e⟩ | ⟨p, e⟩
    · rcases Co.ord_cases y z with ⟨q, f⟩ | ⟨rfl, f⟩ | ⟨q, f⟩
      · rw [e, f, Co.ord_bef (Co.bef_trans p q)]
        exact .inr (.inr (.inr (.inr (.inr (.inr ⟨rfl, rfl, rfl⟩)))))
      · rw [e, f, if_pos (by decide), if_neg (by decide), if_pos (by decide)]
        have hr : Co.lex ys zs = 1 ∨ Co.lex ys zs = 0 ∨ Co.lex ys zs = -1 := by
          have h3 := Co.lex_three ys ys zs rfl (by simpa using h2)
          have h0 := (Co.lex_zero ys ys rfl).2 rfl
          rw [h0] at h3
          rcases h3 with h | h | h | h | h | h | h <;> omega
        rcases hr with h | h | h
        · exact .inr (.inr (.inr (.inr (.inl ⟨rfl, h⟩))))
        · exact .inr (.inr (.inr (.inr (.inr (.inl ⟨rfl, h, rfl⟩)))))
        · exact .inr (.inr (.inr (.inr (.inr (.inr ⟨rfl, h, rfl⟩)))))
      · rw [e, f, if_pos (by decide), if_pos (by decide)]
        exact .inr (.inr (.inr (.inr (.inl ⟨rfl, rfl⟩))))
    · rw [e, if_neg (by decide)]
      rcases Co.ord_cases x z with ⟨q, f⟩ | ⟨rfl, f⟩ | ⟨q, f⟩
      · rw [f, if_pos (by decide)]
        have hr : Co.lex xs ys = 1 ∨ Co.lex xs ys = 0 ∨ Co.lex xs ys = -1 := by
          rcases ih with h | h | h | h | h | h | h <;> omega
        rcases hr with h | h | h
        · exact .inl h
        · exact .inr (.inr (.inr (.inl ⟨h, rfl, rfl⟩)))
        · exact .inr (.inr (.inr (.inr (.inr (.inr ⟨h, rfl, rfl⟩)))))
      · rw [f, if_neg (by decide), if_neg (by decide)]
        exact ih
      · rw [f, if_pos (by decide)]
        have hr : Co.lex xs ys = 1 ∨ Co.lex xs ys = 0 ∨ Co.lex xs ys = -1 := by
          rcases ih with h | h | h | h | h | h | h <;> omega
        rcases hr with h | h | h
        · exact .inl h
        · exact .inr (.inl ⟨h, rfl⟩)
        · exact .inr (.inr (.inr (.inr (.inl ⟨h, rfl⟩))))
    · rw [e, if_pos (by decide)]
      exact .inl rfl

theorem Co.compare_neg (a b : List Co.C) : Co.compare b a = - Co.compare a b := by
  unfold Co.compare
  by_cases h1 : a.length < b.length
  · rw [if_neg (by omega), if_pos h1, if_pos h1]; rfl
  · by_cases h2 : b.length < a.length
    · rw [if_pos h2, if_neg h1, if_pos h2]
    · rw [if_neg h2, if_neg h1, if_neg h1, if_neg h2, Co.lex_neg]
theorem Co.compare_zero (a b : List Co.C) : Co.compare a b = 0 ↔ a = b := by
  unfold Co.compare
  by_cases h1 : a.length < b.length
  · rw [if_pos h1]
    exact ⟨fun h => absurd h (by decide), fun h => by rw [h] at h1; omega⟩
  · by_cases h2 : b.length < a.length
    · rw [if_neg h1, if_pos h2]
      exact ⟨fun h => absurd h (by decide), fun h => by rw [h] at h2; omega⟩
    · rw [if_neg h1, if_neg h2]
      exact Co.lex_zero a b (by omega)
theorem Co.lex_range (a b : List Co.C) (h : a.length = b.length) : Co.lex a b = 1 ∨ Co.lex a b = 0 ∨ Co.lex a b = -1 := by
  rcases Co.lex_three a b b h rfl with h | h | h | h | h | h | h <;> omega
theorem Co.compare_range (a b : List Co.C) : Co.compare a b = 1 ∨ Co.compare a b = 0 ∨ Co.compare a b = -1 := by
  unfold Co.compare
  by_cases h1 : a.length < b.length
  · rw [if_pos h1]; exact .inr (.inr rfl)
  · by_cases h2 : b.length < a.length
    · rw [if_neg h1, if_pos h2]; exact .inl rfl
    · rw [if_neg h1, if_neg h2]; exact Co.lex_range a b (by omega)
theorem Co.compare_three (a b c : List Co.C) : Co.three (Co.compare a b) (Co.compare b c) (Co.compare a c) := by
  rcases Nat.lt_trichotomy a.length b.length with h | h | h
  · have e : Co.compare a b = -1 := by unfold Co.compare; rw [if_pos h]
    rw [e]
    rcases Co.compare_range b c with f | f | f
    · exact .inr (.inr (.inr (.inr (.inl ⟨rfl, f⟩))))
    · have : b = c := (Co.compare_zero b c).1 f
      subst this
      exact .inr (.inr (.inr (.inr (.inr (.inl ⟨rfl, f, e⟩)))))
    · have hbc : b.length ≤ c.length := by
        unfold Co.compare at f
        by_cases h1 : c.length < b.length
        · rw [if_neg (by omega), if_pos h1] at f; omega
        · omega
      exact .inr (.inr (.inr (.inr (.inr (.inr ⟨rfl, f, by unfold Co.compare; rw [if_pos (by omega)]⟩)))))
  · have e : Co.compare a b = Co.lex a b := by unfold Co.compare; rw [if_neg (by omega), if_neg (by omega)]
    rcases Nat.lt_trichotomy b.length c.length with g | g | g
    · have f1 : Co.compare b c = -1 := by unfold Co.compare; rw [if_pos g]
      have f2 : Co.compare a c = -1 := by unfold Co.compare; rw [if_pos (by omega)]
      rw [f1, f2]
      rcases Co.compare_range a b with q | q | q
      · exact .inl q
      · exact .inr (.inr (.inr (.inl ⟨q, rfl, rfl⟩)))
      · exact .inr (.inr (.inr (.inr (.inr (.inr ⟨q, rfl, rfl⟩)))))
    · have f1 : Co.compare b c = Co.lex b c := by unfold Co.compare; rw [if_neg (by omega), if_neg (by omega)]
      have f2 : Co.compare a c = Co.lex a c := by unfold Co.compare; rw [if_neg (by omega), if_neg (by omega)]
      rw [e, f1, f2]
      exact Co.lex_three a b c h g
    · have f1 : Co.compare b c = 1 := by unfold Co.compare; rw [if_neg (by omega), if_pos g]
      rw [f1]
      rcases Co.compare_range a b with q | q | q
      · exact .inl q
      · exact .inr (.inl ⟨q, rfl⟩)
      · exact .inr (.inr (.inr (.inr (.inl ⟨q, rfl⟩))))
  · have e : Co.compare a b = 1 := by unfold Co.compare; rw [if_neg (by omega), if_pos h]
    exact .inl e
end Go.Proofs.YtpkikfojiibdaaaDoor.Cm