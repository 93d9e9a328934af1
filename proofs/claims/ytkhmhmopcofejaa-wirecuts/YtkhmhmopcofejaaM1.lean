import Derived.Test.YtkhmhmopcofejaaH1
import Derived.Test.YtkhmhmopcofejaaCA1
/- Attributes: what may be, how two stand to one another, how a change is done. -/
namespace Go.Proofs.Ytkhmhmopcofejaa
open Go.RowKit

/-- Attributes. -/
structure At where
  pf : Int
  md : Int
  og : Int
  path : List Int
  comms : List Cm.Co.C
  fr : Int
  cl : List Int
/-- Numbers of reflectors. -/
def Cl.ok (l : List Int) : Bool := decide (l.length ≤ 8) && l.all Is.as && decide l.Nodup
def At.may (a : At) : Bool := decide (0 ≤ a.pf ∧ a.pf ≤ 1048576 ∧ 0 ≤ a.md ∧ a.md ≤ 1048576 ∧ 0 ≤ a.og ∧ a.og ≤ 2 ∧ 0 ≤ a.fr ∧ a.fr ≤ 65535) && (Is.may a.path && (Cm.Co.set a.comms && Cl.ok a.cl))
/-- The first that is not zero. -/
def fz : List Int → Int
  | [] => 0
  | x :: l => if x ≠ 0 then x else fz l
def At.parts (a b : At) : List Int := [Cm.Co.ci a.pf b.pf, Cm.Co.ci a.md b.md, Cm.Co.ci a.og b.og, Is.compare a.path b.path, Cm.Co.compare a.comms b.comms, Cm.Co.ci a.fr b.fr, Is.compare a.cl b.cl]
def At.cmp (a b : At) : Int := fz (At.parts a b)

theorem ci_neg (a b : Int) : Cm.Co.ci b a = -Cm.Co.ci a b := by
  rcases Cm.Co.ci_cases a b with ⟨h, k⟩ | ⟨h, k⟩ | ⟨h, k⟩ <;> rcases Cm.Co.ci_cases b a with ⟨h2, k2⟩ | ⟨h2, k2⟩ | ⟨h2, k2⟩ <;> omega
theorem ci_zero (a b : Int) : Cm.Co.ci a b = 0 ↔ a = b := by
  rcases Cm.Co.ci_cases a b with ⟨h, k⟩ | ⟨h, k⟩ | ⟨h, k⟩ <;> omega
theorem ci_three (a b c : Int) : Cm.Co.three (Cm.Co.ci a b) (Cm.Co.ci b c) (Cm.Co.ci a c) := by
  unfold Cm.Co.three
  rcases Cm.Co.ci_cases a b with ⟨h, k⟩ | ⟨h, k⟩ | ⟨h, k⟩ <;> rcases Cm.Co.ci_cases b c with ⟨h2, k2⟩ | ⟨h2, k2⟩ | ⟨h2, k2⟩ <;> rcases Cm.Co.ci_cases a c with ⟨h3, k3⟩ | ⟨h3, k3⟩ | ⟨h3, k3⟩ <;> rw [k, k2, k3] <;> first | decide | omega
theorem is_three (a b c : List Int) : Cm.Co.three (Is.compare a b) (Is.compare b c) (Is.compare a c) := by
  have h1 := Is.compare_bd a b
  have h2 := Is.compare_bd b c
  have h3 := Is.compare_bd a c
  have h4 := Is.compare_trans a b c
  unfold Cm.Co.three
  by_cases e : Is.compare a b ≤ 0
  · by_cases e2 : Is.compare b c ≤ 0
    · obtain ⟨k1, k2⟩ := h4 e e2
      have h5 : Is.compare a b = 0 → Is.compare b c = 0 → Is.compare a c = 0 := fun x y => by
        rw [Is.compare_zero] at *
        rw [x, y]
      omega
    · omega
  · omega
/-- Three that stand in order, each one -1, 0 or 1. -/
def Th (x y z : Int) : Prop := (x = 1 ∨ x = 0 ∨ x = -1) ∧ (y = 1 ∨ y = 0 ∨ y = -1) ∧ Cm.Co.three x y z
theorem three_or {x y z x' y' z' : Int} (h : Th x y z) (h' : Th x' y' z') : Th (if x ≠ 0 then x else x') (if y ≠ 0 then y else y') (if z ≠ 0 then z else z') := by
  obtain ⟨hx, hy, ht⟩ := h
  obtain ⟨hx', hy', ht'⟩ := h'
  refine ⟨?_, ?_, ?_⟩
  · rcases hx with rfl | rfl | rfl <;> simp [hx']
  · rcases hy with rfl | rfl | rfl <;> simp [hy']
  · unfold Cm.Co.three at ht
    rcases ht with h | ⟨h, k⟩ | ⟨h, k, l⟩ | ⟨h, k, l⟩ | ⟨h, k⟩ | ⟨h, k, l⟩ | ⟨h, k, l⟩
    · subst h; exact .inl (by simp)
    · subst h k
      rcases hx' with rfl | rfl | rfl
      · exact .inl (by simp)
      · exact .inr (.inl (by simp))
      · exact .inr (.inr (.inr (.inr (.inl (by simp)))))
    · subst h k l
      simpa using ht'
    · subst h k l
      rcases hx' with rfl | rfl | rfl
      · exact .inl (by simp)
      · exact .inr (.inr (.inr (.inl (by simp))))
      · exact .inr (.inr (.inr (.inr (.inr (.inr (by simp))))))
    · subst h k
      exact .inr (.inr (.inr (.inr (.inl (by simp)))))
    · subst h k l
      rcases hy' with rfl | rfl | rfl
      · exact .inr (.inr (.inr (.inr (.inl (by simp)))))
      · exact .inr (.inr (.inr (.inr (.inr (.inl (by simp))))))
      · exact .inr (.inr (.inr (.inr (.inr (.inr (by simp))))))
    · subst h k l
      exact .inr (.inr (.inr (.inr (.inr (.inr (by simp))))))
theorem ci_range (a b : Int) : Cm.Co.ci a b = 1 ∨ Cm.Co.ci a b = 0 ∨ Cm.Co.ci a b = -1 := by
  rcases Cm.Co.ci_cases a b with ⟨_, k⟩ | ⟨_, k⟩ | ⟨_, k⟩ <;> omega
theorem is_range (a b : List Int) : Is.compare a b = 1 ∨ Is.compare a b = 0 ∨ Is.compare a b = -1 := by
  have := Is.compare_bd a b
  omega
theorem ci_th (a b c : Int) : Th (Cm.Co.ci a b) (Cm.Co.ci b c) (Cm.Co.ci a c) := ⟨ci_range _ _, ci_range _ _, ci_three _ _ _⟩
theorem is_th (a b c : List Int) : Th (Is.compare a b) (Is.compare b c) (Is.compare a c) := ⟨is_range _ _, is_range _ _, is_three _ _ _⟩
theorem co_th (a b c : List Cm.Co.C) : Th (Cm.Co.compare a b) (Cm.Co.compare b c) (Cm.Co.compare a c) := ⟨Cm.Co.compare_range _ _, Cm.Co.compare_range _ _, Cm.Co.compare_three _ _ _⟩
theorem At.cmp_th (a b c : At) : Th (At.cmp a b) (At.cmp b c) (At.cmp a c) := by
  unfold At.cmp At.parts fz fz fz fz fz fz fz fz
  exact three_or (ci_th _ _ _) (three_or (ci_th _ _ _) (three_or (ci_th _ _ _) (three_or (is_th _ _ _) (three_or (co_th _ _ _) (three_or (ci_th _ _ _) (three_or (is_th _ _ _) ⟨.inr (.inl rfl), .inr (.inl rfl), .inr (.inr (.inl ⟨rfl, rfl, rfl⟩))⟩))))))
theorem At.cmp_three (a b c : At) : Cm.Co.three (At.cmp a b) (At.cmp b c) (At.cmp a c) := (At.cmp_th a b c).2.2
theorem neg_or {x y x' y' : Int} (h : y = -x) (h' : y' = -x') : (if y ≠ 0 then y else y') = -(if x ≠ 0 then x else x') := by
  split <;> split <;> omega
theorem At.cmp_neg (a b : At) : At.cmp b a = -At.cmp a b := by
  unfold At.cmp At.parts fz fz fz fz fz fz fz fz
  exact neg_or (ci_neg _ _) (neg_or (ci_neg _ _) (neg_or (ci_neg _ _) (neg_or (Is.compare_neg _ _) (neg_or (Cm.Co.compare_neg _ _) (neg_or (ci_neg _ _) (neg_or (Is.compare_neg _ _) rfl))))))
theorem zero_or {x x' : Int} : (if x ≠ 0 then x else x') = 0 ↔ x = 0 ∧ x' = 0 := by
  split <;> omega
theorem At.cmp_zero (a b : At) : At.cmp a b = 0 ↔ a = b := by
  unfold At.cmp At.parts fz fz fz fz fz fz fz fz
  rw [zero_or, zero_or, zero_or, zero_or, zero_or, zero_or, zero_or, ci_zero, ci_zero, ci_zero, ci_zero, Is.compare_zero, Is.compare_zero, Cm.Co.compare_zero]
  obtain ⟨a1, a2, a3, a4, a5, a6, a7⟩ := a
  obtain ⟨b1, b2, b3, b4, b5, b6, b7⟩ := b
  simp only [At.mk.injEq]
  constructor
  · rintro ⟨h1, h2, h3, h4, h5, h6, h7, _⟩
    exact ⟨h1, h2, h3, h4, h5, h6, h7⟩
  · rintro ⟨h1, h2, h3, h4, h5, h6, h7⟩
    exact ⟨h1, h2, h3, h4, h5, h6, h7, trivial⟩
theorem At.cmp_range (a b : At) : At.cmp a b = 1 ∨ At.cmp a b = 0 ∨ At.cmp a b = -1 := (At.cmp_th a b b).1
end Go.Proofs.Ytkhmhmopcofejaa
