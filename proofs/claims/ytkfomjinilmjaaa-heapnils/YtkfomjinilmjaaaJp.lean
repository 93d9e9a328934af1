/- Texts by bytes. -/
import Derived.Test.YtkfomjinilmjaaaJo
namespace Go.Proofs.Ytkfomjinilmjaaa
open Go.RowKit Go.Maps

def ltS (a b : ByteArray) : Bool := Op.bytesLess a.toList b.toList
theorem lessS : LessIs2 31 ltS := ⟨by intro args w; go_simp, fun a b w => by
  unfold ltS
  go_enter Try.func31, Try.ntmps31
  go_wp2_with fail
  go_ret
  exact ⟨rfl, rfl⟩⟩
theorem bl_irr : ∀ l, Op.bytesLess l l = false
  | [] => rfl
  | x :: l => by simp [Op.bytesLess, bl_irr l]
theorem bl_tr : ∀ a b c, Op.bytesLess a b = true → Op.bytesLess b c = true → Op.bytesLess a c = true
  | [], _, [] => by
    intro h k
    simp_all [Op.bytesLess]
  | [], _, _ :: _ => by
    intro h k
    simp [Op.bytesLess]
  | _ :: _, [], _ => by
    intro h
    simp [Op.bytesLess] at h
  | _ :: _, _ :: _, [] => by
    intro _ h
    simp [Op.bytesLess] at h
  | x :: a, y :: b, z :: c => by
    intro h k
    have ih := bl_tr a b c
    simp only [Op.bytesLess, Bool.or_eq_true, Bool.and_eq_true, decide_eq_true_eq, beq_iff_eq] at *
    rcases h with h | ⟨rfl, h⟩ <;> rcases k with k | ⟨rfl, k⟩
    · exact .inl (UInt8.lt_trans h k)
    · exact .inl h
    · exact .inl k
    · exact .inr ⟨rfl, ih h k⟩
theorem bl_neg : ∀ a b c, Op.bytesLess a b = false → Op.bytesLess b c = false → Op.bytesLess a c = false
  | a, _, [] => fun _ _ => by cases a <;> rfl
  | _, [], _ :: _ => by
    intro _ h
    simp [Op.bytesLess] at h
  | [], _ :: _, _ :: _ => by
    intro h
    simp [Op.bytesLess] at h
  | x :: a, y :: b, z :: c => by
    intro h k
    have ih := bl_neg a b c
    simp only [Op.bytesLess, Bool.or_eq_false_iff, Bool.and_eq_false_iff, decide_eq_false_iff_not, beq_eq_false_iff_ne, UInt8.not_lt] at *
    obtain ⟨h1, h2⟩ := h
    obtain ⟨k1, k2⟩ := k
    refine ⟨UInt8.le_trans k1 h1, ?_⟩
    by_cases e : x = z
    · subst e
      have e2 : x = y := UInt8.le_antisymm k1 h1
      subst e2
      rcases h2 with h2 | h2
      · exact absurd rfl h2
      · rcases k2 with k2 | k2
        · exact absurd rfl k2
        · exact .inr (ih h2 k2)
    · exact .inl e
theorem ordsS : Ords ltS := ⟨fun _a => bl_irr _, fun _a _b _c => bl_tr _ _ _, fun _a _b _c => bl_neg _ _ _⟩
theorem bl_tail : ∀ (l : List UInt8), Op.bytesLess (l ++ [97]) (l ++ [98]) = true
  | [] => by decide
  | x :: l => by simp [Op.bytesLess, bl_tail l]
end Go.Proofs.Ytkfomjinilmjaaa
