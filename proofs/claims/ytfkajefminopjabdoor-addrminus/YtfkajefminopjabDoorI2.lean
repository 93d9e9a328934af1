/- Plain mathematics of plain lists, as the document asks for them: pairs of their prefixes. -/
import Derived.Test.YtfkajefminopjabDoorI1
namespace Go.Proofs.YtfkajefminopjabDoor.Ad
open Go

theorem plain_at (x : List (Int × Int)) (h : plain x) (k i : Nat) (hi' : i < x.length) (hk : k < i) : hi (x[k]'(by omega)) ≤ x[i].1 ∧ pair (x[k]'(by omega)) x[i] = false :=
  ⟨List.pairwise_iff_getElem.1 h.2.1 k i (by omega) hi' hk, List.pairwise_iff_getElem.1 h.2.2 k i (by omega) hi' hk⟩

theorem before_hi (p q : Int × Int) (h : hi p ≤ q.1) : p.1 < q.1 := by have := hi_gt p; omega

/-- Two that are apart, of the same bits, that aren't the halves of one: with one bit fewer they are two. -/
theorem ups (p q : Int × Int) (hp : 0 ≤ p.1 ∧ p.1 ≤ 4294967295 ∧ may p.1 p.2 = true) (hq : 0 ≤ q.1 ∧ q.1 ≤ 4294967295 ∧ may q.1 q.2 = true) (h : hi p ≤ q.1) (hn : pair p q = false) (hb : p.2 = q.2) :
    1 ≤ p.2 ∧ p.2 ≤ 32 ∧ cut p.1 (p.2 - 1) ≠ cut q.1 (p.2 - 1) := by
  obtain ⟨b0, b1, bc⟩ := (may_iff _ _).1 hp.2.2
  obtain ⟨d0, d1, dc⟩ := (may_iff _ _).1 hq.2.2
  have h1 : 1 ≤ p.2 := by
    by_cases e : p.2 = 0
    · exfalso
      have : hi p = p.1 + 4294967296 := by unfold hi; rw [e, sz_0]
      omega
    · omega
  refine ⟨h1, b1, ?_⟩
  intro e
  have hh := sz_half (p.2 - 1) (by omega) (by omega)
  have e1 : p.2 - 1 + 1 = p.2 := by omega
  rw [e1] at hh
  have hs := sz_pos p.2
  obtain ⟨i, hi1⟩ := mul_cut _ _ bc
  obtain ⟨j, hj1⟩ := mul_cut _ _ dc
  rw [← hb] at hj1
  have hm : cut p.1 (p.2 - 1) = p.1 / sz (p.2 - 1) * sz (p.2 - 1) := rfl
  generalize hM : p.1 / sz (p.2 - 1) = m at hm
  have l1 := cut_le p.1 (p.2 - 1)
  have l2 := cut_lt q.1 (p.2 - 1)
  rw [← e, hm, hh] at l2
  rw [hm, hh] at l1
  have e2 : m * (2 * sz p.2) = (2 * m) * sz p.2 := by rw [← Int.mul_assoc, Int.mul_comm m 2]
  rw [e2] at l1 l2
  unfold hi at h
  rw [hi1] at l1 h
  rw [hj1] at l2 h
  -- 2m ≤ i, i + 1 ≤ j, j < 2m + 2
  have k1 : 2 * m ≤ i := by
    by_cases c : 2 * m ≤ i
    · exact c
    · have := Int.mul_le_mul_of_nonneg_right (show i + 1 ≤ 2 * m by omega) (Int.le_of_lt hs)
      rw [Int.add_mul] at this
      omega
  have k2 : i + 1 ≤ j := by
    by_cases c : i + 1 ≤ j
    · exact c
    · have := Int.mul_le_mul_of_nonneg_right (show j ≤ i by omega) (Int.le_of_lt hs)
      omega
  have k3 : j < 2 * m + 2 := by
    by_cases c : j < 2 * m + 2
    · exact c
    · have := Int.mul_le_mul_of_nonneg_right (show 2 * m + 2 ≤ j by omega) (Int.le_of_lt hs)
      rw [Int.add_mul] at this
      omega
  have ei : i = 2 * m := by omega
  have ej : j = i + 1 := by omega
  have : pair p q = true := by
    rw [pair_iff]
    refine ⟨hb, h1, ?_, ?_⟩
    · rw [hm, hh, e2, hi1, ei]
    · rw [hj1, ej, Int.add_mul, ← hi1]
      omega
  rw [this] at hn
  cases hn
end Go.Proofs.YtfkajefminopjabDoor.Ad
