/- Plain mathematics of a prefix's halves. -/
import Derived.Test.YtechocnednepiaaM3
namespace Go.Proofs.Ytechocnednepiaa.Ad

theorem end_le (a b : Int) (h0 : 0 ≤ b) (h1 : a ≤ 4294967295) (hc : cut a b = a) : a + sz b ≤ 4294967296 := by
  obtain ⟨q, hq⟩ := mul_cut a b hc
  obtain ⟨K, hK, e⟩ := sz_dvd 0 b h0
  rw [sz_0] at e
  have hp := sz_pos b
  have h2 : q * sz b < K * sz b := by omega
  have h3 : q < K := Int.lt_of_mul_lt_mul_right h2 (Int.le_of_lt hp)
  have h4 : (q + 1) * sz b ≤ K * sz b := Int.mul_le_mul_of_nonneg_right (by omega) (Int.le_of_lt hp)
  rw [Int.add_mul] at h4
  omega

theorem low_may (a b : Int) (h0 : 0 ≤ b) (h31 : b ≤ 31) (hc : cut a b = a) : cut a (b + 1) = a := by
  obtain ⟨q, hq⟩ := mul_cut a b hc
  have hh := sz_half b h0 h31
  have hp := sz_pos (b + 1)
  have e : a = (q * 2) * sz (b + 1) := by rw [Int.mul_assoc, ← hh]; exact hq
  have := cut_eq a (b + 1) (q * 2) (by omega) (by omega)
  omega

theorem high_may (a b : Int) (h0 : 0 ≤ b) (h31 : b ≤ 31) (hc : cut a b = a) : cut (a + sz (b + 1)) (b + 1) = a + sz (b + 1) := by
  obtain ⟨q, hq⟩ := mul_cut a b hc
  have hh := sz_half b h0 h31
  have hp := sz_pos (b + 1)
  have e : a + sz (b + 1) = (q * 2 + 1) * sz (b + 1) := by rw [Int.add_mul, Int.mul_assoc, ← hh, Int.one_mul]; omega
  have := cut_eq (a + sz (b + 1)) (b + 1) (q * 2 + 1) (by omega) (by omega)
  omega

theorem halves_pair (a b : Int) (h0 : 0 ≤ b) (hc : cut a b = a) : pair (a, b + 1) (a + sz (b + 1), b + 1) = true := by
  simp only [pair, decide_eq_true_eq]
  refine ⟨trivial, by omega, ?_, trivial⟩
  rw [show b + 1 - 1 = b by omega]
  exact hc

/-- Each address of a prefix is one of just one of its halves. -/
theorem halves_has (a b x : Int) (h0 : 0 ≤ b) (h31 : b ≤ 31) (hc : cut a b = a) : ((decide (cut x (b + 1) = a) != decide (cut x (b + 1) = a + sz (b + 1))) == decide (cut x b = a)) = true := by
  have hh := sz_half b h0 h31
  have hp := sz_pos (b + 1)
  have hx := cut_cut x b (b + 1) (by omega)
  have hl := cut_le x (b + 1)
  have hg := cut_lt x (b + 1)
  have hl2 := cut_le x b
  have hg2 := cut_lt x b
  by_cases h1 : cut x b = a
  · by_cases h2 : cut x (b + 1) = a
    · have : ¬ cut x (b + 1) = a + sz (b + 1) := by omega
      simp [h1, h2]
      omega
    · have h3 : cut x (b + 1) = a + sz (b + 1) := by
        have hlo := low_may a b h0 h31 hc
        obtain ⟨q, hq⟩ := mul_cut a (b + 1) hlo
        by_cases h4 : x < a + sz (b + 1)
        · exact absurd (by have := cut_eq x (b + 1) q (by omega) (by omega); omega) h2
        · have := cut_eq x (b + 1) (q + 1) (by rw [Int.add_mul]; omega) (by rw [Int.add_mul]; omega)
          rw [Int.add_mul] at this
          omega
      simp [h1, h3]
      omega
  · have h2 : ¬ cut x (b + 1) = a := fun h => h1 (by rw [← hx, h]; exact hc)
    have h3 : ¬ cut x (b + 1) = a + sz (b + 1) := fun h => h1 (by rw [← hx, h]; exact cut_add a b (sz (b + 1)) hc (by omega) (by omega))
    simp [h1, h2, h3]
end Go.Proofs.Ytechocnednepiaa.Ad
