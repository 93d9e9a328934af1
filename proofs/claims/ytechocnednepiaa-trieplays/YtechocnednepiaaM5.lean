/- Plain mathematics: a prefix bit by bit, as the document's answer goes through it. -/
import Derived.Test.YtechocnednepiaaM4
namespace Go.Proofs.Ytechocnednepiaa.Ad

/-- The i-th bit of an address, from the highest on. -/
def bit (a : Int) (i : Nat) : Int := a / 2 ^ (31 - i) % 2

theorem bit_nat (A i : Nat) : bit (A : Int) i = ((A / 2 ^ (31 - i) % 2 : Nat) : Int) := by
  unfold bit
  simp

theorem bit_test (A i : Nat) : bit (A : Int) i = if A.testBit (31 - i) then 1 else 0 := by
  rw [bit_nat, Nat.testBit_eq_decide_div_mod_eq]
  rcases Nat.mod_two_eq_zero_or_one (A / 2 ^ (31 - i)) with h | h <;> simp [h]

theorem cut_nat (A B : Nat) : cut (A : Int) (B : Int) = ((A / 2 ^ (32 - B) * 2 ^ (32 - B) : Nat) : Int) := by
  unfold cut sz
  rw [Int.toNat_natCast]; simp

/-- A prefix may be just if all bits behind the counting ones are 0. -/
theorem may_bits (a : Int) (B : Nat) (h0 : 0 ≤ a) (hB : B ≤ 32) : cut a B = a ↔ ∀ i, B ≤ i → i < 32 → bit a i = 0 := by
  obtain ⟨A, rfl⟩ := Int.eq_ofNat_of_zero_le h0
  rw [cut_nat]
  constructor
  · intro h i hi hi2
    rw [bit_test]
    have h' : A / 2 ^ (32 - B) * 2 ^ (32 - B) = A := by omega
    have ht : A.testBit (31 - i) = false := by
      rw [← h', Nat.testBit_mul_two_pow]
      have : ¬ 32 - B ≤ 31 - i := by omega
      simp [this]
    simp [ht]
  · intro h
    have : A / 2 ^ (32 - B) * 2 ^ (32 - B) = A := by
      apply Nat.eq_of_testBit_eq
      intro j
      rw [Nat.testBit_mul_two_pow, Nat.testBit_div_two_pow]
      by_cases hj : 32 - B ≤ j
      · simp [hj, show j - (32 - B) + (32 - B) = j by omega]
      · have := h (31 - j) (by omega) (by omega)
        rw [bit_test, show 31 - (31 - j) = j by omega] at this
        have ht : A.testBit j = false := by
          cases ht : A.testBit j
          · rfl
          · rw [ht] at this; simp at this
        simp [hj, ht]
    rw [this]

/-- Two addresses have the same first bits just if they are cut to the same. -/
theorem has_bits (a x : Int) (B : Nat) (h0 : 0 ≤ a) (h1 : a ≤ 4294967295) (g0 : 0 ≤ x) (g1 : x ≤ 4294967295) (hB : B ≤ 32) : cut a B = cut x B ↔ ∀ i, i < B → bit a i = bit x i := by
  obtain ⟨A, rfl⟩ := Int.eq_ofNat_of_zero_le h0
  obtain ⟨X, rfl⟩ := Int.eq_ofNat_of_zero_le g0
  rw [cut_nat, cut_nat]
  constructor
  · intro h i hi
    have h' : A / 2 ^ (32 - B) * 2 ^ (32 - B) = X / 2 ^ (32 - B) * 2 ^ (32 - B) := by omega
    rw [bit_test, bit_test]
    have ht := congrArg (fun n => n.testBit (31 - i)) h'
    simp only [Nat.testBit_mul_two_pow, Nat.testBit_div_two_pow] at ht
    have hj : 32 - B ≤ 31 - i := by omega
    simp only [hj, decide_true, Bool.true_and, show 31 - i - (32 - B) + (32 - B) = 31 - i by omega] at ht
    rw [ht]
  · intro h
    have : A / 2 ^ (32 - B) * 2 ^ (32 - B) = X / 2 ^ (32 - B) * 2 ^ (32 - B) := by
      apply Nat.eq_of_testBit_eq
      intro j
      rw [Nat.testBit_mul_two_pow, Nat.testBit_div_two_pow, Nat.testBit_mul_two_pow, Nat.testBit_div_two_pow]
      by_cases hj : 32 - B ≤ j
      · rw [show j - (32 - B) + (32 - B) = j by omega]
        by_cases h32 : j < 32
        · have := h (31 - j) (by omega)
          rw [bit_test, bit_test, show 31 - (31 - j) = j by omega] at this
          have ht : A.testBit j = X.testBit j := by
            cases h1 : A.testBit j <;> cases h2 : X.testBit j <;> simp [h1, h2] at this <;> rfl
          rw [ht]
        · have hge : (2 : Nat) ^ 32 ≤ 2 ^ j := Nat.pow_le_pow_right (by decide) (by omega)
          rw [Nat.testBit_lt_two_pow (x := A) (by omega), Nat.testBit_lt_two_pow (x := X) (by omega)]
      · simp [hj]
    rw [this]

theorem bit_le (a : Int) (i : Nat) : 0 ≤ bit a i ∧ bit a i ≤ 1 := by unfold bit; omega
end Go.Proofs.Ytechocnednepiaa.Ad
