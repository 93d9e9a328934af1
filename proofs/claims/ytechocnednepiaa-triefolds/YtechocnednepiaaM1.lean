import Derived.Laws.BitsAllLaws
/- Plain mathematics of prefixes of 32 bits: sizes, cuts, which may be, which has what; nothing of the program. -/
namespace Go.Proofs.Ytechocnednepiaa.Ad
open Go

/-- How many addresses a prefix of b bits has. -/
def sz (b : Int) : Int := ((2 ^ (32 - b.toNat) : Nat) : Int)
/-- The first b bits of a, with 0 for the others. -/
def cut (a b : Int) : Int := a / sz b * sz b
def may (a b : Int) : Bool := decide (0 ≤ b ∧ b ≤ 32 ∧ cut a b = a)
def has (a b x : Int) : Bool := may a b && decide (cut x b = a)
def contains (a b c d : Int) : Bool := may c d && decide (b ≤ d) && has a b c
def before (a b c d : Int) : Bool := may a b && may c d && (if a = c then decide (b < d) else decide (a < c))
def last (a b : Int) : Int := if may a b = true then a + sz b - 1 else 0

theorem sz_pos (b : Int) : 0 < sz b := by
  unfold sz; have := Nat.two_pow_pos (32 - b.toNat); omega

theorem sz_dvd (b c : Int) (h : b ≤ c) : ∃ k : Int, 0 < k ∧ sz b = k * sz c := by
  refine ⟨((2 ^ ((32 - b.toNat) - (32 - c.toNat)) : Nat) : Int), ?_, ?_⟩
  · have := Nat.two_pow_pos ((32 - b.toNat) - (32 - c.toNat)); omega
  · unfold sz
    rw [← Int.natCast_mul, ← Nat.pow_add]
    congr 2
    omega

theorem sz_half (b : Int) (h0 : 0 ≤ b) (h : b ≤ 31) : sz b = 2 * sz (b + 1) := by
  unfold sz
  have e : 32 - b.toNat = (32 - (b + 1).toNat) + 1 := by omega
  rw [e, Nat.pow_succ]
  omega

theorem sz_32 : sz 32 = 1 := by decide
theorem sz_0 : sz 0 = 4294967296 := by decide

theorem sz_le (b : Int) (h0 : 0 ≤ b) : sz b ≤ 4294967296 := by
  obtain ⟨k, hk, e⟩ := sz_dvd 0 b h0
  rw [sz_0] at e
  have hp := sz_pos b
  have : 1 * sz b ≤ k * sz b := Int.mul_le_mul_of_nonneg_right (by omega) (by omega)
  omega

theorem cut_le (a b : Int) : cut a b ≤ a := by
  unfold cut
  have := Int.ediv_mul_le a (b := sz b) (by have := sz_pos b; omega)
  exact this

theorem cut_lt (a b : Int) : a < cut a b + sz b := by
  unfold cut
  have h := Int.lt_ediv_add_one_mul_self a (sz_pos b)
  rw [Int.add_mul, Int.one_mul] at h
  exact h

theorem cut_nonneg (a b : Int) (h : 0 ≤ a) : 0 ≤ cut a b := by
  unfold cut
  exact Int.mul_nonneg (Int.ediv_nonneg h (by have := sz_pos b; omega)) (by have := sz_pos b; omega)

/-- A multiple of a prefix's size, at most a, and less than a size away: that is the cut. -/
theorem cut_eq (a b q : Int) (h1 : q * sz b ≤ a) (h2 : a < q * sz b + sz b) : cut a b = q * sz b := by
  unfold cut
  have hp := sz_pos b
  have : a / sz b = q := by
    have l1 : q ≤ a / sz b := (Int.le_ediv_iff_mul_le hp).2 h1
    have l2 : a / sz b < q + 1 := (Int.ediv_lt_iff_lt_mul hp).2 (by rw [Int.add_mul]; omega)
    omega
  rw [this]

theorem cut_cut (a b c : Int) (h : b ≤ c) : cut (cut a c) b = cut a b := by
  obtain ⟨k, hk, e⟩ := sz_dvd b c h
  have hp := sz_pos c
  have hq := sz_pos b
  have e1 : cut a c / sz b = a / sz b := by
    have l1 : a / sz b ≤ cut a c / sz b := by
      refine (Int.le_ediv_iff_mul_le hq).2 ?_
      have : a / sz b * k ≤ a / sz c := by
        refine (Int.le_ediv_iff_mul_le hp).2 ?_
        have := Int.ediv_mul_le a (b := sz b) (by omega)
        rw [e] at this ⊢
        rw [Int.mul_assoc]
        exact this
      unfold cut
      have := Int.mul_le_mul_of_nonneg_right this (Int.le_of_lt hp)
      rw [Int.mul_assoc, ← e] at this
      exact this
    have l2 : cut a c / sz b ≤ a / sz b := Int.ediv_le_ediv hq (cut_le a c)
    omega
  unfold cut at *
  rw [e1]

theorem cut_zero (a : Int) (h0 : 0 ≤ a) (h1 : a < 4294967296) : cut a 0 = 0 := by
  have := cut_eq a 0 0 (by simpa using h0) (by rw [sz_0]; omega)
  simpa using this

theorem cut_idem (a b : Int) : cut (cut a b) b = cut a b := cut_cut a b b (Int.le_refl _)

theorem cut_mono (a c : Int) (i j : Int) (h : i ≤ j) (e : cut a j = cut c j) : cut a i = cut c i := by
  rw [← cut_cut a i j h, ← cut_cut c i j h, e]

theorem may_iff (a b : Int) : may a b = true ↔ 0 ≤ b ∧ b ≤ 32 ∧ cut a b = a := by unfold may; exact decide_eq_true_iff

/-- As the walk spells the cut. -/
theorem cut_bits (a b : Int) (h0 : 0 ≤ a) (h1 : a ≤ 4294967295) (hb : 0 ≤ b) (hb2 : b ≤ 32) :
    bits .andNot .u32 a (4294967295 / 2 ^ b.toNat) = cut a b := by
  obtain ⟨A, rfl⟩ := Int.eq_ofNat_of_zero_le h0
  obtain ⟨B, rfl⟩ := Int.eq_ofNat_of_zero_le hb
  have hB : B ≤ 32 := by omega
  have hA : A < 4294967296 := by omega
  have hpow : (4294967295 : Nat) / 2 ^ B = 2 ^ (32 - B) - 1 := by
    have : ∀ n : Fin 33, (4294967295 : Nat) / 2 ^ n.val = 2 ^ (32 - n.val) - 1 := by decide
    exact this ⟨B, by omega⟩
  have e1 : ((4294967295 : Int) / 2 ^ (Int.toNat (B : Int))) = (((4294967295 : Nat) / 2 ^ B : Nat) : Int) := by
    rw [Int.toNat_natCast]; simp
  rw [e1, hpow]
  have hlt : 2 ^ (32 - B) - 1 < 4294967296 := by
    have : (2 : Nat) ^ (32 - B) ≤ 2 ^ 32 := Nat.pow_le_pow_right (by decide) (by omega)
    omega
  rw [u32_andNot_nat A _ hA hlt]
  have e2 : cut (A : Int) (B : Int) = ((A / 2 ^ (32 - B) * 2 ^ (32 - B) : Nat) : Int) := by
    unfold cut sz
    rw [Int.toNat_natCast]; simp
  rw [e2]
  congr 1
  have hle : (2 : Nat) ^ (32 - B) ≤ 2 ^ 32 := Nat.pow_le_pow_right (by decide) (by omega)
  have hp := Nat.two_pow_pos (32 - B)
  have e3 : 4294967295 - (2 ^ (32 - B) - 1) = 2 ^ 32 - ((2 ^ (32 - B) - 1) + 1) := by omega
  rw [e3]
  apply Nat.eq_of_testBit_eq
  intro i
  rw [Nat.testBit_and, Nat.testBit_two_pow_sub_succ (by omega), Nat.testBit_two_pow_sub_one, Nat.testBit_mul_two_pow, Nat.testBit_div_two_pow]
  by_cases hi : 32 - B ≤ i
  · have : i - (32 - B) + (32 - B) = i := by omega
    by_cases h32 : i < 32
    · simp [hi, h32, this]
    · have hge : (2 : Nat) ^ 32 ≤ 2 ^ i := Nat.pow_le_pow_right (by decide) (by omega)
      have : A.testBit i = false := Nat.testBit_lt_two_pow (by omega)
      simp [*]
  · have h2 : i < 32 - B := by omega
    simp [hi, h2]
end Go.Proofs.Ytechocnednepiaa.Ad
