import Derived.Test.YtechocnednepiaaM2
/- Plain mathematics: when two prefixes are the halves of what is above both; the stack on which they are joined. -/
namespace Go.Proofs.Ytechocnednepiaa.Ad

/-- p and q are the halves of one, the lower one first. -/
def pair (p q : Int × Int) : Bool := decide (p.2 = q.2 ∧ 1 ≤ p.2 ∧ cut p.1 (p.2 - 1) = p.1 ∧ q.1 = p.1 + sz p.2)
/-- The one whose lower half p is. -/
def up (p : Int × Int) : Int × Int := (p.1, p.2 - 1)

theorem mul_cut (a b : Int) (h : cut a b = a) : ∃ q : Int, a = q * sz b := ⟨a / sz b, by unfold cut at h; omega⟩

/-- What stands just behind a multiple, less than a size away, is cut to it. -/
theorem cut_add (a b x : Int) (h : cut a b = a) (h0 : 0 ≤ x) (h1 : x < sz b) : cut (a + x) b = a := by
  obtain ⟨q, hq⟩ := mul_cut a b h
  have := cut_eq (a + x) b q (by omega) (by omega)
  omega

theorem pair_above (a b c d : Int) (k : Nat) (hb : 0 ≤ b) (hb2 : b ≤ 32) (ha : cut a b = a) (hc : cut c d = c) (hk : (k : Int) ≤ b) (he : cut a k = cut c k)
    (hs : (k : Int) = b ∨ (k : Int) = d ∨ cut a (k + 1) ≠ cut c (k + 1)) (hp : pair (a, b) (c, d) = true) : (k : Int) = b - 1 := by
  simp only [pair, decide_eq_true_eq] at hp
  obtain ⟨h1, h2, h3, h4⟩ := hp
  subst h1
  have hh := sz_half (b - 1) (by omega) (by omega)
  have hb1 : b - 1 + 1 = b := by omega
  rw [hb1] at hh
  have hz := sz_pos b
  have e1 : cut c (b - 1) = a := by rw [h4]; exact cut_add a (b - 1) (sz b) h3 (by omega) (by omega)
  rcases Int.lt_trichotomy (k : Int) (b - 1) with h | h | h
  · exfalso
    have hm := cut_mono a c ((k : Int) + 1) (b - 1) (by omega) (by rw [h3, e1])
    rcases hs with h5 | h5 | h5
    · omega
    · omega
    · exact h5 hm
  · exact h
  · exfalso
    have hkb : (k : Int) = b := by omega
    rw [hkb, ha, hc] at he
    omega

/-- If they are no pair, they are not the halves of what is above both. -/
theorem pair_not (a b c d : Int) (k : Nat) (h : pair (a, b) (c, d) = false) (h1 : a = cut a k) (h2 : b = k + 1) (h3 : c = cut a k + sz (k + 1)) (h4 : d = k + 1) : False := by
  have : pair (a, b) (c, d) = true := by
    simp only [pair, decide_eq_true_eq]
    have e : b - 1 = k := by omega
    refine ⟨by omega, by omega, by rw [e]; exact h1.symm, ?_⟩
    rw [h3, ← h1, h2]
  rw [this] at h
  cases h

/-- A pair's upper one may be. -/
theorem may_up (a b c d : Int) (hm : may a b = true) (hp : pair (a, b) (c, d) = true) : may a (b - 1) = true := by
  simp only [pair, decide_eq_true_eq] at hp
  rw [may_iff] at hm ⊢
  exact ⟨by omega, by omega, hp.2.2.1⟩

/-- The stack, its top first: as long as two that are a pair stand there, they are one. -/
def joinF : Nat → List (Int × Int) → List (Int × Int)
  | 0, s => s
  | f + 1, s =>
    match s with
    | q :: p :: r => if pair p q = true then joinF f (up p :: r) else q :: p :: r
    | s => s
def join (s : List (Int × Int)) : List (Int × Int) := joinF s.length s

theorem join_step (q p : Int × Int) (r : List (Int × Int)) (h : pair p q = true) : join (q :: p :: r) = join (up p :: r) := by
  simp [join, joinF, h]
theorem join_stop (q p : Int × Int) (r : List (Int × Int)) (h : pair p q = false) : join (q :: p :: r) = q :: p :: r := by
  simp [join, joinF, h]
theorem join_one (q : Int × Int) : join [q] = [q] := rfl
theorem join_nil : join [] = [] := rfl
end Go.Proofs.Ytechocnednepiaa.Ad

/- Plain mathematics of a prefix's halves. -/
namespace Go.Proofs.Ytechocnednepiaa.Ad

theorem end_le (a b : Int) (h0 : 0 ≤ b) (h1 : a ≤ 4294967295) (hc : cut a b = a) : a + sz b ≤ 4294967296 := by
  obtain ⟨q, hq⟩ := mul_cut a b hc
  obtain ⟨K, hK, e⟩ := sz_dvd 0 b h0
  rw [sz_0] at e
  have hp := sz_pos b
  have h2 : q * sz b < K * sz b := by omega
  have h3 : q < K := Int.lt_of_mul_lt_mul_right h2 (Int.le_of_lt hp)
  have h4 : (q + 1) * sz b ≤ K * sz b := Int.mul_le_mul_of_nonneg_right (by omega) (Int.le_of_lt hp)
  rw [Int.add_mul] at h4
  omega

theorem low_may (a b : Int) (h0 : 0 ≤ b) (h31 : b ≤ 31) (hc : cut a b = a) : cut a (b + 1) = a := by
  obtain ⟨q, hq⟩ := mul_cut a b hc
  have hh := sz_half b h0 h31
  have hp := sz_pos (b + 1)
  have e : a = (q * 2) * sz (b + 1) := by rw [Int.mul_assoc, ← hh]; exact hq
  have := cut_eq a (b + 1) (q * 2) (by omega) (by omega)
  omega

theorem high_may (a b : Int) (h0 : 0 ≤ b) (h31 : b ≤ 31) (hc : cut a b = a) : cut (a + sz (b + 1)) (b + 1) = a + sz (b + 1) := by
  obtain ⟨q, hq⟩ := mul_cut a b hc
  have hh := sz_half b h0 h31
  have hp := sz_pos (b + 1)
  have e : a + sz (b + 1) = (q * 2 + 1) * sz (b + 1) := by rw [Int.add_mul, Int.mul_assoc, ← hh, Int.one_mul]; omega
  have := cut_eq (a + sz (b + 1)) (b + 1) (q * 2 + 1) (by omega) (by omega)
  omega

theorem halves_pair (a b : Int) (h0 : 0 ≤ b) (hc : cut a b = a) : pair (a, b + 1) (a + sz (b + 1), b + 1) = true := by
  simp only [pair, decide_eq_true_eq]
  refine ⟨trivial, by omega, ?_, trivial⟩
  rw [show b + 1 - 1 = b by omega]
  exact hc

/-- Each address of a prefix is one of just one of its halves. -/
theorem halves_has (a b x : Int) (h0 : 0 ≤ b) (h31 : b ≤ 31) (hc : cut a b = a) : ((decide (cut x (b + 1) = a) != decide (cut x (b + 1) = a + sz (b + 1))) == decide (cut x b = a)) = true := by
  have hh := sz_half b h0 h31
  have hp := sz_pos (b + 1)
  have hx := cut_cut x b (b + 1) (by omega)
  have hl := cut_le x (b + 1)
  have hg := cut_lt x (b + 1)
  have hl2 := cut_le x b
  have hg2 := cut_lt x b
  by_cases h1 : cut x b = a
  · by_cases h2 : cut x (b + 1) = a
    · have : ¬ cut x (b + 1) = a + sz (b + 1) := by omega
      simp [h1, h2]
      omega
    · have h3 : cut x (b + 1) = a + sz (b + 1) := by
        have hlo := low_may a b h0 h31 hc
        obtain ⟨q, hq⟩ := mul_cut a (b + 1) hlo
        by_cases h4 : x < a + sz (b + 1)
        · exact absurd (by have := cut_eq x (b + 1) q (by omega) (by omega); omega) h2
        · have := cut_eq x (b + 1) (q + 1) (by rw [Int.add_mul]; omega) (by rw [Int.add_mul]; omega)
          rw [Int.add_mul] at this
          omega
      simp [h1, h3]
      omega
  · have h2 : ¬ cut x (b + 1) = a := fun h => h1 (by rw [← hx, h]; exact hc)
    have h3 : ¬ cut x (b + 1) = a + sz (b + 1) := fun h => h1 (by rw [← hx, h]; exact cut_add a b (sz (b + 1)) hc (by omega) (by omega))
    simp [h1, h2, h3]
end Go.Proofs.Ytechocnednepiaa.Ad

/- Plain mathematics: a prefix bit by bit, as the document's answer goes through it. -/
namespace Go.Proofs.Ytechocnednepiaa.Ad

/-- The i-th bit of an address, from the highest on. -/
def bit (a : Int) (i : Nat) : Int := a / 2 ^ (31 - i) % 2

theorem bit_nat (A i : Nat) : bit (A : Int) i = ((A / 2 ^ (31 - i) % 2 : Nat) : Int) := by
  unfold bit
  simp

theorem bit_test (A i : Nat) : bit (A : Int) i = if A.testBit (31 - i) then 1 else 0 := by
  rw [bit_nat, Nat.testBit_eq_decide_div_mod_eq]
  rcases Nat.mod_two_eq_zero_or_one (A / 2 ^ (31 - i)) with h | h <;> simp [h]

theorem cut_nat (A B : Nat) : cut (A : Int) (B : Int) = ((A / 2 ^ (32 - B) * 2 ^ (32 - B) : Nat) : Int) := by
  unfold cut sz
  rw [Int.toNat_natCast]; simp

/-- A prefix may be just if all bits behind the counting ones are 0. -/
theorem may_bits (a : Int) (B : Nat) (h0 : 0 ≤ a) (hB : B ≤ 32) : cut a B = a ↔ ∀ i, B ≤ i → i < 32 → bit a i = 0 := by
  obtain ⟨A, rfl⟩ := Int.eq_ofNat_of_zero_le h0
  rw [cut_nat]
  constructor
  · intro h i hi hi2
    rw [bit_test]
    have h' : A / 2 ^ (32 - B) * 2 ^ (32 - B) = A := by omega
    have ht : A.testBit (31 - i) = false := by
      rw [← h', Nat.testBit_mul_two_pow]
      have : ¬ 32 - B ≤ 31 - i := by omega
      simp [this]
    simp [ht]
  · intro h
    have : A / 2 ^ (32 - B) * 2 ^ (32 - B) = A := by
      apply Nat.eq_of_testBit_eq
      intro j
      rw [Nat.testBit_mul_two_pow, Nat.testBit_div_two_pow]
      by_cases hj : 32 - B ≤ j
      · simp [hj, show j - (32 - B) + (32 - B) = j by omega]
      · have := h (31 - j) (by omega) (by omega)
        rw [bit_test, show 31 - (31 - j) = j by omega] at this
        have ht : A.testBit j = false := by
          cases ht : A.testBit j
          · rfl
          · rw [ht] at this; simp at this
        simp [hj, ht]
    rw [this]

/-- Two addresses have the same first bits just if they are cut to the same. -/
theorem has_bits (a x : Int) (B : Nat) (h0 : 0 ≤ a) (h1 : a ≤ 4294967295) (g0 : 0 ≤ x) (g1 : x ≤ 4294967295) (hB : B ≤ 32) : cut a B = cut x B ↔ ∀ i, i < B → bit a i = bit x i := by
  obtain ⟨A, rfl⟩ := Int.eq_ofNat_of_zero_le h0
  obtain ⟨X, rfl⟩ := Int.eq_ofNat_of_zero_le g0
  rw [cut_nat, cut_nat]
  constructor
  · intro h i hi
    have h' : A / 2 ^ (32 - B) * 2 ^ (32 - B) = X / 2 ^ (32 - B) * 2 ^ (32 - B) := by omega
    rw [bit_test, bit_test]
    have ht := congrArg (fun n => n.testBit (31 - i)) h'
    simp only [Nat.testBit_mul_two_pow, Nat.testBit_div_two_pow] at ht
    have hj : 32 - B ≤ 31 - i := by omega
    simp only [hj, decide_true, Bool.true_and, show 31 - i - (32 - B) + (32 - B) = 31 - i by omega] at ht
    rw [ht]
  · intro h
    have : A / 2 ^ (32 - B) * 2 ^ (32 - B) = X / 2 ^ (32 - B) * 2 ^ (32 - B) := by
      apply Nat.eq_of_testBit_eq
      intro j
      rw [Nat.testBit_mul_two_pow, Nat.testBit_div_two_pow, Nat.testBit_mul_two_pow, Nat.testBit_div_two_pow]
      by_cases hj : 32 - B ≤ j
      · rw [show j - (32 - B) + (32 - B) = j by omega]
        by_cases h32 : j < 32
        · have := h (31 - j) (by omega)
          rw [bit_test, bit_test, show 31 - (31 - j) = j by omega] at this
          have ht : A.testBit j = X.testBit j := by
            cases h1 : A.testBit j <;> cases h2 : X.testBit j <;> simp [h1, h2] at this <;> rfl
          rw [ht]
        · have hge : (2 : Nat) ^ 32 ≤ 2 ^ j := Nat.pow_le_pow_right (by decide) (by omega)
          rw [Nat.testBit_lt_two_pow (x := A) (by omega), Nat.testBit_lt_two_pow (x := X) (by omega)]
      · simp [hj]
    rw [this]

theorem bit_le (a : Int) (i : Nat) : 0 ≤ bit a i ∧ bit a i ≤ 1 := by unfold bit; omega
end Go.Proofs.Ytechocnednepiaa.Ad

