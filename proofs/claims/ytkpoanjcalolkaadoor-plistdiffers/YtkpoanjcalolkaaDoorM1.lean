import Derived.Laws.BitsAllLaws
/- Plain mathematics of prefixes of 32 bits: sizes, cuts, which may be, which has what; nothing of the program. -/
namespace Go.Proofs.YtkpoanjcalolkaaDoor.Ad
open Go

/-- How many addresses a prefix of b bits has. -/
def sz (b : Int) : Int := ((2 ^ (32 - b.toNat) : Nat) : Int)
/-- The first b bits of a, with 0 for the others. -/
def cut (a b : Int) : Int := a / sz b * sz b
def may (a b : Int) : Bool := decide (0 ≤ b ∧ b ≤ 32 ∧ cut a b = a)
def has (a b x : Int) : Bool := may a b && decide (cut x b = a)
def contains (a b c d : Int) : Bool := may c d && decide (b ≤ d) && has a b c
def before (a b c d : Int) : Bool := may a b && may c d && (if a = c then decide (b < d) else decide (a < c))
def last (a b : Int) : Int := if may a b = true then a + sz b - 1 else 0

theorem sz_pos (b : Int) : 0 < sz b := by
  unfold sz; have := Nat.two_pow_pos (32 - b.toNat); omega

theorem sz_dvd (b c : Int) (h : b ≤ c) : ∃ k : Int, 0 < k ∧ sz b = k * sz c := by
  refine ⟨((2 ^ ((32 - b.toNat) - (32 - c.toNat)) : Nat) : Int), ?_, ?_⟩
  · have := Nat.two_pow_pos ((32 - b.toNat) - (32 - c.toNat)); omega
  · unfold sz
    rw [← Int.natCast_mul, ← Nat.pow_add]
    congr 2
    omega

theorem sz_half (b : Int) (h0 : 0 ≤ b) (h : b ≤ 31) : sz b = 2 * sz (b + 1) := by
  unfold sz
  have e : 32 - b.toNat = (32 - (b + 1).toNat) + 1 := by omega
  rw [e, Nat.pow_succ]
  omega

theorem sz_32 : sz 32 = 1 := by decide
theorem sz_0 : sz 0 = 4294967296 := by decide

theorem sz_le (b : Int) (h0 : 0 ≤ b) : sz b ≤ 4294967296 := by
  obtain ⟨k, hk, e⟩ := sz_dvd 0 b h0
  rw [sz_0] at e
  have hp := sz_pos b
  have : 1 * sz b ≤ k * sz b := Int.mul_le_mul_of_nonneg_right (by omega) (by omega)
  omega

theorem cut_le (a b : Int) : cut a b ≤ a := by
  unfold cut
  have := Int.ediv_mul_le a (b := sz b) (by have := sz_pos b; omega)
  exact this

theorem cut_lt (a b : Int) : a < cut a b + sz b := by
  unfold cut
  have h := Int.lt_ediv_add_one_mul_self a (sz_pos b)
  rw [Int.add_mul, Int.one_mul] at h
  exact h

theorem cut_nonneg (a b : Int) (h : 0 ≤ a) : 0 ≤ cut a b := by
  unfold cut
  exact Int.mul_nonneg (Int.ediv_nonneg h (by have := sz_pos b; omega)) (by have := sz_pos b; omega)

/-- A multiple of a prefix's size, at most a, and less than a size away: that is the cut. -/
theorem cut_eq (a b q : Int) (h1 : q * sz b ≤ a) (h2 : a < q * sz b + sz b) : cut a b = q * sz b := by
  unfold cut
  have hp := sz_pos b
  have : a / sz b = q := by
    have l1 : q ≤ a / sz b := (Int.le_ediv_iff_mul_le hp).2 h1
    have l2 : a / sz b < q + 1 := (Int.ediv_lt_iff_lt_mul hp).2 (by rw [Int.add_mul]; omega)
    omega
  rw [this]

theorem cut_cut (a b c : Int) (h : b ≤ c) : cut (cut a c) b = cut a b := by
  obtain ⟨k, hk, e⟩ := sz_dvd b c h
  have hp := sz_pos c
  have hq := sz_pos b
  have e1 : cut a c / sz b = a / sz b := by
    have l1 : a / sz b ≤ cut a c / sz b := by
      refine (Int.le_ediv_iff_mul_le hq).2 ?_
      have : a / sz b * k ≤ a / sz c := by
        refine (Int.le_ediv_iff_mul_le hp).2 ?_
        have := Int.ediv_mul_le a (b := sz b) (by omega)
        rw [e] at this ⊢
        rw [Int.mul_assoc]
        exact this
      unfold cut
      have := Int.mul_le_mul_of_nonneg_right this (Int.le_of_lt hp)
      rw [Int.mul_assoc, ← e] at this
      exact this
    have l2 : cut a c / sz b ≤ a / sz b := Int.ediv_le_ediv hq (cut_le a c)
    omega
  unfold cut at *
  rw [e1]

theorem cut_zero (a : Int) (h0 : 0 ≤ a) (h1 : a < 4294967296) : cut a 0 = 0 := by
  have := cut_eq a 0 0 (by simpa using h0) (by rw [sz_0]; omega)
  simpa using this

theorem cut_idem (a b : Int) : cut (cut a b) b = cut a b := cut_cut a b b (Int.le_refl _)

theorem cut_mono (a c : Int) (i j : Int) (h : i ≤ j) (e : cut a j = cut c j) : cut a i = cut c i := by
  rw [← cut_cut a i j h, ← cut_cut c i j h, e]

theorem may_iff (a b : Int) : may a b = true ↔ 0 ≤ b ∧ b ≤ 32 ∧ cut a b = a := by unfold may; exact decide_eq_true_iff

/-- As the walk spells the cut. -/
theorem cut_bits (a b : Int) (h0 : 0 ≤ a) (h1 : a ≤ 4294967295) (hb : 0 ≤ b) (hb2 : b ≤ 32) :
    bits .andNot .u32 a (4294967295 / 2 ^ b.toNat) = cut a b := by
  obtain ⟨A, rfl⟩ := Int.eq_ofNat_of_zero_le h0
  obtain ⟨B, rfl⟩ := Int.eq_ofNat_of_zero_le hb
  have hB : B ≤ 32 := by omega
  have hA : A < 4294967296 := by omega
  have hpow : (4294967295 : Nat) / 2 ^ B = 2 ^ (32 - B) - 1 := by
    have : ∀ n : Fin 33, (4294967295 : Nat) / 2 ^ n.val = 2 ^ (32 - n.val) - 1 := by decide
    exact this ⟨B, by omega⟩
  have e1 : ((4294967295 : Int) / 2 ^ (Int.toNat (B : Int))) = (((4294967295 : Nat) / 2 ^ B : Nat) : Int) := by
    rw [Int.toNat_natCast]; simp
  rw [e1, hpow]
  have hlt : 2 ^ (32 - B) - 1 < 4294967296 := by
    have : (2 : Nat) ^ (32 - B) ≤ 2 ^ 32 := Nat.pow_le_pow_right (by decide) (by omega)
    omega
  rw [u32_andNot_nat A _ hA hlt]
  have e2 : cut (A : Int) (B : Int) = ((A / 2 ^ (32 - B) * 2 ^ (32 - B) : Nat) : Int) := by
    unfold cut sz
    rw [Int.toNat_natCast]; simp
  rw [e2]
  congr 1
  have hle : (2 : Nat) ^ (32 - B) ≤ 2 ^ 32 := Nat.pow_le_pow_right (by decide) (by omega)
  have hp := Nat.two_pow_pos (32 - B)
  have e3 : 4294967295 - (2 ^ (32 - B) - 1) = 2 ^ 32 - ((2 ^ (32 - B) - 1) + 1) := by omega
  rw [e3]
  apply Nat.eq_of_testBit_eq
  intro i
  rw [Nat.testBit_and, Nat.testBit_two_pow_sub_succ (by omega), Nat.testBit_two_pow_sub_one, Nat.testBit_mul_two_pow, Nat.testBit_div_two_pow]
  by_cases hi : 32 - B ≤ i
  · have : i - (32 - B) + (32 - B) = i := by omega
    by_cases h32 : i < 32
    · simp [hi, h32, this]
    · have hge : (2 : Nat) ^ 32 ≤ 2 ^ i := Nat.pow_le_pow_right (by decide) (by omega)
      have : A.testBit i = false := Nat.testBit_lt_two_pow (by omega)
      simp [*]
  · have h2 : i < 32 - B := by omega
    simp [hi, h2]
end Go.Proofs.YtkpoanjcalolkaaDoor.Ad

/- Plain mathematics of prefixes: the or-forms of a half and of the last address, as the walk spells them. -/
namespace Go.Proofs.YtkpoanjcalolkaaDoor.Ad
open Go

theorem dvd_cut (a b : Int) (h : cut a b = a) : a % sz b = 0 := by
  unfold cut at h
  have := Int.emod_add_mul_ediv a (sz b)
  rw [Int.mul_comm] at this
  omega

theorem or_low (a x : Int) (k : Nat) (h0 : 0 ≤ a) (h1 : a ≤ 4294967295) (hd : a % ((2 ^ k : Nat) : Int) = 0) (hx : 0 ≤ x) (hk : x < ((2 ^ k : Nat) : Int)) (hk32 : k ≤ 32) :
    bits .or .u32 a x = a + x := by
  obtain ⟨A, rfl⟩ := Int.eq_ofNat_of_zero_le h0
  obtain ⟨X, rfl⟩ := Int.eq_ofNat_of_zero_le hx
  have hX : X < 2 ^ k := by omega
  have hle : (2 : Nat) ^ k ≤ 2 ^ 32 := Nat.pow_le_pow_right (by decide) hk32
  have hA : A % 2 ^ k = 0 := by exact_mod_cast hd
  rw [u32_or_nat A X (by omega) (by omega), nat_join k A X hA hX]
  exact Int.natCast_add A X

theorem half_bits (a b : Int) (h0 : 0 ≤ a) (h1 : a ≤ 4294967295) (hb : 0 ≤ b) (hb2 : b ≤ 31) (hc : cut a b = a) :
    bits .or .u32 a (2 ^ (32 - (b + 1)).toNat % 4294967296) = a + sz (b + 1) := by
  have e : (2 : Int) ^ (32 - (b + 1)).toNat % 4294967296 = sz (b + 1) := by
    unfold sz
    have e1 : (32 - (b + 1)).toNat = 32 - (b + 1).toNat := by omega
    rw [e1]
    have h1 : (2 : Nat) ^ (32 - (b + 1).toNat) ≤ 2 ^ 31 := Nat.pow_le_pow_right (by decide) (by omega)
    have h2 : (2 : Int) ^ (32 - (b + 1).toNat) = ((2 ^ (32 - (b + 1).toNat) : Nat) : Int) := by rw [Int.natCast_pow]; rfl
    rw [h2]
    generalize (2 : Nat) ^ (32 - (b + 1).toNat) = n at *
    omega
  rw [e]
  have hd := dvd_cut a b hc
  have hh := sz_half b hb hb2
  have hp := sz_pos (b + 1)
  refine or_low a (sz (b + 1)) (32 - b.toNat) h0 h1 hd (by omega) ?_ (by omega)
  show sz (b + 1) < sz b
  omega

theorem last_bits (a b : Int) (h0 : 0 ≤ a) (h1 : a ≤ 4294967295) (hb : 0 ≤ b) (hb2 : b ≤ 32) (hc : cut a b = a) :
    bits .or .u32 a (4294967295 / 2 ^ b.toNat) = a + sz b - 1 := by
  have e : (4294967295 : Int) / 2 ^ b.toNat = sz b - 1 := by
    obtain ⟨B, rfl⟩ := Int.eq_ofNat_of_zero_le hb
    have hpow : (4294967295 : Nat) / 2 ^ B = 2 ^ (32 - B) - 1 := by
      have : ∀ n : Fin 33, (4294967295 : Nat) / 2 ^ n.val = 2 ^ (32 - n.val) - 1 := by decide
      exact this ⟨B, by omega⟩
    have e1 : ((4294967295 : Int) / 2 ^ (Int.toNat (B : Int))) = (((4294967295 : Nat) / 2 ^ B : Nat) : Int) := by
      rw [Int.toNat_natCast]; simp
    rw [e1, hpow]
    unfold sz
    rw [Int.toNat_natCast]
    have := Nat.two_pow_pos (32 - B)
    omega
  rw [e]
  have hd := dvd_cut a b hc
  have hp := sz_pos b
  have := or_low a (sz b - 1) (32 - b.toNat) h0 h1 hd (by omega) (by show sz b - 1 < sz b; omega) (by omega)
  rw [this]
  omega
end Go.Proofs.YtkpoanjcalolkaaDoor.Ad

/- Plain mathematics: when two prefixes are the halves of what is above both; the stack on which they are joined. -/
namespace Go.Proofs.YtkpoanjcalolkaaDoor.Ad

/-- p and q are the halves of one, the lower one first. -/
def pair (p q : Int × Int) : Bool := decide (p.2 = q.2 ∧ 1 ≤ p.2 ∧ cut p.1 (p.2 - 1) = p.1 ∧ q.1 = p.1 + sz p.2)
/-- The one whose lower half p is. -/
def up (p : Int × Int) : Int × Int := (p.1, p.2 - 1)

theorem mul_cut (a b : Int) (h : cut a b = a) : ∃ q : Int, a = q * sz b := ⟨a / sz b, by unfold cut at h; omega⟩

/-- What stands just behind a multiple, less than a size away, is cut to it. -/
theorem cut_add (a b x : Int) (h : cut a b = a) (h0 : 0 ≤ x) (h1 : x < sz b) : cut (a + x) b = a := by
  obtain ⟨q, hq⟩ := mul_cut a b h
  have := cut_eq (a + x) b q (by omega) (by omega)
  omega

theorem pair_above (a b c d : Int) (k : Nat) (hb : 0 ≤ b) (hb2 : b ≤ 32) (ha : cut a b = a) (hc : cut c d = c) (hk : (k : Int) ≤ b) (he : cut a k = cut c k)
    (hs : (k : Int) = b ∨ (k : Int) = d ∨ cut a (k + 1) ≠ cut c (k + 1)) (hp : pair (a, b) (c, d) = true) : (k : Int) = b - 1 := by
  simp only [pair, decide_eq_true_eq] at hp
  obtain ⟨h1, h2, h3, h4⟩ := hp
  subst h1
  have hh := sz_half (b - 1) (by omega) (by omega)
  have hb1 : b - 1 + 1 = b := by omega
  rw [hb1] at hh
  have hz := sz_pos b
  have e1 : cut c (b - 1) = a := by rw [h4]; exact cut_add a (b - 1) (sz b) h3 (by omega) (by omega)
  rcases Int.lt_trichotomy (k : Int) (b - 1) with h | h | h
  · exfalso
    have hm := cut_mono a c ((k : Int) + 1) (b - 1) (by omega) (by rw [h3, e1])
    rcases hs with h5 | h5 | h5
    · omega
    · omega
    · exact h5 hm
  · exact h
  · exfalso
    have hkb : (k : Int) = b := by omega
    rw [hkb, ha, hc] at he
    omega

/-- If they are no pair, they are not the halves of what is above both. -/
theorem pair_not (a b c d : Int) (k : Nat) (h : pair (a, b) (c, d) = false) (h1 : a = cut a k) (h2 : b = k + 1) (h3 : c = cut a k + sz (k + 1)) (h4 : d = k + 1) : False := by
  have : pair (a, b) (c, d) = true := by
    simp only [pair, decide_eq_true_eq]
    have e : b - 1 = k := by omega
    refine ⟨by omega, by omega, by rw [e]; exact h1.symm, ?_⟩
    rw [h3, ← h1, h2]
  rw [this] at h
  cases h

/-- A pair's upper one may be. -/
theorem may_up (a b c d : Int) (hm : may a b = true) (hp : pair (a, b) (c, d) = true) : may a (b - 1) = true := by
  simp only [pair, decide_eq_true_eq] at hp
  rw [may_iff] at hm ⊢
  exact ⟨by omega, by omega, hp.2.2.1⟩

/-- The stack, its top first: as long as two that are a pair stand there, they are one. -/
def joinF : Nat → List (Int × Int) → List (Int × Int)
  | 0, s => s
  | f + 1, s =>
    match s with
    | q :: p :: r => if pair p q = true then joinF f (up p :: r) else q :: p :: r
    | s => s
def join (s : List (Int × Int)) : List (Int × Int) := joinF s.length s

theorem join_step (q p : Int × Int) (r : List (Int × Int)) (h : pair p q = true) : join (q :: p :: r) = join (up p :: r) := by
  simp [join, joinF, h]
theorem join_stop (q p : Int × Int) (r : List (Int × Int)) (h : pair p q = false) : join (q :: p :: r) = q :: p :: r := by
  simp [join, joinF, h]
theorem join_one (q : Int × Int) : join [q] = [q] := rfl
theorem join_nil : join [] = [] := rfl
end Go.Proofs.YtkpoanjcalolkaaDoor.Ad

/- Plain mathematics of a prefix's halves. -/
namespace Go.Proofs.YtkpoanjcalolkaaDoor.Ad

theorem end_le (a b : Int) (h0 : 0 ≤ b) (h1 : a ≤ 4294967295) (hc : cut a b = a) : a + sz b ≤ 4294967296 := by
  obtain ⟨q, hq⟩ := mul_cut a b hc
  obtain ⟨K, hK, e⟩ := sz_dvd 0 b h0
  rw [sz_0] at e
  have hp := sz_pos b
  have h2 : q * sz b < K * sz b := by omega
  have h3 : q < K := Int.lt_of_mul_lt_mul_right h2 (Int.le_of_lt hp)
  have h4 : (q + 1) * sz b ≤ K * sz b := Int.mul_le_mul_of_nonneg_right (by omega) (Int.le_of_lt hp)
  rw [Int.add_mul] at h4
  omega

theorem low_may (a b : Int) (h0 : 0 ≤ b) (h31 : b ≤ 31) (hc : cut a b = a) : cut a (b + 1) = a := by
  obtain ⟨q, hq⟩ := mul_cut a b hc
  have hh := sz_half b h0 h31
  have hp := sz_pos (b + 1)
  have e : a = (q * 2) * sz (b + 1) := by rw [Int.mul_assoc, ← hh]; exact hq
  have := cut_eq a (b + 1) (q * 2) (by omega) (by omega)
  omega

theorem high_may (a b : Int) (h0 : 0 ≤ b) (h31 : b ≤ 31) (hc : cut a b = a) : cut (a + sz (b + 1)) (b + 1) = a + sz (b + 1) := by
  obtain ⟨q, hq⟩ := mul_cut a b hc
  have hh := sz_half b h0 h31
  have hp := sz_pos (b + 1)
  have e : a + sz (b + 1) = (q * 2 + 1) * sz (b + 1) := by rw [Int.add_mul, Int.mul_assoc, ← hh, Int.one_mul]; omega
  have := cut_eq (a + sz (b + 1)) (b + 1) (q * 2 + 1) (by omega) (by omega)
  omega

theorem halves_pair (a b : Int) (h0 : 0 ≤ b) (hc : cut a b = a) : pair (a, b + 1) (a + sz (b + 1), b + 1) = true := by
  simp only [pair, decide_eq_true_eq]
  refine ⟨trivial, by omega, ?_, trivial⟩
  rw [show b + 1 - 1 = b by omega]
  exact hc

/-- Each address of a prefix is one of just one of its halves. -/
theorem halves_has (a b x : Int) (h0 : 0 ≤ b) (h31 : b ≤ 31) (hc : cut a b = a) : ((decide (cut x (b + 1) = a) != decide (cut x (b + 1) = a + sz (b + 1))) == decide (cut x b = a)) = true := by
  have hh := sz_half b h0 h31
  have hp := sz_pos (b + 1)
  have hx := cut_cut x b (b + 1) (by omega)
  have hl := cut_le x (b + 1)
  have hg := cut_lt x (b + 1)
  have hl2 := cut_le x b
  have hg2 := cut_lt x b
  by_cases h1 : cut x b = a
  · by_cases h2 : cut x (b + 1) = a
    · have : ¬ cut x (b + 1) = a + sz (b + 1) := by omega
      simp [h1, h2]
      omega
    · have h3 : cut x (b + 1) = a + sz (b + 1) := by
        have hlo := low_may a b h0 h31 hc
        obtain ⟨q, hq⟩ := mul_cut a (b + 1) hlo
        by_cases h4 : x < a + sz (b + 1)
        · exact absurd (by have := cut_eq x (b + 1) q (by omega) (by omega); omega) h2
        · have := cut_eq x (b + 1) (q + 1) (by rw [Int.add_mul]; omega) (by rw [Int.add_mul]; omega)
          rw [Int.add_mul] at this
          omega
      simp [h1, h3]
      omega
  · have h2 : ¬ cut x (b + 1) = a := fun h => h1 (by rw [← hx, h]; exact hc)
    have h3 : ¬ cut x (b + 1) = a + sz (b + 1) := fun h => h1 (by rw [← hx, h]; exact cut_add a b (sz (b + 1)) hc (by omega) (by omega))
    simp [h1, h2, h3]
end Go.Proofs.YtkpoanjcalolkaaDoor.Ad

/- Plain mathematics: a prefix bit by bit, as the document's answer goes through it. -/
namespace Go.Proofs.YtkpoanjcalolkaaDoor.Ad

/-- The i-th bit of an address, from the highest on. -/
def bit (a : Int) (i : Nat) : Int := a / 2 ^ (31 - i) % 2

theorem bit_nat (A i : Nat) : bit (A : Int) i = ((A / 2 ^ (31 - i) % 2 : Nat) : Int) := by
  unfold bit
  simp

theorem bit_test (A i : Nat) : bit (A : Int) i = if A.testBit (31 - i) then 1 else 0 := by
  rw [bit_nat, Nat.testBit_eq_decide_div_mod_eq]
  rcases Nat.mod_two_eq_zero_or_one (A / 2 ^ (31 - i)) with h | h <;> simp [h]

theorem cut_nat (A B : Nat) : cut (A : Int) (B : Int) = ((A / 2 ^ (32 - B) * 2 ^ (32 - B) : Nat) : Int) := by
  unfold cut sz
  rw [Int.toNat_natCast]; simp

/-- A prefix may be just if all bits behind the counting ones are 0. -/
theorem may_bits (a : Int) (B : Nat) (h0 : 0 ≤ a) (hB : B ≤ 32) : cut a B = a ↔ ∀ i, B ≤ i → i < 32 → bit a i = 0 := by
  obtain ⟨A, rfl⟩ := Int.eq_ofNat_of_zero_le h0
  rw [cut_nat]
  constructor
  · intro h i hi hi2
    rw [bit_test]
    have h' : A / 2 ^ (32 - B) * 2 ^ (32 - B) = A := by omega
    have ht : A.testBit (31 - i) = false := by
      rw [← h', Nat.testBit_mul_two_pow]
      have : ¬ 32 - B ≤ 31 - i := by omega
      simp [this]
    simp [ht]
  · intro h
    have : A / 2 ^ (32 - B) * 2 ^ (32 - B) = A := by
      apply Nat.eq_of_testBit_eq
      intro j
      rw [Nat.testBit_mul_two_pow, Nat.testBit_div_two_pow]
      by_cases hj : 32 - B ≤ j
      · simp [hj, show j - (32 - B) + (32 - B) = j by omega]
      · have := h (31 - j) (by omega) (by omega)
        rw [bit_test, show 31 - (31 - j) = j by omega] at this
        have ht : A.testBit j = false := by
          cases ht : A.testBit j
          · rfl
          · rw [ht] at this; simp at this
        simp [hj, ht]
    rw [this]

/-- Two addresses have the same first bits just if they are cut to the same. -/
theorem has_bits (a x : Int) (B : Nat) (h0 : 0 ≤ a) (h1 : a ≤ 4294967295) (g0 : 0 ≤ x) (g1 : x ≤ 4294967295) (hB : B ≤ 32) : cut a B = cut x B ↔ ∀ i, i < B → bit a i = bit x i := by
  obtain ⟨A, rfl⟩ := Int.eq_ofNat_of_zero_le h0
  obtain ⟨X, rfl⟩ := Int.eq_ofNat_of_zero_le g0
  rw [cut_nat, cut_nat]
  constructor
  · intro h i hi
    have h' : A / 2 ^ (32 - B) * 2 ^ (32 - B) = X / 2 ^ (32 - B) * 2 ^ (32 - B) := by omega
    rw [bit_test, bit_test]
    have ht := congrArg (fun n => n.testBit (31 - i)) h'
    simp only [Nat.testBit_mul_two_pow, Nat.testBit_div_two_pow] at ht
    have hj : 32 - B ≤ 31 - i := by omega
    simp only [hj, decide_true, Bool.true_and, show 31 - i - (32 - B) + (32 - B) = 31 - i by omega] at ht
    rw [ht]
  · intro h
    have : A / 2 ^ (32 - B) * 2 ^ (32 - B) = X / 2 ^ (32 - B) * 2 ^ (32 - B) := by
      apply Nat.eq_of_testBit_eq
      intro j
      rw [Nat.testBit_mul_two_pow, Nat.testBit_div_two_pow, Nat.testBit_mul_two_pow, Nat.testBit_div_two_pow]
      by_cases hj : 32 - B ≤ j
      · rw [show j - (32 - B) + (32 - B) = j by omega]
        by_cases h32 : j < 32
        · have := h (31 - j) (by omega)
          rw [bit_test, bit_test, show 31 - (31 - j) = j by omega] at this
          have ht : A.testBit j = X.testBit j := by
            cases h1 : A.testBit j <;> cases h2 : X.testBit j <;> simp [h1, h2] at this <;> rfl
          rw [ht]
        · have hge : (2 : Nat) ^ 32 ≤ 2 ^ j := Nat.pow_le_pow_right (by decide) (by omega)
          rw [Nat.testBit_lt_two_pow (x := A) (by omega), Nat.testBit_lt_two_pow (x := X) (by omega)]
      · simp [hj]
    rw [this]

theorem bit_le (a : Int) (i : Nat) : 0 ≤ bit a i ∧ bit a i ≤ 1 := by unfold bit; omega
end Go.Proofs.YtkpoanjcalolkaaDoor.Ad

