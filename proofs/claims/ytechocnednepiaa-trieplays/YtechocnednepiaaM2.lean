import Derived.Test.YtechocnednepiaaM1
/- Plain mathematics of prefixes: the or-forms of a half and of the last address, as the walk spells them. -/
namespace Go.Proofs.Ytechocnednepiaa.Ad
open Go

theorem dvd_cut (a b : Int) (h : cut a b = a) : a % sz b = 0 := by
  unfold cut at h
  have := Int.emod_add_mul_ediv a (sz b)
  rw [Int.mul_comm] at this
  omega

theorem or_low (a x : Int) (k : Nat) (h0 : 0 ≤ a) (h1 : a ≤ 4294967295) (hd : a % ((2 ^ k : Nat) : Int) = 0) (hx : 0 ≤ x) (hk : x < ((2 ^ k : Nat) : Int)) (hk32 : k ≤ 32) :
    bits .or .u32 a x = a + x := by
  obtain ⟨A, rfl⟩ := Int.eq_ofNat_of_zero_le h0
  obtain ⟨X, rfl⟩ := Int.eq_ofNat_of_zero_le hx
  have hX : X < 2 ^ k := by omega
  have hle : (2 : Nat) ^ k ≤ 2 ^ 32 := Nat.pow_le_pow_right (by decide) hk32
  have hA : A % 2 ^ k = 0 := by exact_mod_cast hd
  rw [u32_or_nat A X (by omega) (by omega), nat_join k A X hA hX]
  exact Int.natCast_add A X

theorem half_bits (a b : Int) (h0 : 0 ≤ a) (h1 : a ≤ 4294967295) (hb : 0 ≤ b) (hb2 : b ≤ 31) (hc : cut a b = a) :
    bits .or .u32 a (2 ^ (32 - (b + 1)).toNat % 4294967296) = a + sz (b + 1) := by
  have e : (2 : Int) ^ (32 - (b + 1)).toNat % 4294967296 = sz (b + 1) := by
    unfold sz
    have e1 : (32 - (b + 1)).toNat = 32 - (b + 1).toNat := by omega
    rw [e1]
    have h1 : (2 : Nat) ^ (32 - (b + 1).toNat) ≤ 2 ^ 31 := Nat.pow_le_pow_right (by decide) (by omega)
    have h2 : (2 : Int) ^ (32 - (b + 1).toNat) = ((2 ^ (32 - (b + 1).toNat) : Nat) : Int) := by rw [Int.natCast_pow]; rfl
    rw [h2]
    generalize (2 : Nat) ^ (32 - (b + 1).toNat) = n at *
    omega
  rw [e]
  have hd := dvd_cut a b hc
  have hh := sz_half b hb hb2
  have hp := sz_pos (b + 1)
  refine or_low a (sz (b + 1)) (32 - b.toNat) h0 h1 hd (by omega) ?_ (by omega)
  show sz (b + 1) < sz b
  omega

theorem last_bits (a b : Int) (h0 : 0 ≤ a) (h1 : a ≤ 4294967295) (hb : 0 ≤ b) (hb2 : b ≤ 32) (hc : cut a b = a) :
    bits .or .u32 a (4294967295 / 2 ^ b.toNat) = a + sz b - 1 := by
  have e : (4294967295 : Int) / 2 ^ b.toNat = sz b - 1 := by
    obtain ⟨B, rfl⟩ := Int.eq_ofNat_of_zero_le hb
    have hpow : (4294967295 : Nat) / 2 ^ B = 2 ^ (32 - B) - 1 := by
      have : ∀ n : Fin 33, (4294967295 : Nat) / 2 ^ n.val = 2 ^ (32 - n.val) - 1 := by decide
      exact this ⟨B, by omega⟩
    have e1 : ((4294967295 : Int) / 2 ^ (Int.toNat (B : Int))) = (((4294967295 : Nat) / 2 ^ B : Nat) : Int) := by
      rw [Int.toNat_natCast]; simp
    rw [e1, hpow]
    unfold sz
    rw [Int.toNat_natCast]
    have := Nat.two_pow_pos (32 - B)
    omega
  rw [e]
  have hd := dvd_cut a b hc
  have hp := sz_pos b
  have := or_low a (sz b - 1) (32 - b.toNat) h0 h1 hd (by omega) (by show sz b - 1 < sz b; omega) (by omega)
  rw [this]
  omega
end Go.Proofs.Ytechocnednepiaa.Ad
