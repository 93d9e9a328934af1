/- Plain mathematics of what is above two prefixes: there is one; its halves don't contain both. -/
import Derived.Test.YtfkajefminopjabDoorM5
namespace Go.Proofs.YtfkajefminopjabDoor.Ad

/-- k bits are what is above (a, b) and (c, d). -/
def peak (a b c d : Int) (k : Nat) : Prop := (k : Int) ≤ b ∧ (k : Int) ≤ d ∧ cut a k = cut c k ∧ ((k : Int) = b ∨ (k : Int) = d ∨ cut a (k + 1) ≠ cut c (k + 1))

theorem peak_le (a b c d : Int) (k m : Nat) (h : peak a b c d k) (hm1 : (m : Int) ≤ b) (hm2 : (m : Int) ≤ d) (he : cut a m = cut c m) : m ≤ k := by
  obtain ⟨h1, h2, h3, h4⟩ := h
  apply Nat.le_of_not_lt
  intro hlt
  rcases h4 with h4 | h4 | h4
  · omega
  · omega
  · exact h4 (cut_mono a c ((k : Int) + 1) m (by omega) he)

theorem peak_unique (a b c d : Int) (k m : Nat) (h : peak a b c d k) (g : peak c d a b m) : m = k := by
  have h1 := peak_le a b c d k m h g.2.1 g.1 g.2.2.1.symm
  have h2 := peak_le c d a b m k g h.2.1 h.1 h.2.2.1.symm
  omega

theorem contains_iff (a b c d : Int) (hm : may a b = true) (hm2 : may c d = true) : contains a b c d = true ↔ b ≤ d ∧ cut c b = a := by
  unfold contains has
  rw [hm, hm2]
  simp

theorem peak_may (a b c d : Int) (k : Nat) (hb : b ≤ 32) (h : peak a b c d k) : may (cut a k) k = true :=
  (may_iff _ _).2 ⟨by omega, by have := h.1; omega, cut_idem a k⟩

theorem peak_contains1 (a b c d : Int) (k : Nat) (hm : may a b = true) (hb : b ≤ 32) (h : peak a b c d k) : contains (cut a k) k a b = true :=
  (contains_iff _ _ _ _ (peak_may a b c d k hb h) hm).2 ⟨h.1, rfl⟩
theorem peak_contains2 (a b c d : Int) (k : Nat) (hm2 : may c d = true) (hb : b ≤ 32) (h : peak a b c d k) : contains (cut a k) k c d = true :=
  (contains_iff _ _ _ _ (peak_may a b c d k hb h) hm2).2 ⟨h.2.1, h.2.2.1.symm⟩

/-- No half of it contains both. -/
theorem peak_half (a b c d u : Int) (k : Nat) (hm : may a b = true) (hm2 : may c d = true) (hu : may u (k + 1) = true) (h : peak a b c d k) (h1 : contains u (k + 1) a b = true) : contains u (k + 1) c d = false := by
  cases h2 : contains u (k + 1) c d
  · rfl
  · rw [contains_iff _ _ _ _ hu hm] at h1
    rw [contains_iff _ _ _ _ hu hm2] at h2
    rcases h.2.2.2 with h4 | h4 | h4
    · omega
    · omega
    · exact absurd (by rw [h1.2, h2.2]) h4

/-- There is one above any two. -/
theorem peak_to (a c : Int) (ha : 0 ≤ a) (ha2 : a < 4294967296) (hc : 0 ≤ c) (hc2 : c < 4294967296) : ∀ n : Nat, ∃ k : Nat, k ≤ n ∧ cut a k = cut c k ∧ (k = n ∨ cut a (k + 1) ≠ cut c (k + 1))
  | 0 => ⟨0, Nat.le_refl _, by show cut a 0 = cut c 0; rw [cut_zero a ha ha2, cut_zero c hc hc2], .inl rfl⟩
  | n + 1 => by
    obtain ⟨k, hk, he, hs⟩ := peak_to a c ha ha2 hc hc2 n
    rcases hs with rfl | hs
    · by_cases h : cut a (k + 1 : Nat) = cut c (k + 1 : Nat)
      · exact ⟨k + 1, Nat.le_refl _, h, .inl rfl⟩
      · exact ⟨k, by omega, he, .inr h⟩
    · exact ⟨k, by omega, he, .inr hs⟩

theorem peak_is (a b c d : Int) (ha : 0 ≤ a) (ha2 : a < 4294967296) (hc : 0 ≤ c) (hc2 : c < 4294967296) (hb : 0 ≤ b) (hd : 0 ≤ d) : ∃ k : Nat, peak a b c d k := by
  obtain ⟨k, hk, he, hs⟩ := peak_to a c ha ha2 hc hc2 (min b.toNat d.toNat)
  refine ⟨k, by omega, by omega, he, ?_⟩
  rcases hs with hs | hs
  · omega
  · exact .inr (.inr hs)
end Go.Proofs.YtfkajefminopjabDoor.Ad
