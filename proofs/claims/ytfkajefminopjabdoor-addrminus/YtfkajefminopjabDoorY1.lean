/- What is left of a prefix without another one, in numbers. -/
import Derived.Test.YtfkajefminopjabDoorI1
import Derived.Test.YtfkajefminopjabDoorM4
namespace Go.Proofs.YtfkajefminopjabDoor
namespace Ad

theorem halves_inn (a b x : Int) (h0 : 0 ≤ b) (h31 : b ≤ 31) : inn (a, b) x ↔ inn (a, b + 1) x ∨ inn (a + sz (b + 1), b + 1) x := by
  have := sz_half b h0 h31
  have := sz_pos (b + 1)
  unfold inn hi
  simp only
  omega

theorem halves_apart (a b x : Int) (h : inn (a, b + 1) x) : ¬ inn (a + sz (b + 1), b + 1) x := by
  unfold inn hi at *
  simp only at *
  omega

theorem contains_high (a b c d : Int) (h0 : 0 ≤ b) (h31 : b ≤ 31) (hm : may a b = true) (hm2 : may c d = true) (hbd : b + 1 ≤ d) (h : contains a b c d = true) (hn : contains a (b + 1) c d = false) :
    contains (a + sz (b + 1)) (b + 1) c d = true := by
  have hc := ((may_iff _ _).1 hm).2.2
  have hlow : may a (b + 1) = true := (may_iff _ _).2 ⟨by omega, by omega, low_may a b h0 h31 hc⟩
  have hhigh : may (a + sz (b + 1)) (b + 1) = true := (may_iff _ _).2 ⟨by omega, by omega, high_may a b h0 h31 hc⟩
  have h1 := ((contains_iff _ _ _ _ hm hm2).1 h).2
  have h2 : ¬ cut c (b + 1) = a := by
    intro e
    have := (contains_iff _ _ _ _ hlow hm2).2 ⟨hbd, e⟩
    rw [this] at hn
    cases hn
  have h3 := halves_has a b c h0 h31 hc
  rw [decide_eq_true h1, decide_eq_false h2] at h3
  refine (contains_iff _ _ _ _ hhigh hm2).2 ⟨hbd, ?_⟩
  by_cases e : cut c (b + 1) = a + sz (b + 1)
  · exact e
  · rw [decide_eq_false e] at h3
    simp at h3

theorem contains_self (a c d : Int) (hm : may a d = true) (hm2 : may c d = true) (h : contains a d c d = true) : a = c := by
  have h1 := ((contains_iff _ _ _ _ hm hm2).1 h).2
  have h2 := ((may_iff _ _).1 hm2).2.2
  omega

theorem meets_none (p q : Int × Int) (hp : may p.1 p.2 = true) (hq : may q.1 q.2 = true) (h1 : contains p.1 p.2 q.1 q.2 = false) (h2 : contains q.1 q.2 p.1 p.2 = false) (x : Int) (hx : inn p x) : ¬ inn q x := by
  intro hy
  have : hi q ≤ p.1 ∨ hi p ≤ q.1 := by
    by_cases hb : p.2 ≤ q.2
    · exact apart p q hp hq hb h1
    · exact (apart q p hq hp (by omega) h2).symm
  unfold inn at hx hy
  omega

theorem inside_inn (p q : Int × Int) (hp : may p.1 p.2 = true) (hq : may q.1 q.2 = true) (h : contains q.1 q.2 p.1 p.2 = true) (x : Int) (hx : inn p x) : inn q x := by
  have := inside q p hq hp h
  unfold inn at *
  omega

/-- What holds behind k rounds: p has become (a', b + k), and 'ls' was left behind. -/
def split (a b c d : Int) (k : Nat) (a' : Int) (ls : List (Int × Int)) : Prop :=
  (0 ≤ a' ∧ a' ≤ 4294967295 ∧ may a' (b + k) = true) ∧ contains a' (b + k) c d = true ∧ good ls ∧ ls.length = k ∧ (∀ x, inn (a, b) x ↔ inn (a', b + k) x ∨ cov ls x) ∧ (∀ x, cov ls x → ¬ inn (a', b + k) x)

theorem split_zero (a b c d : Int) (ha : 0 ≤ a) (ha2 : a ≤ 4294967295) (hm : may a b = true) (h : contains a b c d = true) : split a b c d 0 a [] := by
  refine ⟨⟨ha, ha2, ?_⟩, ?_, (fun _ h => by cases h), rfl, fun x => ?_, fun x h => ?_⟩
  · simpa using hm
  · simpa using h
  · simp [cov]
  · obtain ⟨_, h, _⟩ := h; cases h

theorem cov_snoc (ls : List (Int × Int)) (p : Int × Int) (x : Int) : cov (ls ++ [p]) x ↔ cov ls x ∨ inn p x := by
  unfold cov
  constructor
  · rintro ⟨q, hq, hx⟩
    rcases List.mem_append.1 hq with h | h
    · exact .inl ⟨q, h, hx⟩
    · rw [List.mem_singleton.1 h] at hx; exact .inr hx
  · rintro (⟨q, hq, hx⟩ | hx)
    · exact ⟨q, List.mem_append.2 (.inl hq), hx⟩
    · exact ⟨p, by simp, hx⟩

theorem high_le (a b : Int) (ha : 0 ≤ a) (ha2 : a ≤ 4294967295) (h0 : 0 ≤ b) (h31 : b ≤ 31) (hm : may a b = true) : 0 ≤ a + sz (b + 1) ∧ a + sz (b + 1) ≤ 4294967295 ∧ may (a + sz (b + 1)) (b + 1) = true ∧ may a (b + 1) = true := by
  have hc := ((may_iff _ _).1 hm).2.2
  have h1 := high_may a b h0 h31 hc
  have h2 := end_le a b h0 ha2 hc
  have h3 := sz_half b h0 h31
  have h4 := sz_pos (b + 1)
  exact ⟨by omega, by omega, (may_iff _ _).2 ⟨by omega, by omega, h1⟩, (may_iff _ _).2 ⟨by omega, by omega, low_may a b h0 h31 hc⟩⟩

theorem split_low (a b c d : Int) (k : Nat) (a' : Int) (ls : List (Int × Int)) (hb : 0 ≤ b) (hd : d ≤ 32) (hk : b + k + 1 ≤ d) (hs : split a b c d k a' ls) (hl : contains a' (b + k + 1) c d = true) :
    split a b c d (k + 1) a' (ls ++ [(a' + sz (b + k + 1), b + k + 1)]) := by
  obtain ⟨⟨g1, g2, g3⟩, _, g5, g6, g7, g8⟩ := hs
  obtain ⟨e1, e2, e3, e4⟩ := high_le a' (b + k) g1 g2 (by omega) (by omega) g3
  have ek : b + ((k + 1 : Nat) : Int) = b + k + 1 := by omega
  refine ⟨⟨g1, g2, by rw [ek]; exact e4⟩, by rw [ek]; exact hl, ?_, by simp [g6], fun x => ?_, fun x hx => ?_⟩
  · intro y hy
    rcases List.mem_append.1 hy with h | h
    · exact g5 y h
    · rw [List.mem_singleton.1 h]; exact ⟨e1, e2, e3⟩
  · rw [ek, cov_snoc, g7 x, halves_inn a' (b + k) x (by omega) (by omega)]
    constructor
    · rintro ((h | h) | h)
      · exact .inl h
      · exact .inr (.inr h)
      · exact .inr (.inl h)
    · rintro (h | h | h)
      · exact .inl (.inl h)
      · exact .inr h
      · exact .inl (.inr h)
  · rw [ek]
    intro hy
    rcases (cov_snoc _ _ _).1 hx with h | h
    · exact g8 x h ((halves_inn a' (b + k) x (by omega) (by omega)).2 (.inl hy))
    · exact halves_apart a' (b + k) x hy h

theorem split_high (a b c d : Int) (k : Nat) (a' : Int) (ls : List (Int × Int)) (hb : 0 ≤ b) (hd : d ≤ 32) (hm2 : may c d = true) (hk : b + k + 1 ≤ d) (hs : split a b c d k a' ls) (hl : contains a' (b + k + 1) c d = false) :
    split a b c d (k + 1) (a' + sz (b + k + 1)) (ls ++ [(a', b + k + 1)]) := by
  obtain ⟨⟨g1, g2, g3⟩, g4, g5, g6, g7, g8⟩ := hs
  obtain ⟨e1, e2, e3, e4⟩ := high_le a' (b + k) g1 g2 (by omega) (by omega) g3
  have ek : b + ((k + 1 : Nat) : Int) = b + k + 1 := by omega
  refine ⟨⟨e1, e2, by rw [ek]; exact e3⟩, by rw [ek]; exact contains_high a' (b + k) c d (by omega) (by omega) g3 hm2 hk g4 hl, ?_, by simp [g6], fun x => ?_, fun x hx => ?_⟩
  · intro y hy
    rcases List.mem_append.1 hy with h | h
    · exact g5 y h
    · rw [List.mem_singleton.1 h]; exact ⟨g1, g2, e4⟩
  · rw [ek, cov_snoc, g7 x, halves_inn a' (b + k) x (by omega) (by omega)]
    constructor
    · rintro ((h | h) | h)
      · exact .inr (.inr h)
      · exact .inl h
      · exact .inr (.inl h)
    · rintro (h | h | h)
      · exact .inl (.inr h)
      · exact .inr h
      · exact .inl (.inl h)
  · rw [ek]
    intro hy
    rcases (cov_snoc _ _ _).1 hx with h | h
    · exact g8 x h ((halves_inn a' (b + k) x (by omega) (by omega)).2 (.inr hy))
    · exact halves_apart a' (b + k) x h hy

theorem split_end (a b c d : Int) (k : Nat) (a' : Int) (ls : List (Int × Int)) (hm2 : may c d = true) (hk : b + k = d) (hs : split a b c d k a' ls) (x : Int) : cov ls x ↔ inn (a, b) x ∧ ¬ inn (c, d) x := by
  obtain ⟨⟨_, _, g3⟩, g4, _, _, g7, g8⟩ := hs
  rw [hk] at g3 g4 g7 g8
  obtain rfl := contains_self a' c d g3 hm2 g4
  rw [g7 x]
  constructor
  · intro h; exact ⟨.inr h, g8 x h⟩
  · rintro ⟨h | h, hn⟩
    · exact absurd h hn
    · exact h
end Ad
end Go.Proofs.YtfkajefminopjabDoor
