import Derived.Test.YtkpoanjcalolkaaDoorP3
import Derived.Lib.ItoaLen
/- Plain lists of bytes: a number's digits, and a prefix's text parsed back. -/
namespace Go.Proofs.YtkpoanjcalolkaaDoor
open Go

theorem Ad.dec_step (m d : Nat) (hm : 1 ≤ m) (hd : d < 10) : Lib.decDigits (10 * m + d) = Lib.decDigits m ++ [UInt8.ofNat (48 + d)] := by
  rw [Lib.decDigits, dif_neg (by omega)]
  have e1 : (10 * m + d) / 10 = m := by omega
  have e2 : (10 * m + d) % 10 = d := by omega
  rw [e1, e2]

theorem Ad.ofNat_dig (d : Nat) (h : d < 10) : (UInt8.ofNat (48 + d)).toNat = 48 + d := by
  rw [UInt8.toNat_ofNat']
  omega

theorem Ad.dig_ofNat (d : Nat) (h : d < 10) : Ad.dig (UInt8.ofNat (48 + d)) = true := by
  unfold Ad.dig
  rw [Ad.ofNat_dig d h]
  simp
  omega

theorem Ad.dec_all (u : Nat) : Ad.digs (Lib.decDigits u) = true ∧ Ad.num (Lib.decDigits u) = u ∧ Lib.decDigits u ≠ [] ∧ (10 ≤ u → (Lib.decDigits u).head? ≠ some 48) ∧ (1 ≤ u → (Lib.decDigits u).head? ≠ some 48) := by
  induction u using Nat.strongRecOn with
  | _ u ih =>
    by_cases h : u < 10
    · rw [Lib.decDigits_one h]
      refine ⟨?_, ?_, by simp, fun h' => by omega, ?_⟩
      · have := Ad.dig_ofNat u h
        simpa [Ad.digs, Ad.dig] using this
      · have := Ad.ofNat_dig u h
        simp only [Ad.num, List.foldl_cons, List.foldl_nil]
        rw [this]
        omega
      · intro h1 e
        have h2 : UInt8.ofNat (48 + u) = 48 := Option.some.inj e
        have h3 := Ad.ofNat_dig u h
        rw [h2] at h3
        have : (48 : UInt8).toNat = 48 := rfl
        omega
    · obtain ⟨i1, i2, i3, _, i5⟩ := ih (u / 10) (by omega)
      have e : u = 10 * (u / 10) + u % 10 := by omega
      have hs := Ad.dec_step (u / 10) (u % 10) (by omega) (by omega)
      rw [← e] at hs
      rw [hs]
      have hh : (Lib.decDigits (u / 10) ++ [UInt8.ofNat (48 + u % 10)]).head? ≠ some 48 := by
        have := i5 (by omega)
        cases hc : Lib.decDigits (u / 10) with
        | nil => exact absurd hc i3
        | cons x xs => rw [hc] at this; simpa using this
      refine ⟨?_, ?_, by simp, fun _ => hh, fun _ => hh⟩
      · rw [Ad.digs_snoc, i1, Ad.dig_ofNat _ (by omega)]
        rfl
      · rw [Ad.num_snoc, i2, Ad.ofNat_dig _ (by omega)]
        omega

theorem Ad.dec_isNum (u : Nat) : Ad.isNum (Lib.decDigits u) = true := by
  obtain ⟨h1, _, h3, h4, _⟩ := Ad.dec_all u
  unfold Ad.isNum Ad.zeroAhead
  rw [h1]
  have e1 : (Lib.decDigits u).isEmpty = false := by
    cases hc : Lib.decDigits u with
    | nil => exact absurd hc h3
    | cons _ _ => rfl
  rw [e1]
  by_cases h : u < 10
  · rw [Lib.decDigits_one h]
    simp
  · have := h4 (by omega)
    have e2 : ((Lib.decDigits u).head? == some 48) = false := by simpa using this
    rw [e2]
    simp

theorem Ad.snoc_cases (l : List UInt8) (h : l ≠ []) : ∃ l' c, l = l' ++ [c] := ⟨l.dropLast, l.getLast h, (List.dropLast_concat_getLast h).symm⟩

theorem Ad.dec_num : ∀ (n : Nat) (l : List UInt8), l.length = n → l ≠ [] → Ad.digs l = true → (l.head? ≠ some 48 ∨ n = 1) → Lib.decDigits (Ad.num l).toNat = l ∧ (l.head? ≠ some 48 → 1 ≤ Ad.num l)
  | 0, l, hl, h0, _, _ => absurd (List.eq_nil_of_length_eq_zero hl) h0
  | n + 1, l, hl, h0, hd, hz => by
    obtain ⟨l', c, rfl⟩ := Ad.snoc_cases l h0
    rw [Ad.digs_snoc, Bool.and_eq_true] at hd
    obtain ⟨hd1, hd2⟩ := hd
    have hc := Ad.dig_bd c hd2
    have ec : UInt8.ofNat (48 + ((c.toNat : Int) - 48).toNat) = c := by
      have : 48 + ((c.toNat : Int) - 48).toNat = c.toNat := by omega
      rw [this]
      simp
    rw [Ad.num_snoc]
    by_cases hn : l' = []
    · subst hn
      have e : (10 * Ad.num [] + ((c.toNat : Int) - 48)) = (c.toNat : Int) - 48 := by simp [Ad.num]
      rw [e]
      refine ⟨?_, ?_⟩
      · rw [Lib.decDigits_one (by omega), ec]
        rfl
      · intro hh
        have : c ≠ 48 := by intro e'; subst e'; exact hh rfl
        have h48 : c.toNat ≠ 48 := by
          intro e'
          apply this
          have := UInt8.toNat_inj.1 (show c.toNat = (48 : UInt8).toNat from e')
          exact this
        omega
    · have hl' : l'.length = n := by simp at hl; exact hl
      have hn1 : 1 ≤ n := by
        cases l' with
        | nil => exact absurd rfl hn
        | cons _ _ => simp at hl'; omega
      have hhd : (l' ++ [c]).head? = l'.head? := by
        cases l' with
        | nil => exact absurd rfl hn
        | cons _ _ => rfl
      have hz' : l'.head? ≠ some 48 := by
        rcases hz with hz | hz
        · rw [hhd] at hz; exact hz
        · omega
      obtain ⟨i1, i2⟩ := Ad.dec_num n l' hl' hn hd1 (.inl hz')
      have i3 := i2 hz'
      refine ⟨?_, fun _ => by omega⟩
      have e : (10 * Ad.num l' + ((c.toNat : Int) - 48)).toNat = 10 * (Ad.num l').toNat + ((c.toNat : Int) - 48).toNat := by omega
      rw [e, Ad.dec_step _ _ (by omega) (by omega), i1, ec]

theorem Ad.itoa_num (l : List UInt8) (h : Ad.isNum l = true) : Lib.itoa (Ad.num l) = l := by
  unfold Ad.isNum at h
  simp only [Bool.and_eq_true, Bool.not_eq_true'] at h
  obtain ⟨⟨h1, h2⟩, h3⟩ := h
  have h0 : l ≠ [] := by intro e; subst e; simp at h1
  have hb := (Ad.num_bd l h3).1
  unfold Lib.itoa
  rw [if_neg (by omega)]
  refine (Ad.dec_num l.length l rfl h0 h3 ?_).1
  unfold Ad.zeroAhead at h2
  rw [Bool.and_eq_false_iff] at h2
  rcases h2 with h2 | h2
  · right
    have := of_decide_eq_false h2
    cases l with
    | nil => exact absurd rfl h0
    | cons _ t => simp at this ⊢; omega
  · left
    simpa using h2

theorem Ad.itoa_nat (n : Int) (h : 0 ≤ n) : Ad.isNum (Lib.itoa n) = true ∧ Ad.num (Lib.itoa n) = n ∧ Ad.digs (Lib.itoa n) = true := by
  obtain ⟨u, rfl⟩ := Int.eq_ofNat_of_zero_le h
  rw [Lib.itoa_nonneg]
  exact ⟨Ad.dec_isNum u, (Ad.dec_all u).2.1, (Ad.dec_all u).1⟩

theorem Ad.itoa_len3 (n : Int) (h : 0 ≤ n) (h1 : n < 1000) : (Lib.itoa n).length ≤ 3 := by
  obtain ⟨u, rfl⟩ := Int.eq_ofNat_of_zero_le h
  rw [Lib.itoa_nonneg]
  by_cases a : u < 10
  · rw [Lib.decDigits_one a]; simp
  · by_cases b : u < 100
    · rw [Lib.decDigits_two a b]; simp
    · have e : u = 10 * (u / 10) + u % 10 := by omega
      rw [e, Ad.dec_step _ _ (by omega) (by omega), Lib.decDigits_two (by omega) (by omega)]
      simp

theorem Ad.digs_not (l : List UInt8) (h : Ad.digs l = true) (c : UInt8) (hc : c.toNat < 48) : c ∉ l := by
  intro hm
  unfold Ad.digs at h
  have := List.all_eq_true.1 h c hm
  simp at this
  have := this.1
  omega

/-- The prefix of a text, and the error. -/
def Ad.parse (l : List UInt8) : Int × Int × Int :=
  match Ad.marks5 l with
  | none => (0, 0, 4)
  | some (a, b, c, d, e) => if (Ad.isNum a && Ad.isNum b && Ad.isNum c && Ad.isNum d && Ad.isNum e) = true then Ad.parseT a b c d e else (0, 0, 4)

/-- A prefix's text, by Itoa's digits. -/
def Ad.textI (a b : Int) : List UInt8 := Ad.text Lib.itoa a b

theorem Ad.textI_eq (a b : Int) : Ad.textI a b = Lib.itoa (Ad.oct a 0) ++ 46 :: (Lib.itoa (Ad.oct a 1) ++ 46 :: (Lib.itoa (Ad.oct a 2) ++ 46 :: (Lib.itoa (Ad.oct a 3) ++ 47 :: Lib.itoa b))) := by
  simp [Ad.textI, Ad.text, Ad.textTo, Ad.mark]

theorem Ad.oct_bd (a : Int) (j : Nat) : 0 ≤ Ad.oct a j ∧ Ad.oct a j ≤ 255 := by unfold Ad.oct; omega

theorem Ad.marks_text (x0 x1 x2 x3 x4 : List UInt8) (h0 : Ad.digs x0 = true) (h1 : Ad.digs x1 = true) (h2 : Ad.digs x2 = true) (h3 : Ad.digs x3 = true) :
    Ad.marks5 (x0 ++ 46 :: (x1 ++ 46 :: (x2 ++ 46 :: (x3 ++ 47 :: x4)))) = some (x0, x1, x2, x3, x4) := by
  unfold Ad.marks5
  rw [Ad.cutL_app _ _ _ (Ad.digs_not _ h0 46 (by decide))]
  simp only [Option.bind]
  rw [Ad.cutL_app _ _ _ (Ad.digs_not _ h1 46 (by decide))]
  simp only
  rw [Ad.cutL_app _ _ _ (Ad.digs_not _ h2 46 (by decide))]
  simp only
  rw [Ad.cutL_app _ _ _ (Ad.digs_not _ h3 47 (by decide))]

theorem Ad.marks_some (l x0 x1 x2 x3 x4 : List UInt8) (h : Ad.marks5 l = some (x0, x1, x2, x3, x4)) : l = x0 ++ 46 :: (x1 ++ 46 :: (x2 ++ 46 :: (x3 ++ 47 :: x4))) := by
  unfold Ad.marks5 at h
  cases c0 : Ad.cutL l 46 with
  | none => rw [c0] at h; simp at h
  | some p0 =>
    rw [c0] at h
    simp only [Option.bind] at h
    cases c1 : Ad.cutL p0.2 46 with
    | none => rw [c1] at h; simp at h
    | some p1 =>
      rw [c1] at h
      simp only at h
      cases c2 : Ad.cutL p1.2 46 with
      | none => rw [c2] at h; simp at h
      | some p2 =>
        rw [c2] at h
        simp only at h
        cases c3 : Ad.cutL p2.2 47 with
        | none => rw [c3] at h; simp at h
        | some p3 =>
          rw [c3] at h
          simp only [Option.some.injEq, Prod.mk.injEq] at h
          obtain ⟨rfl, rfl, rfl, rfl, rfl⟩ := h
          have e0 := (Ad.cutL_some _ _ p0.1 p0.2 c0).1
          have e1 := (Ad.cutL_some _ _ p1.1 p1.2 c1).1
          have e2 := (Ad.cutL_some _ _ p2.1 p2.2 c2).1
          have e3 := (Ad.cutL_some _ _ p3.1 p3.2 c3).1
          rw [← e3, ← e2, ← e1]
          exact e0

theorem Ad.bad_itoa (n m : Int) (h0 : 0 ≤ n) (h1 : n ≤ m) (hm : m < 1000) : Ad.bad (Lib.itoa n) m = false := by
  unfold Ad.bad
  have := Ad.itoa_len3 n h0 (by omega)
  have := (Ad.itoa_nat n h0).2.1
  simp
  omega

theorem Ad.oct_sum (a : Int) (h0 : 0 ≤ a) (h1 : a ≤ 4294967295) : ((Ad.oct a 0 * 256 + Ad.oct a 1) * 256 + Ad.oct a 2) * 256 + Ad.oct a 3 = a := by
  have e0 : Ad.oct a 0 = a / 16777216 % 256 := rfl
  have e1 : Ad.oct a 1 = a / 65536 % 256 := rfl
  have e2 : Ad.oct a 2 = a / 256 % 256 := rfl
  have e3 : Ad.oct a 3 = a / 1 % 256 := rfl
  rw [e0, e1, e2, e3]
  omega

theorem Ad.sum_oct (n0 n1 n2 n3 : Int) (a0 : 0 ≤ n0) (a1 : 0 ≤ n1) (a2 : 0 ≤ n2) (a3 : 0 ≤ n3) (b0 : n0 ≤ 255) (b1 : n1 ≤ 255) (b2 : n2 ≤ 255) (b3 : n3 ≤ 255) :
    Ad.oct (((n0 * 256 + n1) * 256 + n2) * 256 + n3) 0 = n0 ∧ Ad.oct (((n0 * 256 + n1) * 256 + n2) * 256 + n3) 1 = n1 ∧ Ad.oct (((n0 * 256 + n1) * 256 + n2) * 256 + n3) 2 = n2 ∧ Ad.oct (((n0 * 256 + n1) * 256 + n2) * 256 + n3) 3 = n3 := by
  generalize hx : ((n0 * 256 + n1) * 256 + n2) * 256 + n3 = x
  have e0 : Ad.oct x 0 = x / 16777216 % 256 := rfl
  have e1 : Ad.oct x 1 = x / 65536 % 256 := rfl
  have e2 : Ad.oct x 2 = x / 256 % 256 := rfl
  have e3 : Ad.oct x 3 = x / 1 % 256 := rfl
  rw [e0, e1, e2, e3]
  refine ⟨?_, ?_, ?_, ?_⟩ <;> omega

theorem Ad.parse_text (a b : Int) (h0 : 0 ≤ a) (h1 : a ≤ 4294967295) (hm : Ad.may a b = true) : Ad.parse (Ad.textI a b) = (a, b, 0) := by
  have hb := of_decide_eq_true hm
  have q0 := Ad.itoa_nat _ (Ad.oct_bd a 0).1
  have q1 := Ad.itoa_nat _ (Ad.oct_bd a 1).1
  have q2 := Ad.itoa_nat _ (Ad.oct_bd a 2).1
  have q3 := Ad.itoa_nat _ (Ad.oct_bd a 3).1
  have q4 := Ad.itoa_nat b hb.1
  rw [Ad.textI_eq]
  unfold Ad.parse
  rw [Ad.marks_text _ _ _ _ _ q0.2.2 q1.2.2 q2.2.2 q3.2.2]
  simp only [q0.1, q1.1, q2.1, q3.1, q4.1, Bool.and_self, if_true]
  unfold Ad.parseT Ad.addr4
  rw [q0.2.1, q1.2.1, q2.2.1, q3.2.1, q4.2.1, Ad.oct_sum a h0 h1, hm,
    Ad.bad_itoa _ 255 (Ad.oct_bd a 0).1 (Ad.oct_bd a 0).2 (by decide), Ad.bad_itoa _ 255 (Ad.oct_bd a 1).1 (Ad.oct_bd a 1).2 (by decide), Ad.bad_itoa _ 255 (Ad.oct_bd a 2).1 (Ad.oct_bd a 2).2 (by decide), Ad.bad_itoa _ 255 (Ad.oct_bd a 3).1 (Ad.oct_bd a 3).2 (by decide), Ad.bad_itoa b 32 hb.1 hb.2.1 (by decide)]
  rfl

theorem Ad.text_parse (l : List UInt8) (a b : Int) (h : Ad.parse l = (a, b, 0)) : Ad.textI a b = l ∧ Ad.may a b = true ∧ 0 ≤ a ∧ a ≤ 4294967295 := by
  unfold Ad.parse at h
  cases hm : Ad.marks5 l with
  | none => rw [hm] at h; simp at h
  | some p =>
    obtain ⟨x0, x1, x2, x3, x4⟩ := p
    rw [hm] at h
    simp only at h
    split at h
    · rename_i hn
      simp only [Bool.and_eq_true] at hn
      obtain ⟨⟨⟨⟨n0, n1⟩, n2⟩, n3⟩, n4⟩ := hn
      have dg : ∀ x, Ad.isNum x = true → Ad.digs x = true := by
        intro x hx
        unfold Ad.isNum at hx
        simp only [Bool.and_eq_true] at hx
        exact hx.2
      unfold Ad.parseT at h
      split at h
      · simp at h
      · rename_i hb
        have hb' := (Bool.not_eq_true _).mp hb
        simp only [Bool.or_eq_false_iff] at hb'
        obtain ⟨⟨⟨⟨b0, b1⟩, b2⟩, b3⟩, b4⟩ := hb'
        have g0 := Ad.good_bd (dg _ n0) b0
        have g1 := Ad.good_bd (dg _ n1) b1
        have g2 := Ad.good_bd (dg _ n2) b2
        have g3 := Ad.good_bd (dg _ n3) b3
        split at h
        · rename_i hy
          simp only [Prod.mk.injEq] at h
          obtain ⟨rfl, rfl, _⟩ := h
          refine ⟨?_, hy, ?_, ?_⟩
          · rw [Ad.textI_eq, Ad.marks_some _ _ _ _ _ _ hm]
            unfold Ad.addr4
            obtain ⟨s0, s1, s2, s3⟩ := Ad.sum_oct _ _ _ _ g0.1 g1.1 g2.1 g3.1 g0.2 g1.2 g2.2 g3.2
            rw [s0, s1, s2, s3, Ad.itoa_num _ n0, Ad.itoa_num _ n1, Ad.itoa_num _ n2, Ad.itoa_num _ n3, Ad.itoa_num _ n4]
          · unfold Ad.addr4; omega
          · unfold Ad.addr4; omega
        · simp at h
    · simp at h

theorem Ad.parse_nil : Ad.parse [] = (0, 0, 4) := rfl
end Go.Proofs.YtkpoanjcalolkaaDoor
