/- Numbers by their digits, the pieces of a text between blanks, and what Parse says of a text. -/
import Derived.Test.YtpmmhmgojjlniaaGreatDoorO08
import Derived.Lib.IndexLaws
import Derived.Lib.IndexBytes
namespace Go.Proofs.YtpmmhmgojjlniaaGreatDoor.Ar
open Go.RowKit

/-- Digits alone. -/
def Ad.digs (l : List UInt8) : Bool := l.all fun c => decide (48 ≤ c.toNat) && decide (c.toNat ≤ 57)
/-- A 0 ahead of others. -/
def Ad.zeroAhead (l : List UInt8) : Bool := decide (1 < l.length) && (l.head? == some 48)
/-- Is a text digits without a 0 ahead? -/
def Ad.isNum (l : List UInt8) : Bool := !l.isEmpty && !Ad.zeroAhead l && Ad.digs l
/-- The number of some digits. -/
def Ad.num (l : List UInt8) : Int := l.foldl (fun n c => 10 * n + ((c.toNat : Int) - 48)) 0

theorem Ad.size_list (s : ByteArray) : s.data.toList.length = s.size := by simp
theorem Ad.get_list (s : ByteArray) (k : Nat) (h : k < s.size) : s.data.toList[k]'(by simpa using h) = s[k] := rfl
theorem Ad.empty_iff (s : ByteArray) : s.toList.isEmpty = decide (s.size = 0) := by
  rw [ByteArray.toList_eq]
  obtain ⟨⟨l⟩⟩ := s
  cases l <;> simp [ByteArray.size]

/-- One byte is a digit. -/
def Ad.dig (c : UInt8) : Bool := decide (48 ≤ c.toNat) && decide (c.toNat ≤ 57)

theorem Ad.digs_iff (s : ByteArray) : Ad.digs s.data.toList = true ↔ ∀ k (h : k < s.size), Ad.dig s[k] = true := by
  unfold Ad.digs
  rw [List.all_eq_true]
  constructor
  · intro h k hk
    exact h s[k] (by rw [← Ad.get_list s k hk]; exact List.getElem_mem _)
  · intro h x hx
    obtain ⟨k, hk, rfl⟩ := List.getElem_of_mem hx
    exact h k (by simpa using hk)

theorem Ad.head_iff (s : ByteArray) (h : 0 < s.size) : s.data.toList.head? = some s[0] := by
  rw [← Ad.get_list s 0 h, List.head?_eq_getElem?]
  simp

theorem Ad.num_snoc (l : List UInt8) (c : UInt8) : Ad.num (l ++ [c]) = 10 * Ad.num l + ((c.toNat : Int) - 48) := by
  unfold Ad.num; rw [List.foldl_append]; rfl
theorem Ad.digs_snoc (l : List UInt8) (c : UInt8) : Ad.digs (l ++ [c]) = (Ad.digs l && Ad.dig c) := by
  unfold Ad.digs Ad.dig; simp [List.all_append]
theorem Ad.take_snoc (s : ByteArray) (k : Nat) (h : k < s.size) : s.data.toList.take (k + 1) = s.data.toList.take k ++ [s[k]] := by
  rw [List.take_succ_eq_append_getElem (by simpa using h)]; rfl
theorem Ad.dig_bd (c : UInt8) (h : Ad.dig c = true) : (48 : Int) ≤ (c.toNat : Int) ∧ (c.toNat : Int) ≤ 57 := by
  simp [Ad.dig] at h
  omega

theorem Ad.num_bd (l : List UInt8) (h : Ad.digs l = true) : 0 ≤ Ad.num l ∧ Ad.num l < 10 ^ l.length := by
  have key : ∀ (n : Nat) (l : List UInt8), l.length = n → Ad.digs l = true → 0 ≤ Ad.num l ∧ Ad.num l < 10 ^ l.length := by
    intro n
    induction n with
    | zero =>
      intro l hl _
      obtain rfl := List.length_eq_zero_iff.1 hl
      simp [Ad.num]
    | succ n ih =>
      intro l hl hd
      obtain ⟨m, c, rfl⟩ : ∃ m c, l = m ++ [c] := ⟨l.dropLast, l.getLast (by intro h; rw [h] at hl; simp at hl), (List.dropLast_concat_getLast _).symm⟩
      rw [Ad.digs_snoc, Bool.and_eq_true] at hd
      have := ih m (by simpa using hl) hd.1
      have hc := Ad.dig_bd c hd.2
      rw [Ad.num_snoc, List.length_append]
      have hp : (10 : Int) ^ (m.length + [c].length) = 10 ^ m.length * 10 := Int.pow_succ 10 m.length
      rw [hp]
      omega
  exact key l.length l rfl h

theorem Ad.digs_take (s : ByteArray) (k : Nat) (h : Ad.digs s.data.toList = true) : Ad.digs (s.data.toList.take k) = true := by
  unfold Ad.digs at *
  rw [List.all_eq_true] at *
  exact fun x hx => h x (List.mem_of_mem_take hx)


/-- A text cut at the first c. -/
def Ad.cutL : List UInt8 → UInt8 → Option (List UInt8 × List UInt8)
  | [], _ => none
  | x :: xs, c => if x = c then some ([], xs) else (Ad.cutL xs c).map fun p => (x :: p.1, p.2)

theorem Ad.cutL_some : ∀ (l : List UInt8) (c : UInt8) (t r : List UInt8), Ad.cutL l c = some (t, r) → l = t ++ c :: r ∧ c ∉ t
  | [], c, t, r, h => by simp [Ad.cutL] at h
  | x :: xs, c, t, r, h => by
    unfold Ad.cutL at h
    by_cases hx : x = c
    · rw [if_pos hx] at h
      simp at h
      obtain ⟨rfl, rfl⟩ := h
      exact ⟨by simp [hx], by simp⟩
    · rw [if_neg hx] at h
      cases hc : Ad.cutL xs c with
      | none => rw [hc] at h; simp at h
      | some p =>
        rw [hc] at h
        simp at h
        obtain ⟨rfl, rfl⟩ := h
        have := Ad.cutL_some xs c p.1 p.2 hc
        refine ⟨by rw [List.cons_append, ← this.1], ?_⟩
        simp
        exact ⟨fun e => hx e.symm, this.2⟩

theorem Ad.cutL_app : ∀ (t : List UInt8) (c : UInt8) (r : List UInt8), c ∉ t → Ad.cutL (t ++ c :: r) c = some (t, r)
  | [], c, r, _ => by simp [Ad.cutL]
  | x :: t, c, r, h => by
    simp at h
    rw [List.cons_append, Ad.cutL, if_neg (fun e => h.1 e.symm), Ad.cutL_app t c r h.2]
    rfl

theorem Ad.cutL_none (l : List UInt8) (c : UInt8) (h : Lib.indexByte l c < 0) : Ad.cutL l c = none := by
  cases hc : Ad.cutL l c with
  | none => rfl
  | some p =>
    exfalso
    have h1 := Ad.cutL_some l c p.1 p.2 hc
    have h2 := Lib.indexByte_ge l c
    have h3 : Lib.indexByte l c = -1 := by omega
    have := Lib.indexByte_none h3 p.1.length
    rw [h1.1] at this
    simp at this

theorem Ad.cutL_at (s : ByteArray) (c : UInt8) (o : Nat) (h : Lib.indexByte s.data.toList c = (o : Int)) (hlt : o < s.size) :
    Ad.cutL s.data.toList c = some ((s.extract 0 o).data.toList, (s.extract (o + 1) s.size).data.toList) := by
  obtain ⟨h1, h2⟩ := Lib.indexByte_some h
  have e1 : (s.extract 0 o).data.toList = s.data.toList.take o := by rw [Lib.extract_data]; simp
  have e2 : (s.extract (o + 1) s.size).data.toList = s.data.toList.drop (o + 1) := Lib.extract_to_end s (o + 1)
  have e3 : s.data.toList = s.data.toList.take o ++ c :: s.data.toList.drop (o + 1) := by
    have hl : o < s.data.toList.length := by simpa using hlt
    have h3 : s.data.toList[o]'hl = c := by
      rw [List.getElem?_eq_getElem hl] at h1
      exact Option.some.inj h1
    rw [← h3, ← List.drop_eq_getElem_cons hl, List.take_append_drop]
  rw [e1, e2]
  conv => lhs; rw [e3]
  refine Ad.cutL_app _ _ _ ?_
  intro hm
  obtain ⟨k, hk, he⟩ := List.getElem_of_mem hm
  have hk' : k < o := by rw [List.length_take] at hk; omega
  refine h2 k hk' ?_
  rw [List.getElem_take] at he
  rw [← he]
  simp


theorem Ad.dec_step (m d : Nat) (hm : 1 ≤ m) (hd : d < 10) : Lib.decDigits (10 * m + d) = Lib.decDigits m ++ [UInt8.ofNat (48 + d)] := _root_.Go.Proofs.YtpmmhmgojjlniaaGreatDoor.Ar.dec_step m d hd (by omega)

theorem Ad.ofNat_dig (d : Nat) (h : d < 10) : (UInt8.ofNat (48 + d)).toNat = 48 + d := by
  rw [UInt8.toNat_ofNat']
  omega

theorem Ad.dig_ofNat (d : Nat) (h : d < 10) : Ad.dig (UInt8.ofNat (48 + d)) = true := by
  unfold Ad.dig
  rw [Ad.ofNat_dig d h]
  simp
  omega

theorem Ad.dec_all (u : Nat) : Ad.digs (Lib.decDigits u) = true ∧ Ad.num (Lib.decDigits u) = u ∧ Lib.decDigits u ≠ [] ∧ (10 ≤ u → (Lib.decDigits u).head? ≠ some 48) ∧ (1 ≤ u → (Lib.decDigits u).head? ≠ some 48) := by
  induction u using Nat.strongRecOn with
  | _ u ih =>
    by_cases h : u < 10
    · rw [Lib.decDigits_one h]
      refine ⟨?_, ?_, by simp, fun h' => by omega, ?_⟩
      · have := Ad.dig_ofNat u h
        simpa [Ad.digs, Ad.dig] using this
      · have := Ad.ofNat_dig u h
        simp only [Ad.num, List.foldl_cons, List.foldl_nil]
        rw [this]
        omega
      · intro h1 e
        have h2 : UInt8.ofNat (48 + u) = 48 := Option.some.inj e
        have h3 := Ad.ofNat_dig u h
        rw [h2] at h3
        have : (48 : UInt8).toNat = 48 := rfl
        omega
    · obtain ⟨i1, i2, i3, _, i5⟩ := ih (u / 10) (by omega)
      have e : u = 10 * (u / 10) + u % 10 := by omega
      have hs := Ad.dec_step (u / 10) (u % 10) (by omega) (by omega)
      rw [← e] at hs
      rw [hs]
      have hh : (Lib.decDigits (u / 10) ++ [UInt8.ofNat (48 + u % 10)]).head? ≠ some 48 := by
        have := i5 (by omega)
        cases hc : Lib.decDigits (u / 10) with
        | nil => exact absurd hc i3
        | cons x xs => rw [hc] at this; simpa using this
      refine ⟨?_, ?_, by simp, fun _ => hh, fun _ => hh⟩
      · rw [Ad.digs_snoc, i1, Ad.dig_ofNat _ (by omega)]
        rfl
      · rw [Ad.num_snoc, i2, Ad.ofNat_dig _ (by omega)]
        omega

theorem Ad.dec_isNum (u : Nat) : Ad.isNum (Lib.decDigits u) = true := by
  obtain ⟨h1, _, h3, h4, _⟩ := Ad.dec_all u
  unfold Ad.isNum Ad.zeroAhead
  rw [h1]
  have e1 : (Lib.decDigits u).isEmpty = false := by
    cases hc : Lib.decDigits u with
    | nil => exact absurd hc h3
    | cons _ _ => rfl
  rw [e1]
  by_cases h : u < 10
  · rw [Lib.decDigits_one h]
    simp
  · have := h4 (by omega)
    have e2 : ((Lib.decDigits u).head? == some 48) = false := by simpa using this
    rw [e2]
    simp

theorem Ad.snoc_cases (l : List UInt8) (h : l ≠ []) : ∃ l' c, l = l' ++ [c] := ⟨l.dropLast, l.getLast h, (List.dropLast_concat_getLast h).symm⟩

theorem Ad.dec_num : ∀ (n : Nat) (l : List UInt8), l.length = n → l ≠ [] → Ad.digs l = true → (l.head? ≠ some 48 ∨ n = 1) → Lib.decDigits (Ad.num l).toNat = l ∧ (l.head? ≠ some 48 → 1 ≤ Ad.num l)
  | 0, l, hl, h0, _, _ => absurd (List.eq_nil_of_length_eq_zero hl) h0
  | n + 1, l, hl, h0, hd, hz => by
    obtain ⟨l', c, rfl⟩ := Ad.snoc_cases l h0
    rw [Ad.digs_snoc, Bool.and_eq_true] at hd
    obtain ⟨hd1, hd2⟩ := hd
    have hc := Ad.dig_bd c hd2
    have ec : UInt8.ofNat (48 + ((c.toNat : Int) - 48).toNat) = c := by
      have : 48 + ((c.toNat : Int) - 48).toNat = c.toNat := by omega
      rw [this]
      simp
    rw [Ad.num_snoc]
    by_cases hn : l' = []
    · subst hn
      have e : (10 * Ad.num [] + ((c.toNat : Int) - 48)) = (c.toNat : Int) - 48 := by simp [Ad.num]
      rw [e]
      refine ⟨?_, ?_⟩
      · rw [Lib.decDigits_one (by omega), ec]
        rfl
      · intro hh
        have : c ≠ 48 := by intro e'; subst e'; exact hh rfl
        have h48 : c.toNat ≠ 48 := by
          intro e'
          apply this
          have := UInt8.toNat_inj.1 (show c.toNat = (48 : UInt8).toNat from e')
          exact this
        omega
    · have hl' : l'.length = n := by simp at hl; exact hl
      have hn1 : 1 ≤ n := by
        cases l' with
        | nil => exact absurd rfl hn
        | cons _ _ => simp at hl'; omega
      have hhd : (l' ++ [c]).head? = l'.head? := by
        cases l' with
        | nil => exact absurd rfl hn
        | cons _ _ => rfl
      have hz' : l'.head? ≠ some 48 := by
        rcases hz with hz | hz
        · rw [hhd] at hz; exact hz
        · omega
      obtain ⟨i1, i2⟩ := Ad.dec_num n l' hl' hn hd1 (.inl hz')
      have i3 := i2 hz'
      refine ⟨?_, fun _ => by omega⟩
      have e : (10 * Ad.num l' + ((c.toNat : Int) - 48)).toNat = 10 * (Ad.num l').toNat + ((c.toNat : Int) - 48).toNat := by omega
      rw [e, Ad.dec_step _ _ (by omega) (by omega), i1, ec]

theorem Ad.itoa_num (l : List UInt8) (h : Ad.isNum l = true) : Lib.itoa (Ad.num l) = l := by
  unfold Ad.isNum at h
  simp only [Bool.and_eq_true, Bool.not_eq_true'] at h
  obtain ⟨⟨h1, h2⟩, h3⟩ := h
  have h0 : l ≠ [] := by intro e; subst e; simp at h1
  have hb := (Ad.num_bd l h3).1
  unfold Lib.itoa
  rw [if_neg (by omega)]
  refine (Ad.dec_num l.length l rfl h0 h3 ?_).1
  unfold Ad.zeroAhead at h2
  rw [Bool.and_eq_false_iff] at h2
  rcases h2 with h2 | h2
  · right
    have := of_decide_eq_false h2
    cases l with
    | nil => exact absurd rfl h0
    | cons _ t => simp at this ⊢; omega
  · left
    simpa using h2

theorem Ad.itoa_nat (n : Int) (h : 0 ≤ n) : Ad.isNum (Lib.itoa n) = true ∧ Ad.num (Lib.itoa n) = n ∧ Ad.digs (Lib.itoa n) = true := by
  obtain ⟨u, rfl⟩ := Int.eq_ofNat_of_zero_le h
  rw [Lib.itoa_nonneg]
  exact ⟨Ad.dec_isNum u, (Ad.dec_all u).2.1, (Ad.dec_all u).1⟩


theorem Ad.digs_not (l : List UInt8) (h : Ad.digs l = true) (c : UInt8) (hc : c.toNat < 48) : c ∉ l := by
  intro hm
  unfold Ad.digs at h
  have := List.all_eq_true.1 h c hm
  simp at this
  have := this.1
  omega

/-- A number, at most a million. -/
def Ad.clampM (n : Int) : Int := if 1000000 < n then 1000000 else n
def Ad.numM (l : List UInt8) : Int := l.foldl (fun n c => Ad.clampM (10 * n + ((c.toNat : Int) - 48))) 0
/-- What digits says of a text. -/
def Ad.dgt (l : List UInt8) : Int := if Ad.isNum l = true then Ad.clampM (Ad.num l) else -1

theorem Ad.numM_snoc (l : List UInt8) (c : UInt8) : Ad.numM (l ++ [c]) = Ad.clampM (10 * Ad.numM l + ((c.toNat : Int) - 48)) := by
  unfold Ad.numM; rw [List.foldl_append]; rfl
theorem Ad.numM_eq (l : List UInt8) (h : Ad.digs l = true) : Ad.numM l = Ad.clampM (Ad.num l) := by
  have key : ∀ (n : Nat) (l : List UInt8), l.length = n → Ad.digs l = true → Ad.numM l = Ad.clampM (Ad.num l) := by
    intro n
    induction n with
    | zero =>
      intro l hl _
      obtain rfl := List.length_eq_zero_iff.1 hl
      rfl
    | succ n ih =>
      intro l hl hd
      obtain ⟨m, c, rfl⟩ := Ad.snoc_cases l (by intro e; subst e; simp at hl)
      rw [Ad.digs_snoc, Bool.and_eq_true] at hd
      have h1 := ih m (by simpa using hl) hd.1
      have hc := Ad.dig_bd c hd.2
      have hb := (Ad.num_bd m hd.1).1
      rw [Ad.numM_snoc, Ad.num_snoc, h1]
      unfold Ad.clampM
      by_cases a : 1000000 < Ad.num m
      · rw [if_pos a, if_pos (by omega), if_pos (by omega)]
      · rw [if_neg a]
  exact key l.length l rfl h

/-- A piece of a text. -/
def Ad.sub (s : ByteArray) (p q : Nat) : List UInt8 := (s.data.toList.drop p).take (q - p)
theorem Ad.sub_len (s : ByteArray) (p q : Nat) (hq : q ≤ s.size) : (Ad.sub s p q).length = q - p := by
  unfold Ad.sub
  rw [List.length_take, List.length_drop, Ad.size_list]
  omega
theorem Ad.sub_get (s : ByteArray) (p q k : Nat) (hq : q ≤ s.size) (hk : p + k < q) : ∃ h : k < (Ad.sub s p q).length, (Ad.sub s p q)[k] = s[p + k]'(by omega) := by
  have hl := Ad.sub_len s p q hq
  refine ⟨by omega, ?_⟩
  unfold Ad.sub
  rw [List.getElem_take, List.getElem_drop]
  exact Ad.get_list s (p + k) (by omega)
theorem Ad.sub_head (s : ByteArray) (p q : Nat) (hq : q ≤ s.size) (hp : p < q) : (Ad.sub s p q).head? = some (s[p]'(by omega)) := by
  obtain ⟨h, e⟩ := Ad.sub_get s p q 0 hq (by omega)
  rw [List.head?_eq_getElem?, List.getElem?_eq_getElem h, e]
  rfl
theorem Ad.digs_at (l : List UInt8) (k : Nat) (hk : k < l.length) (h : Ad.dig l[k] = false) : Ad.digs l = false := by
  unfold Ad.digs
  rw [List.all_eq_false]
  exact ⟨l[k], List.getElem_mem hk, by unfold Ad.dig at h; simp only [h]; decide⟩

theorem isNum_digs {l : List UInt8} (h : Ad.isNum l = true) : Ad.digs l = true := by
  unfold Ad.isNum at h
  rw [Bool.and_eq_true] at h
  exact h.2

/-- The pieces of a text between blanks. -/
def Sp.split : List UInt8 → List (List UInt8)
  | [] => [[]]
  | c :: r => if c = 32 then [] :: Sp.split r else match Sp.split r with | f :: fs => (c :: f) :: fs | [] => [[c]]
theorem Sp.split_ne : ∀ l, Sp.split l ≠ []
  | [] => by simp [Sp.split]
  | c :: r => by
    unfold Sp.split
    split
    · simp
    · split <;> simp
theorem Sp.split_blank (r : List UInt8) : Sp.split (32 :: r) = [] :: Sp.split r := by simp [Sp.split]
theorem Sp.split_app : ∀ (a r : List UInt8), (32 : UInt8) ∉ a → Sp.split (a ++ 32 :: r) = a :: Sp.split r
  | [], r, _ => Sp.split_blank r
  | c :: a, r, h => by
    simp only [List.mem_cons, not_or] at h
    have ih := Sp.split_app a r h.2
    rw [List.cons_append, Sp.split, if_neg (fun e => h.1 e.symm), ih]
theorem Sp.split_one : ∀ (a : List UInt8), (32 : UInt8) ∉ a → Sp.split a = [a]
  | [], _ => rfl
  | c :: a, h => by
    simp only [List.mem_cons, not_or] at h
    rw [Sp.split, if_neg (fun e => h.1 e.symm), Sp.split_one a h.2]
theorem Sp.split_first : ∀ (a r : List UInt8), (32 : UInt8) ∉ a → ∃ t fs, Sp.split (a ++ r) = (a ++ t) :: fs
  | [], r, _ => by
    cases h : Sp.split r with
    | nil => exact absurd h (Sp.split_ne r)
    | cons f fs => exact ⟨f, fs, h⟩
  | c :: a, r, h => by
    simp only [List.mem_cons, not_or] at h
    obtain ⟨t, fs, ih⟩ := Sp.split_first a r h.2
    refine ⟨t, fs, ?_⟩
    rw [List.cons_append, Sp.split, if_neg (fun e => h.1 e.symm), ih]
    rfl
theorem Sp.split_no : ∀ (l f : List UInt8), f ∈ Sp.split l → (32 : UInt8) ∉ f
  | [], f, h => by simp [Sp.split] at h; subst h; simp
  | c :: r, f, h => by
    unfold Sp.split at h
    split at h
    · rcases List.mem_cons.1 h with h | h
      · subst h; simp
      · exact Sp.split_no r f h
    · rename_i hc
      split at h
      · rename_i g gs hg
        have ih := Sp.split_no r
        rw [hg] at ih
        rcases List.mem_cons.1 h with h | h
        · subst h
          simp only [List.mem_cons, not_or]
          exact ⟨fun e => hc e.symm, ih g (List.mem_cons_self ..)⟩
        · exact ih f (List.mem_cons_of_mem _ h)
      · simp at h
        subst h
        simpa using fun e => hc e.symm
theorem Sp.split_join : ∀ (fs : List (List UInt8)), fs ≠ [] → (∀ f ∈ fs, (32 : UInt8) ∉ f) → Sp.split (Lib.join fs [32]) = fs
  | [], h, _ => absurd rfl h
  | [a], _, h => by
    rw [Lib.join_one]
    exact Sp.split_one a (h a (List.mem_cons_self ..))
  | a :: b :: r, _, h => by
    have e : Lib.join (a :: b :: r) [32] = a ++ 32 :: Lib.join (b :: r) [32] := by simp [Lib.join, List.intercalate, List.intersperse]
    rw [e, Sp.split_app a _ (h a (List.mem_cons_self ..)), Sp.split_join (b :: r) (by simp) (fun f hf => h f (List.mem_cons_of_mem _ hf))]

/-- What Parse says of a text. -/
def Is.parse (l : List UInt8) : List Int × Int :=
  if l = [] then ([], 0) else
  if (Sp.split l).all Ad.isNum = true then
    (if ((Sp.split l).map Ad.num).all Is.as = true then (if 16 < (Sp.split l).length then ([], 2) else ((Sp.split l).map Ad.num, 0)) else ([], 7))
  else ([], 4)
theorem Is.parse_bad (l : List UInt8) (h0 : l ≠ []) (f : List UInt8) (hf : f ∈ Sp.split l) (hn : Ad.isNum f = false) (y : List Int) (q : Int) (h : Is.parse l = (y, q)) : y = [] ∧ q = 4 := by
  have ha : (Sp.split l).all Ad.isNum = false := by rw [List.all_eq_false]; exact ⟨f, hf, by rw [hn]; decide⟩
  unfold Is.parse at h
  rw [if_neg h0, ha] at h
  simp at h
  exact ⟨h.1, h.2.symm⟩
theorem Is.as_clamp (n : Int) : Is.as (Ad.clampM n) = Is.as n ∧ (Is.as n = true → Ad.clampM n = n) := by
  constructor
  · rw [Bool.eq_iff_iff, Is.as_iff, Is.as_iff]
    unfold Ad.clampM
    split <;> omega
  · intro h
    have := (Is.as_iff n).1 h
    unfold Ad.clampM
    rw [if_neg (by omega)]
theorem Is.parse_range (l : List UInt8) (h0 : l ≠ []) (ha : (Sp.split l).all Ad.isNum = true) (p : List Int) (hp : p = (Sp.split l).map fun f => Ad.clampM (Ad.num f)) (k : Nat) (hk : k < p.length) (hn : Is.as p[k] = false) (y : List Int) (q : Int) (h : Is.parse l = (y, q)) : y = [] ∧ q = 7 := by
  have hb : ((Sp.split l).map Ad.num).all Is.as = false := by
    rw [List.all_eq_false]
    have hk' : k < (Sp.split l).length := by rw [hp, List.length_map] at hk; exact hk
    refine ⟨Ad.num (Sp.split l)[k], List.mem_map.2 ⟨_, List.getElem_mem hk', rfl⟩, ?_⟩
    subst hp
    rw [List.getElem_map, (Is.as_clamp _).1] at hn
    rw [hn]; decide
  unfold Is.parse at h
  rw [if_neg h0, if_pos ha, hb] at h
  simp at h
  exact ⟨h.1, h.2.symm⟩
theorem Is.parse_end (l : List UInt8) (h0 : l ≠ []) (ha : (Sp.split l).all Ad.isNum = true) (p : List Int) (hp : p = (Sp.split l).map fun f => Ad.clampM (Ad.num f)) (hn : ∀ k (hk : k < p.length), Is.as p[k] = true) (y : List Int) (q : Int) (h : Is.parse l = (y, q)) :
    (16 < p.length ∧ y = [] ∧ q = 2) ∨ (p.length ≤ 16 ∧ y = p ∧ q = 0) := by
  have hlen : p.length = (Sp.split l).length := by rw [hp, List.length_map]
  have has : ∀ f ∈ Sp.split l, Is.as (Ad.num f) = true := by
    intro f hf
    obtain ⟨k, hk, rfl⟩ := List.getElem_of_mem hf
    have := hn k (by omega)
    subst hp
    rw [List.getElem_map, (Is.as_clamp _).1] at this
    exact this
  have hb : ((Sp.split l).map Ad.num).all Is.as = true := by
    rw [List.all_eq_true]
    intro x hx
    obtain ⟨f, hf, rfl⟩ := List.mem_map.1 hx
    exact has f hf
  have hpe : p = (Sp.split l).map Ad.num := by
    rw [hp]
    exact List.map_congr_left fun f hf => (Is.as_clamp _).2 (has f hf)
  unfold Is.parse at h
  rw [if_neg h0, if_pos ha, if_pos hb, ← hpe, ← hlen] at h
  split at h
  · rename_i h16
    simp at h
    exact .inl ⟨h16, h.1, h.2.symm⟩
  · rename_i h16
    simp only [Prod.mk.injEq] at h
    exact .inr ⟨by omega, h.1.symm, h.2.symm⟩
end Go.Proofs.YtpmmhmgojjlniaaGreatDoor.Ar
namespace Go.Proofs.YtpmmhmgojjlniaaGreatDoor.Ar

/-- A part of a set: from, to, and whether two were told. -/
abbrev Prt : Type := Int × Int × Bool
/-- A node of an expression: numbers, a choice of rows, or what is told by a sign behind a node. -/
inductive Nd where
  | num (dot set : Bool) (rs : List Prt)
  | ch (rows : List (List Nd))
  | st (k : Nat) (n : Nd)

abbrev Bs : Type := List UInt8
def Px.skip (r : Bs) : Bs := r.dropWhile fun c => c == 32
def Px.isAt (r : Bs) (c : UInt8) : Bool := (Px.skip r).head? == some c
def Px.next (r : Bs) : Bs := (Px.skip r).tail
def Px.digits (r : Bs) : Bs := (Px.skip r).takeWhile Ad.dig
def Px.number (r : Bs) : Except Int (Int × Bs) :=
  if Ad.isNum (Px.digits r) = true then (if Is.as (Ad.num (Px.digits r)) = true then .ok (Ad.num (Px.digits r), (Px.skip r).drop (Px.digits r).length) else .error 7) else .error 4
def Px.set : Nat → List Prt → Bs → Except Int (List Prt × Bs)
  | 0, _, _ => .error 4
  | f + 1, acc, r =>
    if acc ≠ [] ∧ Px.isAt r 93 = true then .ok (acc, Px.next r) else
    match Px.number r with
    | .error e => .error e
    | .ok (a, k) =>
      if Px.isAt k 45 = true then
        match Px.number (Px.next k) with
        | .error e => .error e
        | .ok (b, k2) => if b < a then .error 7 else Px.set f (acc ++ [(a, b, true)]) k2
      else Px.set f (acc ++ [(a, a, false)]) k
def Px.starts (c : UInt8) : Bool := c == 46 || c == 91 || c == 40 || Ad.dig c
def Px.atom (ch : Bs → Except Int (List (List Nd) × Bs)) (r : Bs) : Except Int (Nd × Bs) :=
  if Px.isAt r 46 = true then .ok (.num true false [(1, 65535, true)], Px.next r)
  else if Px.isAt r 91 = true then
    match Px.set ((Px.next r).length + 1) [] (Px.next r) with
    | .error e => .error e
    | .ok (rs, k) => .ok (.num false true rs, k)
  else if Px.isAt r 40 = true then
    match ch (Px.next r) with
    | .error e => .error e
    | .ok (c, k) => if Px.isAt k 41 = true then .ok (.ch c, Px.next k) else .error 4
  else
    match Px.number r with
    | .error e => .error e
    | .ok (x, k) => .ok (.num false false [(x, x, false)], k)
def Px.sign (r : Bs) : Nat := if Px.isAt r 42 = true then 3 else if Px.isAt r 43 = true then 4 else if Px.isAt r 63 = true then 5 else 0
def Px.item (ch : Bs → Except Int (List (List Nd) × Bs)) (r : Bs) : Except Int (Nd × Bs) :=
  match Px.atom ch r with
  | .error e => .error e
  | .ok (n, k) => if Px.sign k = 0 then .ok (n, k) else .ok (.st (Px.sign k) n, Px.next k)
def Px.row (ch : Bs → Except Int (List (List Nd) × Bs)) : Nat → List Nd → Bs → Except Int (List Nd × Bs)
  | 0, _, _ => .error 4
  | f + 1, acc, r =>
    match Px.skip r with
    | [] => .ok (acc, [])
    | c :: t =>
      if Px.starts c = true then
        match Px.item ch (c :: t) with
        | .error e => .error e
        | .ok (n, k) => Px.row ch f (acc ++ [n]) k
      else .ok (acc, c :: t)
def Px.rows (ch : Bs → Except Int (List (List Nd) × Bs)) : Nat → List (List Nd) → Bs → Except Int (List (List Nd) × Bs)
  | 0, _, _ => .error 4
  | f + 1, acc, r =>
    match Px.row ch (r.length + 1) [] r with
    | .error e => .error e
    | .ok (row, k) => if Px.isAt k 124 = true then Px.rows ch f (acc ++ [row]) (Px.next k) else .ok (acc ++ [row], k)
/-- A choice, so many deep. -/
def Px.choice : Nat → Bs → Except Int (List (List Nd) × Bs)
  | 0, _ => .error 2
  | d + 1, r => Px.rows (Px.choice d) (r.length + 1) [] r
def Px.parse (s : Bs) : Except Int (Bool × Bool × List (List Nd)) :=
  if 64 < s.length then .error 2 else
  match Px.choice 8 (if Px.isAt s 94 = true then Px.next s else s) with
  | .error e => .error e
  | .ok (c, k) => if Px.skip (if Px.isAt k 36 = true then Px.next k else k) = [] then .ok (Px.isAt s 94, Px.isAt k 36, c) else .error 4

theorem Px.skip_suf (r : Bs) : Px.skip r <:+ r := List.dropWhile_suffix _
theorem Px.skip_idem (r : Bs) : Px.skip (Px.skip r) = Px.skip r := by
  unfold Px.skip
  induction r with
  | nil => rfl
  | cons c t ih =>
    rw [List.dropWhile_cons]
    split
    · exact ih
    · rename_i h
      rw [List.dropWhile_cons, if_neg h]
theorem Px.isAt_some {r : Bs} {c : UInt8} (h : Px.isAt r c = true) : ∃ t, Px.skip r = c :: t ∧ Px.next r = t := by
  unfold Px.isAt at h
  cases hs : Px.skip r with
  | nil => rw [hs] at h; simp at h
  | cons d t =>
    rw [hs] at h
    simp at h
    subst h
    exact ⟨t, rfl, by unfold Px.next; rw [hs]; rfl⟩
theorem Px.next_suf (r : Bs) : Px.next r <:+ r := (List.tail_suffix _).trans (Px.skip_suf r)
theorem Px.next_len {r : Bs} {c : UInt8} (h : Px.isAt r c = true) : (Px.next r).length < r.length := by
  obtain ⟨t, h1, h2⟩ := Px.isAt_some h
  have := (Px.skip_suf r).length_le
  rw [h1, List.length_cons] at this
  rw [h2]
  omega
theorem Px.skip_skip_isAt (r : Bs) (c : UInt8) : Px.isAt (Px.skip r) c = Px.isAt r c := by unfold Px.isAt; rw [Px.skip_idem]
theorem Px.number_suf {r : Bs} {x : Int} {k : Bs} (h : Px.number r = .ok (x, k)) : k <:+ r ∧ k.length < r.length := by
  unfold Px.number at h
  split at h
  · rename_i hn
    split at h
    · simp only [Except.ok.injEq, Prod.mk.injEq] at h
      obtain ⟨_, rfl⟩ := h
      have hs := Px.skip_suf r
      refine ⟨(List.drop_suffix _ _).trans hs, ?_⟩
      have hne : Px.digits r ≠ [] := by intro e; rw [e] at hn; cases hn
      have hpos := List.length_pos_iff.2 hne
      have hle : (Px.digits r).length ≤ (Px.skip r).length := (List.takeWhile_prefix _).length_le
      have := hs.length_le
      rw [List.length_drop]
      omega
    · cases h
  · cases h
theorem Px.set_suf : ∀ (f : Nat) (acc : List Prt) (r : Bs) (rs : List Prt) (k : Bs), Px.set f acc r = .ok (rs, k) → k <:+ r ∧ k.length < r.length
  | 0, _, _, _, _, h => by cases h
  | f + 1, acc, r, rs, k, h => by
    rw [Px.set] at h
    split at h
    · rename_i hc
      simp only [Except.ok.injEq, Prod.mk.injEq] at h
      obtain ⟨_, rfl⟩ := h
      exact ⟨Px.next_suf r, Px.next_len hc.2⟩
    · split at h
      · cases h
      · rename_i a k1 hn
        obtain ⟨s1, l1⟩ := Px.number_suf hn
        split at h
        · rename_i hm
          split at h
          · cases h
          · rename_i b k2 hn2
            obtain ⟨s2, l2⟩ := Px.number_suf hn2
            have s3 := Px.next_suf k1
            have l3 := Px.next_len hm
            split at h
            · cases h
            · obtain ⟨s4, l4⟩ := Px.set_suf f _ k2 rs k h
              exact ⟨s4.trans (s2.trans (s3.trans s1)), by omega⟩
        · obtain ⟨s4, l4⟩ := Px.set_suf f _ k1 rs k h
          exact ⟨s4.trans s1, by omega⟩
/-- A reader that leaves an end of what it was handed. -/
def Px.Suf (ch : Bs → Except Int (List (List Nd) × Bs)) : Prop := ∀ r c k, ch r = .ok (c, k) → k <:+ r
theorem Px.atom_suf {ch : Bs → Except Int (List (List Nd) × Bs)} (hc : Px.Suf ch) {r : Bs} {n : Nd} {k : Bs} (h : Px.atom ch r = .ok (n, k)) : k <:+ r ∧ k.length < r.length := by
  unfold Px.atom at h
  split at h
  · rename_i h1
    simp only [Except.ok.injEq, Prod.mk.injEq] at h
    obtain ⟨_, rfl⟩ := h
    exact ⟨Px.next_suf r, Px.next_len h1⟩
  · split at h
    · rename_i h1
      split at h
      · cases h
      · rename_i rs k1 hs
        simp only [Except.ok.injEq, Prod.mk.injEq] at h
        obtain ⟨_, rfl⟩ := h
        obtain ⟨s1, l1⟩ := Px.set_suf _ _ _ _ _ hs
        have := Px.next_len h1
        exact ⟨s1.trans (Px.next_suf r), by omega⟩
    · split at h
      · rename_i h1
        split at h
        · cases h
        · rename_i c k1 hs
          split at h
          · rename_i h2
            simp only [Except.ok.injEq, Prod.mk.injEq] at h
            obtain ⟨_, rfl⟩ := h
            have s1 := hc _ _ _ hs
            have := Px.next_len h1
            have := Px.next_len h2
            have := s1.length_le
            exact ⟨(Px.next_suf k1).trans (s1.trans (Px.next_suf r)), by omega⟩
          · cases h
      · split at h
        · cases h
        · rename_i x k1 hn
          simp only [Except.ok.injEq, Prod.mk.injEq] at h
          obtain ⟨_, rfl⟩ := h
          exact Px.number_suf hn
theorem Px.item_suf {ch : Bs → Except Int (List (List Nd) × Bs)} (hc : Px.Suf ch) {r : Bs} {n : Nd} {k : Bs} (h : Px.item ch r = .ok (n, k)) : k <:+ r ∧ k.length < r.length := by
  unfold Px.item at h
  split at h
  · cases h
  · rename_i m k1 ha
    obtain ⟨s1, l1⟩ := Px.atom_suf hc ha
    split at h
    · simp only [Except.ok.injEq, Prod.mk.injEq] at h
      obtain ⟨_, rfl⟩ := h
      exact ⟨s1, l1⟩
    · simp only [Except.ok.injEq, Prod.mk.injEq] at h
      obtain ⟨_, rfl⟩ := h
      have := (Px.next_suf k1).length_le
      exact ⟨(Px.next_suf k1).trans s1, by omega⟩
theorem Px.row_suf {ch : Bs → Except Int (List (List Nd) × Bs)} (hc : Px.Suf ch) : ∀ (f : Nat) (acc : List Nd) (r : Bs) (l : List Nd) (k : Bs), Px.row ch f acc r = .ok (l, k) → k <:+ r
  | 0, _, _, _, _, h => by cases h
  | f + 1, acc, r, l, k, h => by
    rw [Px.row] at h
    have hs := Px.skip_suf r
    split at h
    · rename_i he
      simp only [Except.ok.injEq, Prod.mk.injEq] at h
      obtain ⟨_, rfl⟩ := h
      exact List.nil_suffix
    · rename_i c t he
      rw [he] at hs
      split at h
      · split at h
        · cases h
        · rename_i n k1 hi
          exact (Px.row_suf hc f _ k1 l k h).trans ((Px.item_suf hc hi).1.trans hs)
      · simp only [Except.ok.injEq, Prod.mk.injEq] at h
        obtain ⟨_, rfl⟩ := h
        exact hs
theorem Px.rows_suf {ch : Bs → Except Int (List (List Nd) × Bs)} (hc : Px.Suf ch) : ∀ (f : Nat) (acc : List (List Nd)) (r : Bs) (l : List (List Nd)) (k : Bs), Px.rows ch f acc r = .ok (l, k) → k <:+ r
  | 0, _, _, _, _, h => by cases h
  | f + 1, acc, r, l, k, h => by
    rw [Px.rows] at h
    split at h
    · cases h
    · rename_i row k1 hr
      have s1 := Px.row_suf hc _ _ _ _ _ hr
      split at h
      · exact (Px.rows_suf hc f _ _ l k h).trans ((Px.next_suf k1).trans s1)
      · simp only [Except.ok.injEq, Prod.mk.injEq] at h
        obtain ⟨_, rfl⟩ := h
        exact s1
theorem Px.choice_suf : ∀ d, Px.Suf (Px.choice d)
  | 0 => fun r c k h => by cases h
  | d + 1 => fun r c k h => Px.rows_suf (Px.choice_suf d) _ _ r c k h
end Go.Proofs.YtpmmhmgojjlniaaGreatDoor.Ar
