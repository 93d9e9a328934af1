/- Numbers by their digits, the pieces of a text between blanks, and what Parse says of a text. -/
import Derived.Test.YtpmmhmgojjlniaaGreatDoorQ03
import Derived.Lib.IndexLaws
import Derived.Lib.IndexBytes
import Derived.ChangeKeysEq
import Derived.Laws.AppendOwn
import Derived.Laws.AppendOwnNone
import Derived.Deep.AppendLies
namespace Go.Proofs.YtpmmhmgojjlniaaGreatDoor.Ar
open Go.RowKit
/-- Digits alone. -/
def Ad.digs (l : List UInt8) : Bool := l.all fun c => decide (48 ≤ c.toNat) && decide (c.toNat ≤ 57)
/-- A 0 ahead of others. -/
def Ad.zeroAhead (l : List UInt8) : Bool := decide (1 < l.length) && (l.head? == some 48)
/-- Is a text digits without a 0 ahead? -/
def Ad.isNum (l : List UInt8) : Bool := !l.isEmpty && !Ad.zeroAhead l && Ad.digs l
/-- The number of some digits. -/
def Ad.num (l : List UInt8) : Int := l.foldl (fun n c => 10 * n + ((c.toNat : Int) - 48)) 0

theorem Ad.size_list (s : ByteArray) : s.data.toList.length = s.size := by simp
theorem Ad.get_list (s : ByteArray) (k : Nat) (h : k < s.size) : s.data.toList[k]'(by simpa using h) = s[k] := rfl
theorem Ad.empty_iff (s : ByteArray) : s.toList.isEmpty = decide (s.size = 0) := by
  rw [ByteArray.toList_eq]
  obtain ⟨⟨l⟩⟩ := s
  cases l <;> simp [ByteArray.size]

/-- One byte is a digit. -/
def Ad.dig (c : UInt8) : Bool := decide (48 ≤ c.toNat) && decide (c.toNat ≤ 57)

theorem Ad.head_iff (s : ByteArray) (h : 0 < s.size) : s.data.toList.head? = some s[0] := by
  rw [← Ad.get_list s 0 h, List.head?_eq_getElem?]
  simp

theorem Ad.num_snoc (l : List UInt8) (c : UInt8) : Ad.num (l ++ [c]) = 10 * Ad.num l + ((c.toNat : Int) - 48) := by
  unfold Ad.num; rw [List.foldl_append]; rfl
theorem Ad.digs_snoc (l : List UInt8) (c : UInt8) : Ad.digs (l ++ [c]) = (Ad.digs l && Ad.dig c) := by
  unfold Ad.digs Ad.dig; simp [List.all_append]
theorem Ad.dig_bd (c : UInt8) (h : Ad.dig c = true) : (48 : Int) ≤ (c.toNat : Int) ∧ (c.toNat : Int) ≤ 57 := by
  simp [Ad.dig] at h
  omega

theorem Ad.num_bd (l : List UInt8) (h : Ad.digs l = true) : 0 ≤ Ad.num l ∧ Ad.num l < 10 ^ l.length := by
  have key : ∀ (n : Nat) (l : List UInt8), l.length = n → Ad.digs l = true → 0 ≤ Ad.num l ∧ Ad.num l < 10 ^ l.length := by
    intro n
    induction n with
    | zero =>
      intro l hl _
      obtain rfl := List.length_eq_zero_iff.1 hl
      simp [Ad.num]
    | succ n ih =>
      intro l hl hd
      obtain ⟨m, c, rfl⟩ : ∃ m c, l = m ++ [c] := ⟨l.dropLast, l.getLast (by intro h; rw [h] at hl; simp at hl), (List.dropLast_concat_getLast _).symm⟩
      rw [Ad.digs_snoc, Bool.and_eq_true] at hd
      have := ih m (by simpa using hl) hd.1
      have hc := Ad.dig_bd c hd.2
      rw [Ad.num_snoc, List.length_append]
      have hp : (10 : Int) ^ (m.length + [c].length) = 10 ^ m.length * 10 := Int.pow_succ 10 m.length
      rw [hp]
      omega
  exact key l.length l rfl h

theorem Ad.dec_step (m d : Nat) (hm : 1 ≤ m) (hd : d < 10) : Lib.decDigits (10 * m + d) = Lib.decDigits m ++ [UInt8.ofNat (48 + d)] := _root_.Go.Proofs.YtpmmhmgojjlniaaGreatDoor.Ar.dec_step m d hd (by omega)

theorem Ad.ofNat_dig (d : Nat) (h : d < 10) : (UInt8.ofNat (48 + d)).toNat = 48 + d := by
  rw [UInt8.toNat_ofNat']
  omega

theorem Ad.dig_ofNat (d : Nat) (h : d < 10) : Ad.dig (UInt8.ofNat (48 + d)) = true := by
  unfold Ad.dig
  rw [Ad.ofNat_dig d h]
  simp
  omega

theorem Ad.dec_all (u : Nat) : Ad.digs (Lib.decDigits u) = true ∧ Ad.num (Lib.decDigits u) = u ∧ Lib.decDigits u ≠ [] ∧ (10 ≤ u → (Lib.decDigits u).head? ≠ some 48) ∧ (1 ≤ u → (Lib.decDigits u).head? ≠ some 48) := by
  induction u using Nat.strongRecOn with
  | _ u ih =>
    by_cases h : u < 10
    · rw [Lib.decDigits_one h]
      refine ⟨?_, ?_, by simp, fun h' => by omega, ?_⟩
      · have := Ad.dig_ofNat u h
        simpa [Ad.digs, Ad.dig] using this
      · have := Ad.ofNat_dig u h
        simp only [Ad.num, List.foldl_cons, List.foldl_nil]
        rw [this]
        omega
      · intro h1 e
        have h2 : UInt8.ofNat (48 + u) = 48 := Option.some.inj e
        have h3 := Ad.ofNat_dig u h
        rw [h2] at h3
        have : (48 : UInt8).toNat = 48 := rfl
        omega
    · obtain ⟨i1, i2, i3, _, i5⟩ := ih (u / 10) (by omega)
      have e : u = 10 * (u / 10) + u % 10 := by omega
      have hs := Ad.dec_step (u / 10) (u % 10) (by omega) (by omega)
      rw [← e] at hs
      rw [hs]
      have hh : (Lib.decDigits (u / 10) ++ [UInt8.ofNat (48 + u % 10)]).head? ≠ some 48 := by
        have := i5 (by omega)
        cases hc : Lib.decDigits (u / 10) with
        | nil => exact absurd hc i3
        | cons x xs => rw [hc] at this; simpa using this
      refine ⟨?_, ?_, by simp, fun _ => hh, fun _ => hh⟩
      · rw [Ad.digs_snoc, i1, Ad.dig_ofNat _ (by omega)]
        rfl
      · rw [Ad.num_snoc, i2, Ad.ofNat_dig _ (by omega)]
        omega

/-- A number, at most a million. -/
def Ad.clampM (n : Int) : Int := if 1000000 < n then 1000000 else n
theorem isNum_digs {l : List UInt8} (h : Ad.isNum l = true) : Ad.digs l = true := by
  unfold Ad.isNum at h
  rw [Bool.and_eq_true] at h
  exact h.2

/-- The pieces of a text between blanks. -/
def Sp.split : List UInt8 → List (List UInt8)
  | [] => [[]]
  | c :: r => if c = 32 then [] :: Sp.split r else match Sp.split r with | f :: fs => (c :: f) :: fs | [] => [[c]]
theorem Sp.split_blank (r : List UInt8) : Sp.split (32 :: r) = [] :: Sp.split r := by simp [Sp.split]
theorem Sp.split_app : ∀ (a r : List UInt8), (32 : UInt8) ∉ a → Sp.split (a ++ 32 :: r) = a :: Sp.split r
  | [], r, _ => Sp.split_blank r
  | c :: a, r, h => by
    simp only [List.mem_cons, not_or] at h
    have ih := Sp.split_app a r h.2
    rw [List.cons_append, Sp.split, if_neg (fun e => h.1 e.symm), ih]
theorem Sp.split_one : ∀ (a : List UInt8), (32 : UInt8) ∉ a → Sp.split a = [a]
  | [], _ => rfl
  | c :: a, h => by
    simp only [List.mem_cons, not_or] at h
    rw [Sp.split, if_neg (fun e => h.1 e.symm), Sp.split_one a h.2]
/-- What Parse says of a text. -/
def Is.parse (l : List UInt8) : List Int × Int :=
  if l = [] then ([], 0) else
  if (Sp.split l).all Ad.isNum = true then
    (if ((Sp.split l).map Ad.num).all Is.as = true then (if 16 < (Sp.split l).length then ([], 2) else ((Sp.split l).map Ad.num, 0)) else ([], 7))
  else ([], 4)
theorem Is.parse_bad (l : List UInt8) (h0 : l ≠ []) (f : List UInt8) (hf : f ∈ Sp.split l) (hn : Ad.isNum f = false) (y : List Int) (q : Int) (h : Is.parse l = (y, q)) : y = [] ∧ q = 4 := by
  have ha : (Sp.split l).all Ad.isNum = false := by rw [List.all_eq_false]; exact ⟨f, hf, by rw [hn]; decide⟩
  unfold Is.parse at h
  rw [if_neg h0, ha] at h
  simp at h
  exact ⟨h.1, h.2.symm⟩
theorem Is.as_clamp (n : Int) : Is.as (Ad.clampM n) = Is.as n ∧ (Is.as n = true → Ad.clampM n = n) := by
  constructor
  · rw [Bool.eq_iff_iff, Is.as_iff, Is.as_iff]
    unfold Ad.clampM
    split <;> omega
  · intro h
    have := (Is.as_iff n).1 h
    unfold Ad.clampM
    rw [if_neg (by omega)]
end Go.Proofs.YtpmmhmgojjlniaaGreatDoor.Ar
namespace Go.Proofs.YtpmmhmgojjlniaaGreatDoor.Ar
/-- A part of a set: from, to, and whether two were told. -/
abbrev Prt : Type := Int × Int × Bool
/-- A node of an expression: numbers, a choice of rows, or what is told by a sign behind a node. -/
inductive Nd where
  | num (dot set : Bool) (rs : List Prt)
  | ch (rows : List (List Nd))
  | st (k : Nat) (n : Nd)

abbrev Bs : Type := List UInt8
def Px.skip (r : Bs) : Bs := r.dropWhile fun c => c == 32
def Px.isAt (r : Bs) (c : UInt8) : Bool := (Px.skip r).head? == some c
def Px.next (r : Bs) : Bs := (Px.skip r).tail
def Px.digits (r : Bs) : Bs := (Px.skip r).takeWhile Ad.dig
def Px.number (r : Bs) : Except Int (Int × Bs) :=
  if Ad.isNum (Px.digits r) = true then (if Is.as (Ad.num (Px.digits r)) = true then .ok (Ad.num (Px.digits r), (Px.skip r).drop (Px.digits r).length) else .error 7) else .error 4
def Px.set : Nat → List Prt → Bs → Except Int (List Prt × Bs)
  | 0, _, _ => .error 4
  | f + 1, acc, r =>
    if acc ≠ [] ∧ Px.isAt r 93 = true then .ok (acc, Px.next r) else
    match Px.number r with
    | .error e => .error e
    | .ok (a, k) =>
      if Px.isAt k 45 = true then
        match Px.number (Px.next k) with
        | .error e => .error e
        | .ok (b, k2) => if b < a then .error 7 else Px.set f (acc ++ [(a, b, true)]) k2
      else Px.set f (acc ++ [(a, a, false)]) k
def Px.starts (c : UInt8) : Bool := c == 46 || c == 91 || c == 40 || Ad.dig c
def Px.atom (ch : Bs → Except Int (List (List Nd) × Bs)) (r : Bs) : Except Int (Nd × Bs) :=
  if Px.isAt r 46 = true then .ok (.num true false [(1, 65535, true)], Px.next r)
  else if Px.isAt r 91 = true then
    match Px.set ((Px.next r).length + 1) [] (Px.next r) with
    | .error e => .error e
    | .ok (rs, k) => .ok (.num false true rs, k)
  else if Px.isAt r 40 = true then
    match ch (Px.next r) with
    | .error e => .error e
    | .ok (c, k) => if Px.isAt k 41 = true then .ok (.ch c, Px.next k) else .error 4
  else
    match Px.number r with
    | .error e => .error e
    | .ok (x, k) => .ok (.num false false [(x, x, false)], k)
def Px.sign (r : Bs) : Nat := if Px.isAt r 42 = true then 3 else if Px.isAt r 43 = true then 4 else if Px.isAt r 63 = true then 5 else 0
def Px.item (ch : Bs → Except Int (List (List Nd) × Bs)) (r : Bs) : Except Int (Nd × Bs) :=
  match Px.atom ch r with
  | .error e => .error e
  | .ok (n, k) => if Px.sign k = 0 then .ok (n, k) else .ok (.st (Px.sign k) n, Px.next k)
def Px.row (ch : Bs → Except Int (List (List Nd) × Bs)) : Nat → List Nd → Bs → Except Int (List Nd × Bs)
  | 0, _, _ => .error 4
  | f + 1, acc, r =>
    match Px.skip r with
    | [] => .ok (acc, [])
    | c :: t =>
      if Px.starts c = true then
        match Px.item ch (c :: t) with
        | .error e => .error e
        | .ok (n, k) => Px.row ch f (acc ++ [n]) k
      else .ok (acc, c :: t)
def Px.rows (ch : Bs → Except Int (List (List Nd) × Bs)) : Nat → List (List Nd) → Bs → Except Int (List (List Nd) × Bs)
  | 0, _, _ => .error 4
  | f + 1, acc, r =>
    match Px.row ch (r.length + 1) [] r with
    | .error e => .error e
    | .ok (row, k) => if Px.isAt k 124 = true then Px.rows ch f (acc ++ [row]) (Px.next k) else .ok (acc ++ [row], k)
/-- A choice, so many deep. -/
def Px.choice : Nat → Bs → Except Int (List (List Nd) × Bs)
  | 0, _ => .error 2
  | d + 1, r => Px.rows (Px.choice d) (r.length + 1) [] r
def Px.parse (s : Bs) : Except Int (Bool × Bool × List (List Nd)) :=
  if 64 < s.length then .error 2 else
  match Px.choice 8 (if Px.isAt s 94 = true then Px.next s else s) with
  | .error e => .error e
  | .ok (c, k) => if Px.skip (if Px.isAt k 36 = true then Px.next k else k) = [] then .ok (Px.isAt s 94, Px.isAt k 36, c) else .error 4

theorem Px.skip_suf (r : Bs) : Px.skip r <:+ r := List.dropWhile_suffix _
theorem Px.skip_idem (r : Bs) : Px.skip (Px.skip r) = Px.skip r := by
  unfold Px.skip
  induction r with
  | nil => rfl
  | cons c t ih =>
    rw [List.dropWhile_cons]
    split
    · exact ih
    · rename_i h
      rw [List.dropWhile_cons, if_neg h]
theorem Px.isAt_some {r : Bs} {c : UInt8} (h : Px.isAt r c = true) : ∃ t, Px.skip r = c :: t ∧ Px.next r = t := by
  unfold Px.isAt at h
  cases hs : Px.skip r with
  | nil => rw [hs] at h; simp at h
  | cons d t =>
    rw [hs] at h
    simp at h
    subst h
    exact ⟨t, rfl, by unfold Px.next; rw [hs]; rfl⟩
theorem Px.next_suf (r : Bs) : Px.next r <:+ r := (List.tail_suffix _).trans (Px.skip_suf r)
theorem Px.next_len {r : Bs} {c : UInt8} (h : Px.isAt r c = true) : (Px.next r).length < r.length := by
  obtain ⟨t, h1, h2⟩ := Px.isAt_some h
  have := (Px.skip_suf r).length_le
  rw [h1, List.length_cons] at this
  rw [h2]
  omega
theorem Px.skip_skip_isAt (r : Bs) (c : UInt8) : Px.isAt (Px.skip r) c = Px.isAt r c := by unfold Px.isAt; rw [Px.skip_idem]
theorem Px.number_suf {r : Bs} {x : Int} {k : Bs} (h : Px.number r = .ok (x, k)) : k <:+ r ∧ k.length < r.length := by
  unfold Px.number at h
  split at h
  · rename_i hn
    split at h
    · simp only [Except.ok.injEq, Prod.mk.injEq] at h
      obtain ⟨_, rfl⟩ := h
      have hs := Px.skip_suf r
      refine ⟨(List.drop_suffix _ _).trans hs, ?_⟩
      have hne : Px.digits r ≠ [] := by intro e; rw [e] at hn; cases hn
      have hpos := List.length_pos_iff.2 hne
      have hle : (Px.digits r).length ≤ (Px.skip r).length := (List.takeWhile_prefix _).length_le
      have := hs.length_le
      rw [List.length_drop]
      omega
    · cases h
  · cases h
theorem Px.set_suf : ∀ (f : Nat) (acc : List Prt) (r : Bs) (rs : List Prt) (k : Bs), Px.set f acc r = .ok (rs, k) → k <:+ r ∧ k.length < r.length
  | 0, _, _, _, _, h => by cases h
  | f + 1, acc, r, rs, k, h => by
    rw [Px.set] at h
    split at h
    · rename_i hc
      simp only [Except.ok.injEq, Prod.mk.injEq] at h
      obtain ⟨_, rfl⟩ := h
      exact ⟨Px.next_suf r, Px.next_len hc.2⟩
    · split at h
      · cases h
      · rename_i a k1 hn
        obtain ⟨s1, l1⟩ := Px.number_suf hn
        split at h
        · rename_i hm
          split at h
          · cases h
          · rename_i b k2 hn2
            obtain ⟨s2, l2⟩ := Px.number_suf hn2
            have s3 := Px.next_suf k1
            have l3 := Px.next_len hm
            split at h
            · cases h
            · obtain ⟨s4, l4⟩ := Px.set_suf f _ k2 rs k h
              exact ⟨s4.trans (s2.trans (s3.trans s1)), by omega⟩
        · obtain ⟨s4, l4⟩ := Px.set_suf f _ k1 rs k h
          exact ⟨s4.trans s1, by omega⟩
/-- A reader that leaves an end of what it was handed. -/
def Px.Suf (ch : Bs → Except Int (List (List Nd) × Bs)) : Prop := ∀ r c k, ch r = .ok (c, k) → k <:+ r
theorem Px.atom_suf {ch : Bs → Except Int (List (List Nd) × Bs)} (hc : Px.Suf ch) {r : Bs} {n : Nd} {k : Bs} (h : Px.atom ch r = .ok (n, k)) : k <:+ r ∧ k.length < r.length := by
  unfold Px.atom at h
  split at h
  · rename_i h1
    simp only [Except.ok.injEq, Prod.mk.injEq] at h
    obtain ⟨_, rfl⟩ := h
    exact ⟨Px.next_suf r, Px.next_len h1⟩
  · split at h
    · rename_i h1
      split at h
      · cases h
      · rename_i rs k1 hs
        simp only [Except.ok.injEq, Prod.mk.injEq] at h
        obtain ⟨_, rfl⟩ := h
        obtain ⟨s1, l1⟩ := Px.set_suf _ _ _ _ _ hs
        have := Px.next_len h1
        exact ⟨s1.trans (Px.next_suf r), by omega⟩
    · split at h
      · rename_i h1
        split at h
        · cases h
        · rename_i c k1 hs
          split at h
          · rename_i h2
            simp only [Except.ok.injEq, Prod.mk.injEq] at h
            obtain ⟨_, rfl⟩ := h
            have s1 := hc _ _ _ hs
            have := Px.next_len h1
            have := Px.next_len h2
            have := s1.length_le
            exact ⟨(Px.next_suf k1).trans (s1.trans (Px.next_suf r)), by omega⟩
          · cases h
      · split at h
        · cases h
        · rename_i x k1 hn
          simp only [Except.ok.injEq, Prod.mk.injEq] at h
          obtain ⟨_, rfl⟩ := h
          exact Px.number_suf hn
theorem Px.item_suf {ch : Bs → Except Int (List (List Nd) × Bs)} (hc : Px.Suf ch) {r : Bs} {n : Nd} {k : Bs} (h : Px.item ch r = .ok (n, k)) : k <:+ r ∧ k.length < r.length := by
  unfold Px.item at h
  split at h
  · cases h
  · rename_i m k1 ha
    obtain ⟨s1, l1⟩ := Px.atom_suf hc ha
    split at h
    · simp only [Except.ok.injEq, Prod.mk.injEq] at h
      obtain ⟨_, rfl⟩ := h
      exact ⟨s1, l1⟩
    · simp only [Except.ok.injEq, Prod.mk.injEq] at h
      obtain ⟨_, rfl⟩ := h
      have := (Px.next_suf k1).length_le
      exact ⟨(Px.next_suf k1).trans s1, by omega⟩
theorem Px.row_suf {ch : Bs → Except Int (List (List Nd) × Bs)} (hc : Px.Suf ch) : ∀ (f : Nat) (acc : List Nd) (r : Bs) (l : List Nd) (k : Bs), Px.row ch f acc r = .ok (l, k) → k <:+ r
  | 0, _, _, _, _, h => by cases h
  | f + 1, acc, r, l, k, h => by
    rw [Px.row] at h
    have hs := Px.skip_suf r
    split at h
    · rename_i he
      simp only [Except.ok.injEq, Prod.mk.injEq] at h
      obtain ⟨_, rfl⟩ := h
      exact List.nil_suffix
    · rename_i c t he
      rw [he] at hs
      split at h
      · split at h
        · cases h
        · rename_i n k1 hi
          exact (Px.row_suf hc f _ k1 l k h).trans ((Px.item_suf hc hi).1.trans hs)
      · simp only [Except.ok.injEq, Prod.mk.injEq] at h
        obtain ⟨_, rfl⟩ := h
        exact hs
theorem Px.rows_suf {ch : Bs → Except Int (List (List Nd) × Bs)} (hc : Px.Suf ch) : ∀ (f : Nat) (acc : List (List Nd)) (r : Bs) (l : List (List Nd)) (k : Bs), Px.rows ch f acc r = .ok (l, k) → k <:+ r
  | 0, _, _, _, _, h => by cases h
  | f + 1, acc, r, l, k, h => by
    rw [Px.rows] at h
    split at h
    · cases h
    · rename_i row k1 hr
      have s1 := Px.row_suf hc _ _ _ _ _ hr
      split at h
      · exact (Px.rows_suf hc f _ _ l k h).trans ((Px.next_suf k1).trans s1)
      · simp only [Except.ok.injEq, Prod.mk.injEq] at h
        obtain ⟨_, rfl⟩ := h
        exact s1
theorem Px.choice_suf : ∀ d, Px.Suf (Px.choice d)
  | 0 => fun r c k h => by cases h
  | d + 1 => fun r c k h => Px.rows_suf (Px.choice_suf d) _ _ r c k h
end Go.Proofs.YtpmmhmgojjlniaaGreatDoor.Ar
namespace Go.Proofs.YtpmmhmgojjlniaaGreatDoor.Ar
/-- Pieces one after another, any number of them. -/
inductive Many (P : List Int → Prop) : List Int → Prop
  | nil : Many P []
  | cons {a b : List Int} : P a → Many P b → Many P (a ++ b)
def Plus (P : List Int → Prop) (p : List Int) : Prop := ∃ a b, p = a ++ b ∧ P a ∧ Many P b
mutual
def Nd.Met : Nd → List Int → Prop
  | .num _ _ rs, p => ∃ n, p = [n] ∧ ∃ r ∈ rs, r.1 ≤ n ∧ n ≤ r.2.1
  | .ch rows, p => Nd.MetRows rows p
  | .st k n, p => if k = 5 then p = [] ∨ Nd.Met n p else if k = 3 then Many (fun q => Nd.Met n q) p else Plus (fun q => Nd.Met n q) p
def Nd.MetRow : List Nd → List Int → Prop
  | [], p => p = []
  | n :: r, p => ∃ a b, p = a ++ b ∧ Nd.Met n a ∧ Nd.MetRow r b
def Nd.MetRows : List (List Nd) → List Int → Prop
  | [], _ => False
  | l :: r, p => Nd.MetRow l p ∨ Nd.MetRows r p
end
/-- A path meets an expression. -/
def Ex.Meets (x : Bool × Bool × List (List Nd)) (p : List Int) : Prop := ∃ a b c, p = a ++ b ++ c ∧ Nd.MetRows x.2.2 b ∧ (x.1 = true → a = []) ∧ (x.2.1 = true → c = [])

end Go.Proofs.YtpmmhmgojjlniaaGreatDoor.Ar
namespace Go.Proofs.YtpmmhmgojjlniaaGreatDoor.Ar
def Px.pair (p : Prt) : Bs := if p.2.2 = true then Lib.itoa p.1 ++ 45 :: Lib.itoa p.2.1 else Lib.itoa p.1
def Px.pairs : List Prt → Bs
  | [] => []
  | [p] => Px.pair p
  | p :: q :: r => Px.pair p ++ 32 :: Px.pairs (q :: r)
def Px.signText (k : Nat) : Bs := if k = 3 then [42] else if k = 4 then [43] else [63]
mutual
def Nd.text : Nd → Bs
  | .num dot set rs => if dot = true then [46] else if set = true then 91 :: (Px.pairs rs ++ [93]) else Px.pairs rs
  | .ch rows => 40 :: (Nd.rowsText rows ++ [41])
  | .st k n => Nd.text n ++ Px.signText k
def Nd.rowText : List Nd → Bs
  | [] => []
  | n :: r => Nd.text n ++ Nd.moreText r
def Nd.moreText : List Nd → Bs
  | [] => []
  | n :: r => 32 :: (Nd.text n ++ Nd.moreText r)
def Nd.rowsText : List (List Nd) → Bs
  | [] => []
  | l :: r => Nd.rowText l ++ Nd.alsoText r
def Nd.alsoText : List (List Nd) → Bs
  | [] => []
  | l :: r => 124 :: (Nd.rowText l ++ Nd.alsoText r)
end
def Px.goodPair (p : Prt) : Prop := Is.as p.1 = true ∧ Is.as p.2.1 = true ∧ p.1 ≤ p.2.1 ∧ (p.2.2 = false → p.1 = p.2.1)
mutual
/-- What the reader makes, so many deep. -/
def Nd.Good : Nat → Nd → Prop
  | _, .num dot set rs => (dot = true ∧ set = false ∧ rs = [(1, 65535, true)]) ∨ (dot = false ∧ set = true ∧ rs ≠ [] ∧ ∀ p ∈ rs, Px.goodPair p) ∨ (dot = false ∧ set = false ∧ ∃ x, rs = [(x, x, false)] ∧ Is.as x = true)
  | 0, .ch _ => False
  | d + 1, .ch rows => rows ≠ [] ∧ Nd.GoodRows d rows
  | d, .st k n => (k = 3 ∨ k = 4 ∨ k = 5) ∧ (∀ j m, n ≠ .st j m) ∧ Nd.Good d n
def Nd.GoodRow : Nat → List Nd → Prop
  | _, [] => True
  | d, n :: r => Nd.Good d n ∧ Nd.GoodRow d r
def Nd.GoodRows : Nat → List (List Nd) → Prop
  | _, [] => True
  | d, l :: r => Nd.GoodRow d l ∧ Nd.GoodRows d r
end
end Go.Proofs.YtpmmhmgojjlniaaGreatDoor.Ar
namespace Go.Proofs.YtpmmhmgojjlniaaGreatDoor.Ar
open Go.RowKit Go.Sort
/-- A slice that came in: nil has no room, and no place within a place. -/
def came (ao : Option Addr) (cap : Nat) : Prop := (ao = none → cap = 0) ∧ (∀ ad, ao = some ad → ad.spot = none)
theorem came_some (g o c : Nat) : came (some ⟨g, o, none⟩) c := ⟨fun h => (by cases h), fun ad h => (by cases h; rfl)⟩
theorem infoI : (Tryz.prog.info? 3).map (fun i => (i.zero, i.size, i.bytes)) = some (some (.int .i64 0), 1, 8) := by kernel_rfl
theorem info_partsI : ∃ i0 : TypeInfo, Tryz.prog.info? 3 = some i0 ∧ i0.zero = some (.int .i64 0) ∧ i0.size = 1 ∧ i0.bytes = 8 := by
  have h := infoI
  cases hi : Tryz.prog.info? 3 with
  | none => rw [hi] at h; cases h
  | some i0 =>
    rw [hi] at h
    simp only [Option.map_some, Option.some.injEq, Prod.mk.injEq] at h
    exact ⟨i0, rfl, h.1, h.2.1, h.2.2⟩
theorem Is.cells_get (l : List Int) (j : Nat) (u : Value) (h : (Is.cells l)[j]? = some u) : ∃ hj : j < l.length, u = .int .i64 l[j] := by
  have hj : j < l.length := by have := (List.getElem?_eq_some_iff.1 h).1; rwa [Is.cells_length] at this
  refine ⟨hj, ?_⟩
  simp [Is.cells, hj] at h
  exact h.symm

/-- Numbers put behind a row of the call's own. -/
theorem append_ints {w w0 : World} {ops : Array Oper} {rest : List Oper} {o : Oper} {a : Act} {Q : Exit → Act → World → Prop} (hgd : o.guard = none) (s x : Operand)
    (ho : o.op = .call { callee := .builtin .append, args := #[s, x], argTypes := #[57, 57] }) (v : Value) (n : Nat) (xs : List Int) (hs : a.eval s = v) (hown : w.ownsRow w0.heap.size 3 1 v n (Is.cells xs))
    (ao : Option Addr) (nl cap : Nat) (l : List Int) (hx : a.eval x = .slice ao nl cap) (hnl : l.length = nl) (hR : Is.slot w ao l) (hC : came ao cap) (hn : n + nl ≤ 1000000) (hb : Below w0.heap.size w0 w)
    (h : ∀ v' w', w'.ownsRow w0.heap.size 3 1 v' (n + nl) (Is.cells (xs ++ l)) → Below w0.heap.size w0 w' → wpList Tryz.prog ops Q rest (a.put o.dst v') w') : wpList Tryz.prog ops Q (o :: rest) a w := by
  subst hnl
  obtain ⟨i0, hi, hz0, hz1, hz2⟩ := info_partsI
  cases ao with
  | none =>
    have hl : l = [] := by
      rcases hR with h | ⟨b, off, h, _⟩
      · exact h
      · cases h
    subst hl
    rw [hC.1 rfl] at hx
    refine wpList_append_own_none hgd s x 57 ho w0.heap.size 3 i0 1 Tryz.underlying57 hi v n (Is.cells xs) hs hown hx ?_
    exact h v w (by simpa using hown) hb
  | some ad =>
    obtain ⟨b, off, sp⟩ := ad
    obtain rfl : sp = none := hC.2 _ rfl
    have hrd : ∀ j u, (Is.cells l)[j]? = some u → w.cell? ((⟨b, off, none⟩ : Addr).add j) = some u := by
      intro j u hu
      obtain ⟨hj, rfl⟩ := Is.cells_get l j u hu
      rcases hR with h | ⟨b', off', h, hr⟩
      · rw [h] at hj; simp at hj
      · simp only [Option.some.injEq, Addr.mk.injEq, and_true] at h
        rw [show (⟨b, off, none⟩ : Addr).add j = ⟨b, off + j, none⟩ by unfold Addr.add; split <;> simp_all, h.1, h.2]
        exact hr j hj
    refine wpList_append_own w hgd s x 57 ho w0.heap.size 3 i0 _ 1 8 Tryz.underlying57 hi hz0 hz1 hz2 rfl (by decide) v n (Is.cells xs) hs hown ⟨b, off, none⟩ l.length cap (Is.cells l) hx (by rw [Is.cells_length, Nat.mul_one]) hrd (Is.cells_one l) (by unfold maxLen; omega) (by omega) hb.size ?_
    intro v' w' ho' hg _
    refine h v' w' ?_ (Below.grown hb hg hb.size fun k hk => (hown.lt k hk).1)
    rw [Is.cells_app]
    exact ho'
theorem Is.slot_one (W : World) (n : Int) (t : TypeId) : Is.slot (W.alloc (.cells #[.int .i64 n] t)) (some ⟨W.heap.size, 0, none⟩) [n] := by
  refine .inr ⟨_, 0, rfl, fun j hj => ?_⟩
  obtain rfl : j = 0 := by simp at hj; omega
  simp

end Go.Proofs.YtpmmhmgojjlniaaGreatDoor.Ar
namespace Go.Proofs.YtpmmhmgojjlniaaGreatDoor.Ar
open Go.RowKit Go.Sort
abbrev Xp : Type := Bool × Bool × List (List Nd)
mutual
def Nd.size : Nd → Nat
  | .num _ _ _ => 1
  | .ch rows => Nd.sizeRows rows
  | .st _ n => Nd.size n
def Nd.sizeRow : List Nd → Nat
  | [] => 0
  | n :: r => Nd.size n + Nd.sizeRow r
def Nd.sizeRows : List (List Nd) → Nat
  | [] => 0
  | l :: r => Nd.sizeRow l + Nd.sizeRows r
end
def X1 : Xp := (true, true, [[.num false false [(65000, 65000, false)], .st 3 (.num true false [(1, 65535, true)])]])
def X2 : Xp := (false, false, [[.st 4 (.ch [[.num false false [(1, 1, false)]], [.num false false [(2, 2, false)]]]), .num false false [(3, 3, false)]]])
theorem m1 : Ex.Meets X1 [65000, 1, 2] := by
  refine ⟨[], [65000, 1, 2], [], rfl, ?_, fun _ => rfl, fun _ => rfl⟩
  simp only [X1, Nd.MetRows, Nd.MetRow, or_false]
  refine ⟨[65000], [1, 2], rfl, ?_, [1, 2], [], rfl, ?_, rfl⟩
  · rw [Nd.Met]
    exact ⟨65000, rfl, (65000, 65000, false), by simp, by decide, by decide⟩
  · rw [Nd.Met, if_neg (by decide), if_pos rfl]
    refine Many.cons (a := [1]) (b := [2]) ?_ (Many.cons (a := [2]) (b := []) ?_ .nil)
    · rw [Nd.Met]
      exact ⟨1, rfl, (1, 65535, true), by simp, by decide, by decide⟩
    · rw [Nd.Met]
      exact ⟨2, rfl, (1, 65535, true), by simp, by decide, by decide⟩
theorem m2 : ¬ Ex.Meets X1 [1, 65000] := by
  rintro ⟨a, b, c, hp, h, h1, h2⟩
  rw [h1 rfl, h2 rfl] at hp
  simp only [List.nil_append, List.append_nil] at hp
  subst hp
  simp only [X1, Nd.MetRows, Nd.MetRow, or_false] at h
  obtain ⟨a, b, hp, ha, _⟩ := h
  rw [Nd.Met] at ha
  obtain ⟨n, rfl, r, hr, h3, h4⟩ := ha
  simp at hp hr
  obtain ⟨rfl, _⟩ := hp
  subst hr
  simp at h3
theorem m3 : Ex.Meets X2 [7, 1, 2, 3, 9] := by
  refine ⟨[7], [1, 2, 3], [9], rfl, ?_, fun e => (by cases e), fun e => (by cases e)⟩
  simp only [X2, Nd.MetRows, Nd.MetRow, or_false]
  have hn : ∀ k : Int, Nd.Met (.num false false [(k, k, false)]) [k] := by
    intro k
    rw [Nd.Met]
    exact ⟨k, rfl, (k, k, false), by simp, Int.le_refl _, Int.le_refl _⟩
  refine ⟨[1, 2], [3], rfl, ?_, [3], [], rfl, hn 3, rfl⟩
  rw [Nd.Met, if_neg (by decide), if_neg (by decide)]
  refine ⟨[1], [2], rfl, ?_, Many.cons (a := [2]) (b := []) ?_ .nil⟩
  · simp only [Nd.Met, Nd.MetRows, Nd.MetRow, or_false]
    exact .inl ⟨[1], [], rfl, by have := hn 1; rwa [Nd.Met] at this, rfl⟩
  · simp only [Nd.Met, Nd.MetRows, Nd.MetRow, or_false]
    exact .inr ⟨[2], [], rfl, by have := hn 2; rwa [Nd.Met] at this, rfl⟩
end Go.Proofs.YtpmmhmgojjlniaaGreatDoor.Ar
namespace Go.Proofs.YtpmmhmgojjlniaaGreatDoor.Ar
open Go.RowKit Go.Sort
/-- A tree as the document's functions hold it: a kind, two marks, pairs of numbers, kids. -/
inductive Tr where
  | mk (k : Int) (d s : Bool) (f t : List Int) (ks : List Tr)
mutual
def Nd.tr : Nd → Tr
  | .num d s rs => .mk 0 d s (rs.map Prod.fst) (rs.map fun p => p.2.1) []
  | .ch rows => .mk 2 false false [] [] (Nd.trRows rows)
  | .st k n => .mk k false false [] [] [Nd.tr n]
def Nd.trRow : List Nd → List Tr
  | [] => []
  | n :: r => Nd.tr n :: Nd.trRow r
def Nd.trRows : List (List Nd) → List Tr
  | [] => []
  | l :: r => .mk 1 false false [] [] (Nd.trRow l) :: Nd.trRows r
end
mutual
def Tr.size : Tr → Nat
  | .mk k _ _ _ _ ks => if k = 0 then 1 else Tr.sizes ks
def Tr.sizes : List Tr → Nat
  | [] => 0
  | t :: r => Tr.size t + Tr.sizes r
end
/-- A row of cells read there. -/
def Six (w : World) (b off : Nat) (cs : List Value) : Prop := ∀ j (h : j < cs.length), w.cell? ⟨b, off + j, none⟩ = some cs[j]
/-- A tree that lies in memory below these six cells. -/
inductive Tr.At (w : World) : Tr → List Value → Prop
  | mk {k : Int} {d s : Bool} {f t : List Int} {ks : List Tr} {fo : Option Addr} {fc : Nat} {to : Option Addr} {tc : Nat} {ko : Option Addr} {kc : Nat} (b off : Nat) (css : Nat → List Value)
    (hn : f.length ≤ 100000 ∧ t.length ≤ 100000 ∧ ks.length ≤ 100000) (hf : Is.slot w fo f) (ht : Is.slot w to t) (hk : ks = [] ∨ ko = some ⟨b, off, none⟩) (hr : ∀ i, i < ks.length → Six w b (off + i * 6) (css i)) (ha : ∀ i (h : i < ks.length), Tr.At w ks[i] (css i)) :
    Tr.At w (.mk k d s f t ks) [.int .i64 k, .bool d, .bool s, .slice fo f.length fc, .slice to t.length tc, .slice ko ks.length kc]
/-- A node's six cells in a block of its own. -/
def Box (w : World) (b : Nat) (x0 x1 x2 x3 x4 x5 : Value) : Prop := w.cell? ⟨b, 0, none⟩ = some x0 ∧ w.cell? ⟨b, 1, none⟩ = some x1 ∧ w.cell? ⟨b, 2, none⟩ = some x2 ∧ w.cell? ⟨b, 3, none⟩ = some x3 ∧ w.cell? ⟨b, 4, none⟩ = some x4 ∧ w.cell? ⟨b, 5, none⟩ = some x5
theorem box_new (W : World) (x0 x1 x2 x3 x4 x5 : Value) (t : TypeId) : Box (W.alloc (.cells #[x0, x1, x2, x3, x4, x5] t)) W.heap.size x0 x1 x2 x3 x4 x5 := by
  refine ⟨?_, ?_, ?_, ?_, ?_, ?_⟩ <;> simp
theorem box_below {w w' : World} {b : Nat} {x0 x1 x2 x3 x4 x5 : Value} (h : Box w b x0 x1 x2 x3 x4 x5) (hb : Below w.heap.size w w') : Box w' b x0 x1 x2 x3 x4 x5 := by
  have hl := block_lt_of_cell h.1
  obtain ⟨h0, h1, h2, h3, h4, h5⟩ := h
  exact ⟨(hb.cell (p := ⟨b, 0, none⟩) hl).trans h0, (hb.cell (p := ⟨b, 1, none⟩) hl).trans h1, (hb.cell (p := ⟨b, 2, none⟩) hl).trans h2, (hb.cell (p := ⟨b, 3, none⟩) hl).trans h3, (hb.cell (p := ⟨b, 4, none⟩) hl).trans h4, (hb.cell (p := ⟨b, 5, none⟩) hl).trans h5⟩
end Go.Proofs.YtpmmhmgojjlniaaGreatDoor.Ar
namespace Go.Proofs.YtpmmhmgojjlniaaGreatDoor.Ar
open Go.RowKit Go.Sort
/-- At place n of a text the bytes r are left. -/
def Pos (s : ByteArray) (n : Nat) (r : Bs) : Prop := s.data.toList.drop n = r ∧ n ≤ s.size
theorem Pos.start (s : ByteArray) : Pos s 0 s.data.toList := ⟨rfl, Nat.zero_le _⟩
theorem Pos.len {s : ByteArray} {n : Nat} {r : Bs} (h : Pos s n r) : n + r.length = s.size := by
  have := congrArg List.length h.1
  rw [List.length_drop, Ad.size_list] at this
  have := h.2
  omega
theorem Pos.cons {s : ByteArray} {n : Nat} {c : UInt8} {t : Bs} (h : Pos s n (c :: t)) : ∃ hn : n < s.size, s[n] = c ∧ Pos s (n + 1) t := by
  have hl := h.len
  rw [List.length_cons] at hl
  have hn : n < s.size := by omega
  refine ⟨hn, ?_, ?_, by omega⟩
  · have hd := h.1
    rw [List.drop_eq_getElem_cons (by rw [Ad.size_list]; exact hn)] at hd
    have := (List.cons.inj hd).1
    rw [Ad.get_list s n hn] at this
    exact this
  · have hd := h.1
    rw [List.drop_eq_getElem_cons (by rw [Ad.size_list]; exact hn)] at hd
    exact (List.cons.inj hd).2
theorem Pos.nil {s : ByteArray} {n : Nat} (h : Pos s n []) : n = s.size := by simpa using h.len
theorem Pos.suf {s : ByteArray} {n : Nat} {r k : Bs} (h : Pos s n r) (hk : k <:+ r) : Pos s (s.size - k.length) k := by
  refine ⟨?_, by omega⟩
  obtain ⟨p, rfl⟩ := hk
  have hl := h.len
  rw [List.length_append] at hl
  have hd := h.1
  rw [show s.size - k.length = n + p.length by omega, ← List.drop_drop, hd]
  simp
theorem Pos.uniq {s : ByteArray} {n m : Nat} {r : Bs} (h : Pos s n r) (h2 : Pos s m r) : n = m := by
  have := h.len
  have := h2.len
  omega

theorem Pos.skip {s : ByteArray} {n : Nat} {r : Bs} (h : Pos s n r) : Pos s (s.size - (Px.skip r).length) (Px.skip r) := h.suf (Px.skip_suf r)

end Go.Proofs.YtpmmhmgojjlniaaGreatDoor.Ar
