/- What numbers meet: the mathematics. -/
import Derived.Test.YtpmmhmgojjlniaaGreatDoorO09
namespace Go.Proofs.YtpmmhmgojjlniaaGreatDoor.Ar

/-- Pieces one after another, any number of them. -/
inductive Many (P : List Int → Prop) : List Int → Prop
  | nil : Many P []
  | cons {a b : List Int} : P a → Many P b → Many P (a ++ b)
def Plus (P : List Int → Prop) (p : List Int) : Prop := ∃ a b, p = a ++ b ∧ P a ∧ Many P b
mutual
def Nd.Met : Nd → List Int → Prop
  | .num _ _ rs, p => ∃ n, p = [n] ∧ ∃ r ∈ rs, r.1 ≤ n ∧ n ≤ r.2.1
  | .ch rows, p => Nd.MetRows rows p
  | .st k n, p => if k = 5 then p = [] ∨ Nd.Met n p else if k = 3 then Many (fun q => Nd.Met n q) p else Plus (fun q => Nd.Met n q) p
def Nd.MetRow : List Nd → List Int → Prop
  | [], p => p = []
  | n :: r, p => ∃ a b, p = a ++ b ∧ Nd.Met n a ∧ Nd.MetRow r b
def Nd.MetRows : List (List Nd) → List Int → Prop
  | [], _ => False
  | l :: r, p => Nd.MetRow l p ∨ Nd.MetRows r p
end
/-- All of a path meets an expression's choice. -/
def Ex.Whole (x : Bool × Bool × List (List Nd)) (p : List Int) : Prop := Nd.MetRows x.2.2 p
/-- A path meets an expression. -/
def Ex.Meets (x : Bool × Bool × List (List Nd)) (p : List Int) : Prop := ∃ a b c, p = a ++ b ++ c ∧ Nd.MetRows x.2.2 b ∧ (x.1 = true → a = []) ∧ (x.2.1 = true → c = [])

theorem Many.plus {P : List Int → Prop} {p : List Int} (h : Plus P p) : Many P p := by
  obtain ⟨a, b, rfl, ha, hb⟩ := h
  exact .cons ha hb
theorem Many.first {P : List Int → Prop} {p : List Int} (h : Many P p) : p = [] ∨ ∃ a b, a ≠ [] ∧ p = a ++ b ∧ P a ∧ Many P b := by
  induction h with
  | nil => exact .inl rfl
  | cons ha hb ih =>
    rename_i a b
    by_cases h0 : a = []
    · subst h0
      rw [List.nil_append]
      exact ih
    · exact .inr ⟨a, b, h0, rfl, ha, hb⟩
theorem Many.none {P : List Int → Prop} {p : List Int} (h : Plus P p) (h0 : p = []) : P [] := by
  obtain ⟨a, b, hp, ha, _⟩ := h
  subst h0
  have := (List.append_eq_nil_iff.1 hp.symm).1
  rw [this] at ha
  exact ha
/-- Once or more: itself, or a piece that isn't empty and then once or more. -/
theorem plus_iff (P : List Int → Prop) (p : List Int) : Plus P p ↔ P p ∨ ∃ k, 0 < k ∧ k ≤ p.length ∧ P (p.take k) ∧ Plus P (p.drop k) := by
  constructor
  · intro h
    rcases (Many.plus h).first with h0 | ⟨a, b, ha0, rfl, ha, hb⟩
    · left
      rw [h0]
      exact Many.none h h0
    · by_cases hb0 : b = []
      · left
        rw [hb0, List.append_nil]
        exact ha
      · right
        refine ⟨a.length, List.length_pos_iff.2 ha0, by simp, by simpa using ha, ?_⟩
        rw [List.drop_left]
        rcases hb.first with h1 | ⟨c, d, _, h2, hc, hd⟩
        · exact absurd h1 hb0
        · exact ⟨c, d, h2, hc, hd⟩
  · rintro (h | ⟨k, _, _, h1, h2⟩)
    · exact ⟨p, [], by simp, h, .nil⟩
    · exact ⟨p.take k, p.drop k, (List.take_append_drop k p).symm, h1, Many.plus h2⟩

theorem met_ch (c : List (List Nd)) (p : List Int) : Nd.MetRows [[.ch c]] p ↔ Nd.MetRows c p := by
  simp only [Nd.MetRows, Nd.MetRow, Nd.Met, or_false]
  constructor
  · rintro ⟨a, b, rfl, h, rfl⟩
    simpa using h
  · exact fun h => ⟨p, [], by simp, h, rfl⟩
theorem met_either (c d : List (List Nd)) (p : List Int) : Nd.MetRows [[.ch c], [.ch d]] p ↔ Nd.MetRows c p ∨ Nd.MetRows d p := by
  have h1 := met_ch c p
  have h2 := met_ch d p
  simp only [Nd.MetRows, or_false] at h1 h2 ⊢
  rw [h1, h2]
theorem met_both (c d : List (List Nd)) (p : List Int) : Nd.MetRows [[.ch c, .ch d]] p ↔ ∃ k, k ≤ p.length ∧ Nd.MetRows c (p.take k) ∧ Nd.MetRows d (p.drop k) := by
  simp only [Nd.MetRows, Nd.MetRow, Nd.Met, or_false]
  constructor
  · rintro ⟨a, b, rfl, h, a2, b2, rfl, h2, rfl⟩
    refine ⟨a.length, by simp, by simpa using h, ?_⟩
    rw [List.drop_left]
    simpa using h2
  · rintro ⟨k, _, h1, h2⟩
    exact ⟨p.take k, p.drop k, (List.take_append_drop k p).symm, h1, p.drop k, [], by simp, h2, rfl⟩
theorem met_maybe (c : List (List Nd)) (p : List Int) : Nd.MetRows [[.st 5 (.ch c)]] p ↔ p = [] ∨ Nd.MetRows c p := by
  simp only [Nd.MetRows, Nd.MetRow, Nd.Met, or_false, if_true]
  constructor
  · rintro ⟨a, b, rfl, h, rfl⟩
    simpa using h
  · exact fun h => ⟨p, [], by simp, h, rfl⟩
theorem met_some (c : List (List Nd)) (p : List Int) : Nd.MetRows [[.st 4 (.ch c)]] p ↔ Plus (Nd.MetRows c) p := by
  have e : (fun q => Nd.Met (.ch c) q) = Nd.MetRows c := by funext q; simp only [Nd.Met]
  simp only [Nd.MetRows, Nd.MetRow, or_false]
  rw [show Nd.Met (.st 4 (.ch c)) = Plus (Nd.MetRows c) by funext q; rw [Nd.Met, if_neg (by decide), if_neg (by decide), e]]
  constructor
  · rintro ⟨a, b, rfl, h, rfl⟩
    simpa using h
  · exact fun h => ⟨p, [], by simp, h, rfl⟩

theorem meets_both (c : List (List Nd)) (p : List Int) : Ex.Meets (true, true, c) p ↔ Nd.MetRows c p := by
  unfold Ex.Meets
  constructor
  · rintro ⟨a, b, d, rfl, h, h1, h2⟩
    rw [h1 rfl, h2 rfl]
    simpa using h
  · exact fun h => ⟨[], p, [], by simp, h, fun _ => rfl, fun _ => rfl⟩
theorem meets_first (c : List (List Nd)) (p : List Int) : Ex.Meets (true, false, c) p ↔ ∃ k, k ≤ p.length ∧ Nd.MetRows c (p.take k) := by
  unfold Ex.Meets
  constructor
  · rintro ⟨a, b, d, rfl, h, h1, _⟩
    obtain rfl := h1 rfl
    exact ⟨b.length, by simp, by simpa using h⟩
  · rintro ⟨k, _, h⟩
    exact ⟨[], p.take k, p.drop k, by simp, h, fun _ => rfl, fun e => by cases e⟩
theorem meets_last (c : List (List Nd)) (p : List Int) : Ex.Meets (false, true, c) p ↔ ∃ i, i ≤ p.length ∧ Nd.MetRows c (p.drop i) := by
  unfold Ex.Meets
  constructor
  · rintro ⟨a, b, d, rfl, h, _, h2⟩
    obtain rfl := h2 rfl
    refine ⟨a.length, by simp, ?_⟩
    rw [List.append_nil, List.drop_left]
    exact h
  · rintro ⟨i, _, h⟩
    exact ⟨p.take i, p.drop i, [], by simp, h, fun e => (by cases e), fun _ => rfl⟩
theorem meets_free (c : List (List Nd)) (p : List Int) : Ex.Meets (false, false, c) p ↔ ∃ i k, i ≤ k ∧ k ≤ p.length ∧ Nd.MetRows c ((p.take k).drop i) := by
  unfold Ex.Meets
  constructor
  · rintro ⟨a, b, d, rfl, h, _, _⟩
    simp only at h
    refine ⟨a.length, a.length + b.length, by omega, by simp, ?_⟩
    have e : (a ++ b ++ d).take (a.length + b.length) = a ++ b := by
      rw [← List.length_append, List.take_left]
    rw [e, List.drop_left]
    exact h
  · rintro ⟨i, k, hik, hk, h⟩
    refine ⟨(p.take k).take i, (p.take k).drop i, p.drop k, ?_, h, fun e => (by cases e), fun e => (by cases e)⟩
    rw [List.take_append_drop, List.take_append_drop]
end Go.Proofs.YtpmmhmgojjlniaaGreatDoor.Ar
namespace Go.Proofs.YtpmmhmgojjlniaaGreatDoor.Ar

def Px.pair (p : Prt) : Bs := if p.2.2 = true then Lib.itoa p.1 ++ 45 :: Lib.itoa p.2.1 else Lib.itoa p.1
def Px.pairs : List Prt → Bs
  | [] => []
  | [p] => Px.pair p
  | p :: q :: r => Px.pair p ++ 32 :: Px.pairs (q :: r)
def Px.signText (k : Nat) : Bs := if k = 3 then [42] else if k = 4 then [43] else [63]
mutual
def Nd.text : Nd → Bs
  | .num dot set rs => if dot = true then [46] else if set = true then 91 :: (Px.pairs rs ++ [93]) else Px.pairs rs
  | .ch rows => 40 :: (Nd.rowsText rows ++ [41])
  | .st k n => Nd.text n ++ Px.signText k
def Nd.rowText : List Nd → Bs
  | [] => []
  | n :: r => Nd.text n ++ Nd.moreText r
def Nd.moreText : List Nd → Bs
  | [] => []
  | n :: r => 32 :: (Nd.text n ++ Nd.moreText r)
def Nd.rowsText : List (List Nd) → Bs
  | [] => []
  | l :: r => Nd.rowText l ++ Nd.alsoText r
def Nd.alsoText : List (List Nd) → Bs
  | [] => []
  | l :: r => 124 :: (Nd.rowText l ++ Nd.alsoText r)
end
def Px.text (x : Bool × Bool × List (List Nd)) : Bs := (if x.1 = true then [94] else []) ++ Nd.rowsText x.2.2 ++ (if x.2.1 = true then [36] else [])

def Px.goodPair (p : Prt) : Prop := Is.as p.1 = true ∧ Is.as p.2.1 = true ∧ p.1 ≤ p.2.1 ∧ (p.2.2 = false → p.1 = p.2.1)
mutual
/-- What the reader makes, so many deep. -/
def Nd.Good : Nat → Nd → Prop
  | _, .num dot set rs => (dot = true ∧ set = false ∧ rs = [(1, 65535, true)]) ∨ (dot = false ∧ set = true ∧ rs ≠ [] ∧ ∀ p ∈ rs, Px.goodPair p) ∨ (dot = false ∧ set = false ∧ ∃ x, rs = [(x, x, false)] ∧ Is.as x = true)
  | 0, .ch _ => False
  | d + 1, .ch rows => rows ≠ [] ∧ Nd.GoodRows d rows
  | d, .st k n => (k = 3 ∨ k = 4 ∨ k = 5) ∧ (∀ j m, n ≠ .st j m) ∧ Nd.Good d n
def Nd.GoodRow : Nat → List Nd → Prop
  | _, [] => True
  | d, n :: r => Nd.Good d n ∧ Nd.GoodRow d r
def Nd.GoodRows : Nat → List (List Nd) → Prop
  | _, [] => True
  | d, l :: r => Nd.GoodRow d l ∧ Nd.GoodRows d r
end
end Go.Proofs.YtpmmhmgojjlniaaGreatDoor.Ar
namespace Go.Proofs.YtpmmhmgojjlniaaGreatDoor.Ar

theorem Px.skip_of {c : UInt8} (h : c ≠ 32) (t : Bs) : Px.skip (c :: t) = c :: t := by
  unfold Px.skip
  rw [List.dropWhile_cons, if_neg (by simpa using h)]
theorem Px.skip_blank (t : Bs) : Px.skip (32 :: t) = Px.skip t := by
  unfold Px.skip
  rw [List.dropWhile_cons, if_pos (by rfl)]
theorem Px.isAt_of {c : UInt8} (h : c ≠ 32) (t : Bs) (d : UInt8) : Px.isAt (c :: t) d = (c == d) := by
  unfold Px.isAt
  rw [Px.skip_of h]
  rfl
theorem Px.next_of {c : UInt8} (h : c ≠ 32) (t : Bs) : Px.next (c :: t) = t := by
  unfold Px.next
  rw [Px.skip_of h]
  rfl
theorem Px.isAt_blank (t : Bs) (d : UInt8) : Px.isAt (32 :: t) d = Px.isAt t d := by
  unfold Px.isAt
  rw [Px.skip_blank]
theorem Px.isAt_nil (d : UInt8) : Px.isAt [] d = false := rfl
theorem Px.number_blank (t : Bs) : Px.number (32 :: t) = Px.number t := by
  unfold Px.number Px.digits
  rw [Px.skip_blank]
theorem dig_not {c : UInt8} (h : Ad.dig c = true) (d : UInt8) (hd : Ad.dig d = false) : c ≠ d := by
  intro e
  rw [e, hd] at h
  cases h
/-- The first byte, if there is one, is no digit. -/
def NoDig (t : Bs) : Prop := ∀ c r, t = c :: r → Ad.dig c = false
theorem NoDig.of {c : UInt8} (h : Ad.dig c = false) (t : Bs) : NoDig (c :: t) := by
  intro d r e
  rw [← (List.cons.inj e).1]
  exact h
theorem take_all {ds t : Bs} (h : Ad.digs ds = true) (ht : NoDig t) : (ds ++ t).takeWhile Ad.dig = ds := by
  induction ds with
  | nil =>
    cases t with
    | nil => rfl
    | cons c r => rw [List.nil_append, List.takeWhile_cons, if_neg (by rw [ht c r rfl]; decide)]
  | cons c ds ih =>
    unfold Ad.digs at h
    rw [List.all_cons, Bool.and_eq_true] at h
    rw [List.cons_append, List.takeWhile_cons, if_pos (show Ad.dig c = true from h.1), ih h.2]
theorem itoa_head (x : Int) (h : Is.as x = true) : ∃ c r, Lib.itoa x = c :: r ∧ Ad.dig c = true ∧ c ≠ 32 := by
  have hx := (Is.as_iff x).1 h
  obtain ⟨h1, _, h3⟩ := Ad.itoa_nat x (by omega)
  cases hi : Lib.itoa x with
  | nil => rw [hi] at h1; cases h1
  | cons c r =>
    rw [hi] at h3
    unfold Ad.digs at h3
    rw [List.all_cons, Bool.and_eq_true] at h3
    exact ⟨c, r, rfl, h3.1, dig_not h3.1 32 (by decide)⟩
theorem number_itoa (x : Int) (h : Is.as x = true) (t : Bs) (ht : NoDig t) : Px.number (Lib.itoa x ++ t) = .ok (x, t) := by
  have hx := (Is.as_iff x).1 h
  obtain ⟨h1, h2, h3⟩ := Ad.itoa_nat x (by omega)
  obtain ⟨c, r, hc, hd, h32⟩ := itoa_head x h
  have hsk : Px.skip (Lib.itoa x ++ t) = Lib.itoa x ++ t := by rw [hc, List.cons_append, Px.skip_of h32]
  have hds : Px.digits (Lib.itoa x ++ t) = Lib.itoa x := by
    unfold Px.digits
    rw [hsk, take_all h3 ht]
  unfold Px.number
  rw [hds, hsk, if_pos h1, h2, if_pos h]
  simp

def Px.pairsMore : List Prt → Bs
  | [] => []
  | p :: r => 32 :: (Px.pair p ++ Px.pairsMore r)
theorem Px.pairs_cons : ∀ (p : Prt) (r : List Prt), Px.pairs (p :: r) = Px.pair p ++ Px.pairsMore r
  | p, [] => by simp [Px.pairs, Px.pairsMore]
  | p, q :: r => by rw [Px.pairs, Px.pairs_cons q r, Px.pairsMore]
theorem pair_head (p : Prt) (h : Px.goodPair p) : ∃ c r, Px.pair p = c :: r ∧ Ad.dig c = true ∧ c ≠ 32 := by
  obtain ⟨c, r, hc, hd⟩ := itoa_head p.1 h.1
  unfold Px.pair
  split
  · exact ⟨c, r ++ 45 :: Lib.itoa p.2.1, by rw [hc]; rfl, hd⟩
  · exact ⟨c, r, hc, hd⟩
theorem more_isAt (r : List Prt) (h : ∀ p ∈ r, Px.goodPair p) (t : Bs) (d : UInt8) (hd : Ad.dig d = false) (h93 : d ≠ 93) : Px.isAt (Px.pairsMore r ++ 93 :: t) d = false := by
  cases r with
  | nil =>
    rw [Px.pairsMore, List.nil_append, Px.isAt_of (by decide)]
    simpa using fun e => h93 e.symm
  | cons p r =>
    obtain ⟨c, q, hc, hg, h32⟩ := pair_head p (h p (by simp))
    rw [Px.pairsMore, List.cons_append, Px.isAt_blank, hc, List.cons_append, List.cons_append, Px.isAt_of h32]
    simpa using dig_not hg d hd
theorem more_noDig (r : List Prt) (t : Bs) : NoDig (Px.pairsMore r ++ 93 :: t) := by
  cases r with
  | nil => exact NoDig.of (by decide) t
  | cons p r => exact NoDig.of (by decide) _
/-- One pair of a set is read. -/
theorem set_step (f : Nat) (acc : List Prt) (p : Prt) (hp : Px.goodPair p) (r : List Prt) (hr : ∀ q ∈ r, Px.goodPair q) (t : Bs) (hc : ¬ (acc ≠ [] ∧ Px.isAt (Px.pair p ++ (Px.pairsMore r ++ 93 :: t)) 93 = true)) :
    Px.set (f + 1) acc (Px.pair p ++ (Px.pairsMore r ++ 93 :: t)) = Px.set f (acc ++ [p]) (Px.pairsMore r ++ 93 :: t) := by
  rw [Px.set, if_neg hc]
  obtain ⟨a, b, two⟩ := p
  obtain ⟨ha, hb, hab, htw⟩ := hp
  simp only at ha hb hab htw
  unfold Px.pair
  cases two with
  | false =>
    obtain rfl := htw rfl
    rw [if_neg (by simp), number_itoa a ha _ (more_noDig r t)]
    simp only [more_isAt r hr t 45 (by decide) (by decide), Bool.false_eq_true, if_false]
  | true =>
    rw [if_pos rfl]
    simp only [List.append_assoc, List.cons_append]
    rw [number_itoa a ha _ (NoDig.of (by decide) _)]
    simp only [Px.isAt_of (show (45 : UInt8) ≠ 32 by decide), Px.next_of (show (45 : UInt8) ≠ 32 by decide), BEq.rfl, if_true]
    rw [number_itoa b hb _ (more_noDig r t)]
    simp only [if_neg (show ¬ b < a by omega)]
theorem pair_not93 (p : Prt) (hp : Px.goodPair p) (t : Bs) : Px.isAt (Px.pair p ++ t) 93 = false := by
  obtain ⟨c, q, hc, hg, h32⟩ := pair_head p hp
  rw [hc, List.cons_append, Px.isAt_of h32]
  simpa using dig_not hg 93 (by decide)
theorem set_blank (f : Nat) (acc : List Prt) (r : Bs) : Px.set f acc (32 :: r) = Px.set f acc r := by
  cases f with
  | zero => rfl
  | succ f =>
    rw [Px.set, Px.set, Px.isAt_blank, Px.number_blank]
    have : Px.next (32 :: r) = Px.next r := by unfold Px.next; rw [Px.skip_blank]
    rw [this]
theorem set_more : ∀ (r : List Prt) (f : Nat) (acc : List Prt) (t : Bs), acc ≠ [] → r.length < f → (∀ q ∈ r, Px.goodPair q) → Px.set f acc (Px.pairsMore r ++ 93 :: t) = .ok (acc ++ r, t)
  | [], f + 1, acc, t, ha, _, _ => by
    rw [Px.pairsMore, List.nil_append, Px.set, if_pos ⟨ha, by rw [Px.isAt_of (by decide)]; rfl⟩, Px.next_of (by decide), List.append_nil]
  | p :: r, f + 1, acc, t, ha, hf, hg => by
    have hp := hg p (by simp)
    have hr : ∀ q ∈ r, Px.goodPair q := fun q hq => hg q (by simp [hq])
    rw [Px.pairsMore, List.cons_append, set_blank, List.append_assoc, set_step f acc p hp r hr t (by rw [pair_not93 p hp]; simp), set_more r f (acc ++ [p]) t (by simp) (by simp at hf; omega) hr]
    simp
theorem pairs_len : ∀ r : List Prt, r.length ≤ (Px.pairsMore r).length
  | [] => Nat.le_refl _
  | p :: r => by
    have := pairs_len r
    simp only [Px.pairsMore, List.length_cons, List.length_append]
    omega
theorem set_pairs (rs : List Prt) (h0 : rs ≠ []) (hg : ∀ q ∈ rs, Px.goodPair q) (t : Bs) (f : Nat) (hf : (Px.pairs rs).length < f) : Px.set f [] (Px.pairs rs ++ 93 :: t) = .ok (rs, t) := by
  cases rs with
  | nil => exact absurd rfl h0
  | cons p r =>
    have hp := hg p (by simp)
    have hr : ∀ q ∈ r, Px.goodPair q := fun q hq => hg q (by simp [hq])
    obtain ⟨c, q, hc, _⟩ := pair_head p hp
    have hl := pairs_len r
    rw [Px.pairs_cons, List.length_append, hc, List.length_cons] at hf
    obtain ⟨f, rfl⟩ : ∃ g, f = g + 1 := ⟨f - 1, by omega⟩
    rw [Px.pairs_cons, List.append_assoc, set_step f [] p hp r hr t (by simp), List.nil_append, set_more r f [p] t (by simp) (by omega) hr]
    rfl
end Go.Proofs.YtpmmhmgojjlniaaGreatDoor.Ar
namespace Go.Proofs.YtpmmhmgojjlniaaGreatDoor.Ar

/-- Where a row ends: nothing is left, or one of | ) $ stands there. -/
def Stop (t : Bs) : Prop := t = [] ∨ ∃ c r, t = c :: r ∧ (c = 124 ∨ c = 41 ∨ c = 36)
/-- Where a choice ends. -/
def Shut (t : Bs) : Prop := t = [] ∨ ∃ c r, t = c :: r ∧ (c = 41 ∨ c = 36)
theorem Shut.stop {t : Bs} (h : Shut t) : Stop t := by
  rcases h with h | ⟨c, r, h, h1⟩
  · exact .inl h
  · exact .inr ⟨c, r, h, .inr h1⟩
theorem Stop.skip {t : Bs} (h : Stop t) : Px.skip t = t := by
  rcases h with rfl | ⟨c, r, rfl, h⟩
  · rfl
  · refine Px.skip_of ?_ r
    rcases h with rfl | rfl | rfl <;> decide
theorem Stop.noDig {t : Bs} (h : Stop t) : NoDig t := by
  rcases h with rfl | ⟨c, r, rfl, h⟩
  · intro c r e; cases e
  · refine NoDig.of ?_ r
    rcases h with rfl | rfl | rfl <;> decide
theorem Stop.not {t : Bs} (h : Stop t) (d : UInt8) (h1 : d ≠ 124) (h2 : d ≠ 41) (h3 : d ≠ 36) : Px.isAt t d = false := by
  rcases h with rfl | ⟨c, r, rfl, h⟩
  · rfl
  · rcases h with rfl | rfl | rfl
    · rw [Px.isAt_of (by decide)]; simpa using fun e => h1 e.symm
    · rw [Px.isAt_of (by decide)]; simpa using fun e => h2 e.symm
    · rw [Px.isAt_of (by decide)]; simpa using fun e => h3 e.symm
theorem sign_of {t : Bs} (h1 : Px.isAt t 42 = false) (h2 : Px.isAt t 43 = false) (h3 : Px.isAt t 63 = false) : Px.sign t = 0 := by
  unfold Px.sign
  rw [h1, h2, h3]
  rfl
theorem Stop.sign {t : Bs} (h : Stop t) : Px.sign t = 0 := sign_of (h.not 42 (by decide) (by decide) (by decide)) (h.not 43 (by decide) (by decide) (by decide)) (h.not 63 (by decide) (by decide) (by decide))

/-- A node's text begins with what begins an item. -/
theorem text_head (d : Nat) : ∀ n, Nd.Good d n → ∃ c r, Nd.text n = c :: r ∧ Px.starts c = true ∧ c ≠ 32
  | .num dot set rs, h => by
    simp only [Nd.Good] at h
    rcases h with ⟨rfl, _, _⟩ | ⟨rfl, rfl, h0, hg⟩ | ⟨rfl, rfl, x, rfl, hx⟩
    · exact ⟨46, [], by simp [Nd.text], by decide, by decide⟩
    · exact ⟨91, _, by simp [Nd.text]; rfl, by decide, by decide⟩
    · obtain ⟨c, r, hc, hd, h32⟩ := itoa_head x hx
      refine ⟨c, r, by simp [Nd.text, Px.pairs, Px.pair, hc], ?_, h32⟩
      unfold Px.starts
      rw [hd]
      simp
  | .ch rows, _ => ⟨40, _, by simp [Nd.text]; rfl, by decide, by decide⟩
  | .st k n, h => by
    have h' : (k = 3 ∨ k = 4 ∨ k = 5) ∧ (∀ j m, n ≠ .st j m) ∧ Nd.Good d n := by
      cases d <;> simpa only [Nd.Good] using h
    obtain ⟨c, r, hc, h1, h2⟩ := text_head d n h'.2.2
    exact ⟨c, r ++ Px.signText k, by simp [Nd.text, hc], h1, h2⟩
theorem starts_not {c : UInt8} (h : Px.starts c = true) (d : UInt8) (hd : Px.starts d = false) : c ≠ d := by
  intro e
  rw [e, hd] at h
  cases h

/-- A reader of choices that reads back what is so many deep. -/
def Reads (ch : Bs → Except Int (List (List Nd) × Bs)) (d : Nat) : Prop := ∀ rows t, Nd.Good d (.ch rows) → Shut t → ch (Nd.rowsText rows ++ t) = .ok (rows, t)

theorem atom_text {ch : Bs → Except Int (List (List Nd) × Bs)} {d : Nat} (hr : Reads ch d) (n : Nd) (hn : ∀ j m, n ≠ .st j m) (hg : Nd.Good d n) (t : Bs) (ht : NoDig t) : Px.atom ch (Nd.text n ++ t) = .ok (n, t) := by
  cases n with
  | num dot set rs =>
    simp only [Nd.Good] at hg
    rcases hg with ⟨rfl, rfl, rfl⟩ | ⟨rfl, rfl, h0, hp⟩ | ⟨rfl, rfl, x, rfl, hx⟩
    · have e : Nd.text (.num true false [(1, 65535, true)]) ++ t = 46 :: t := by simp [Nd.text]
      rw [e, Px.atom, if_pos (by rw [Px.isAt_of (by decide)]; rfl), Px.next_of (by decide)]
    · have e : Nd.text (.num false true rs) ++ t = 91 :: (Px.pairs rs ++ 93 :: t) := by simp [Nd.text]
      rw [e, Px.atom, if_neg (by rw [Px.isAt_of (by decide)]; decide), if_pos (by rw [Px.isAt_of (by decide)]; rfl), Px.next_of (by decide), set_pairs rs h0 hp t _ (by simp; omega)]
    · obtain ⟨c, r, hc, hd, h32⟩ := itoa_head x hx
      have e : Nd.text (.num false false [(x, x, false)]) ++ t = Lib.itoa x ++ t := by simp [Nd.text, Px.pairs, Px.pair]
      have hf : ∀ k : UInt8, Ad.dig k = false → Px.isAt (Lib.itoa x ++ t) k = false := by
        intro k hk
        rw [hc, List.cons_append, Px.isAt_of h32]
        simpa using dig_not hd k hk
      rw [e, Px.atom, hf 46 (by decide), hf 91 (by decide), hf 40 (by decide), number_itoa x hx t ht]
      rfl
  | ch rows =>
    have e : Nd.text (.ch rows) ++ t = 40 :: (Nd.rowsText rows ++ 41 :: t) := by simp [Nd.text]
    rw [e, Px.atom, if_neg (by rw [Px.isAt_of (by decide)]; decide), if_neg (by rw [Px.isAt_of (by decide)]; decide), if_pos (by rw [Px.isAt_of (by decide)]; rfl), Px.next_of (by decide),
      hr rows (41 :: t) hg (.inr ⟨41, t, rfl, .inl rfl⟩)]
    simp only [Px.isAt_of (show (41 : UInt8) ≠ 32 by decide), Px.next_of (show (41 : UInt8) ≠ 32 by decide), BEq.rfl, if_true]
  | st k m => exact absurd rfl (hn k m)
theorem item_text {ch : Bs → Except Int (List (List Nd) × Bs)} {d : Nat} (hr : Reads ch d) (n : Nd) (hg : Nd.Good d n) (t : Bs) (ht : NoDig t) (hs : Px.sign t = 0) : Px.item ch (Nd.text n ++ t) = .ok (n, t) := by
  cases n with
  | num dot set rs =>
    unfold Px.item
    rw [atom_text hr _ (fun j m e => by cases e) hg t ht]
    simp only [hs, if_true]
  | ch rows =>
    unfold Px.item
    rw [atom_text hr _ (fun j m e => by cases e) hg t ht]
    simp only [hs, if_true]
  | st k m =>
    have h' : (k = 3 ∨ k = 4 ∨ k = 5) ∧ (∀ j l, m ≠ .st j l) ∧ Nd.Good d m := by
      cases d <;> simpa only [Nd.Good] using hg
    obtain ⟨hk, hm, hgm⟩ := h'
    have e : Nd.text (.st k m) ++ t = Nd.text m ++ (Px.signText k ++ t) := by simp [Nd.text]
    unfold Px.item
    rcases hk with rfl | rfl | rfl
    · rw [e, show Px.signText 3 ++ t = 42 :: t from rfl, atom_text hr m hm hgm _ (NoDig.of (by decide) t)]
      have h1 : Px.sign (42 :: t) = 3 := by unfold Px.sign; rw [Px.isAt_of (by decide)]; rfl
      simp only [h1, Px.next_of (show (42 : UInt8) ≠ 32 by decide)]
      rfl
    · rw [e, show Px.signText 4 ++ t = 43 :: t from rfl, atom_text hr m hm hgm _ (NoDig.of (by decide) t)]
      have h1 : Px.sign (43 :: t) = 4 := by unfold Px.sign; rw [Px.isAt_of (by decide), Px.isAt_of (by decide)]; rfl
      simp only [h1, Px.next_of (show (43 : UInt8) ≠ 32 by decide)]
      rfl
    · rw [e, show Px.signText 5 ++ t = 63 :: t from rfl, atom_text hr m hm hgm _ (NoDig.of (by decide) t)]
      have h1 : Px.sign (63 :: t) = 5 := by unfold Px.sign; rw [Px.isAt_of (by decide), Px.isAt_of (by decide), Px.isAt_of (by decide)]; rfl
      simp only [h1, Px.next_of (show (63 : UInt8) ≠ 32 by decide)]
      rfl

theorem more_cont (d : Nat) (r : List Nd) (hg : Nd.GoodRow d r) (t : Bs) (ht : Stop t) : NoDig (Nd.moreText r ++ t) ∧ Px.sign (Nd.moreText r ++ t) = 0 := by
  cases r with
  | nil =>
    simp only [Nd.moreText, List.nil_append]
    exact ⟨ht.noDig, ht.sign⟩
  | cons n r =>
    simp only [Nd.GoodRow] at hg
    obtain ⟨c, q, hc, h1, h32⟩ := text_head d n hg.1
    have e : Nd.moreText (n :: r) ++ t = 32 :: c :: (q ++ (Nd.moreText r ++ t)) := by simp [Nd.moreText, hc]
    rw [e]
    refine ⟨NoDig.of (by decide) _, sign_of ?_ ?_ ?_⟩
    · rw [Px.isAt_blank, Px.isAt_of h32]; simpa using starts_not h1 42 (by decide)
    · rw [Px.isAt_blank, Px.isAt_of h32]; simpa using starts_not h1 43 (by decide)
    · rw [Px.isAt_blank, Px.isAt_of h32]; simpa using starts_not h1 63 (by decide)
theorem row_blank {ch : Bs → Except Int (List (List Nd) × Bs)} (f : Nat) (acc : List Nd) (r : Bs) : Px.row ch f acc (32 :: r) = Px.row ch f acc r := by
  cases f with
  | zero => rfl
  | succ f => rw [Px.row, Px.row, Px.skip_blank]
theorem row_step {ch : Bs → Except Int (List (List Nd) × Bs)} {d : Nat} (hr : Reads ch d) (f : Nat) (acc : List Nd) (n : Nd) (hg : Nd.Good d n) (t : Bs) (ht : NoDig t) (hs : Px.sign t = 0) : Px.row ch (f + 1) acc (Nd.text n ++ t) = Px.row ch f (acc ++ [n]) t := by
  have hi := item_text hr n hg t ht hs
  obtain ⟨c, q, hc, h1, h32⟩ := text_head d n hg
  rw [hc, List.cons_append] at hi
  rw [Px.row, hc, List.cons_append, Px.skip_of h32]
  simp only [h1, if_true, hi]
theorem row_more {ch : Bs → Except Int (List (List Nd) × Bs)} {d : Nat} (hr : Reads ch d) : ∀ (r : List Nd) (f : Nat) (acc : List Nd) (t : Bs), r.length < f → Nd.GoodRow d r → Stop t → Px.row ch f acc (Nd.moreText r ++ t) = .ok (acc ++ r, t)
  | [], f + 1, acc, t, _, _, ht => by
    simp only [Nd.moreText, List.nil_append, List.append_nil]
    rw [Px.row, ht.skip]
    rcases ht with rfl | ⟨c, r, rfl, h⟩
    · rfl
    · rcases h with rfl | rfl | rfl <;> rfl
  | n :: r, f + 1, acc, t, hf, hg, ht => by
    simp only [Nd.GoodRow] at hg
    obtain ⟨h1, h2⟩ := more_cont d r hg.2 t ht
    have e : Nd.moreText (n :: r) ++ t = 32 :: (Nd.text n ++ (Nd.moreText r ++ t)) := by simp [Nd.moreText]
    rw [e, row_blank, row_step hr f acc n hg.1 _ h1 h2, row_more hr r f (acc ++ [n]) t (by simp at hf; omega) hg.2 ht]
    simp
theorem more_len : ∀ r : List Nd, r.length ≤ (Nd.moreText r).length
  | [] => Nat.zero_le _
  | n :: r => by
    have := more_len r
    simp only [Nd.moreText, List.length_cons, List.length_append]
    omega
theorem row_text {ch : Bs → Except Int (List (List Nd) × Bs)} {d : Nat} (hr : Reads ch d) (l : List Nd) (hg : Nd.GoodRow d l) (t : Bs) (ht : Stop t) (f : Nat) (hf : (Nd.rowText l).length < f) : Px.row ch f [] (Nd.rowText l ++ t) = .ok (l, t) := by
  cases l with
  | nil =>
    have := row_more hr [] f [] t (by simp; omega) trivial ht
    simpa [Nd.rowText, Nd.moreText] using this
  | cons n r =>
    simp only [Nd.GoodRow] at hg
    obtain ⟨h1, h2⟩ := more_cont d r hg.2 t ht
    obtain ⟨c, q, hc, _⟩ := text_head d n hg.1
    have hl := more_len r
    rw [Nd.rowText, List.length_append, hc, List.length_cons] at hf
    obtain ⟨f, rfl⟩ : ∃ g, f = g + 1 := ⟨f - 1, by omega⟩
    rw [Nd.rowText, List.append_assoc, row_step hr f [] n hg.1 _ h1 h2, List.nil_append, row_more hr r f [n] t (by omega) hg.2 ht]
    rfl
theorem also_stop (r : List (List Nd)) (t : Bs) (ht : Shut t) : Stop (Nd.alsoText r ++ t) := by
  cases r with
  | nil => simpa [Nd.alsoText] using ht.stop
  | cons l r => exact .inr ⟨124, _, by simp [Nd.alsoText]; rfl, .inl rfl⟩
theorem rows_also {ch : Bs → Except Int (List (List Nd) × Bs)} {d : Nat} (hr : Reads ch d) : ∀ (r : List (List Nd)) (l : List Nd) (f : Nat) (acc : List (List Nd)) (t : Bs), r.length < f → Nd.GoodRow d l → Nd.GoodRows d r → Shut t →
    Px.rows ch f acc (Nd.rowText l ++ (Nd.alsoText r ++ t)) = .ok (acc ++ l :: r, t)
  | [], l, f + 1, acc, t, _, hg, _, ht => by
    simp only [Nd.alsoText, List.nil_append]
    rw [Px.rows, row_text hr l hg t ht.stop _ (by simp; omega)]
    have h124 : Px.isAt t 124 = false := by
      rcases ht with rfl | ⟨c, r, rfl, h⟩
      · rfl
      · rcases h with rfl | rfl <;> rfl
    simp only [h124, Bool.false_eq_true, if_false]
  | q :: r, l, f + 1, acc, t, hf, hg, hq, ht => by
    simp only [Nd.GoodRows] at hq
    have e : Nd.alsoText (q :: r) ++ t = 124 :: (Nd.rowText q ++ (Nd.alsoText r ++ t)) := by simp [Nd.alsoText]
    rw [Px.rows, row_text hr l hg _ (also_stop (q :: r) t ht) _ (by simp; omega), e]
    simp only [Px.isAt_of (show (124 : UInt8) ≠ 32 by decide), Px.next_of (show (124 : UInt8) ≠ 32 by decide), BEq.rfl, if_true]
    rw [rows_also hr r q f (acc ++ [l]) t (by simp at hf; omega) hq.1 hq.2 ht]
    simp
theorem also_len : ∀ r : List (List Nd), r.length ≤ (Nd.alsoText r).length
  | [] => Nat.zero_le _
  | l :: r => by
    have := also_len r
    simp only [Nd.alsoText, List.length_cons, List.length_append]
    omega
theorem choice_reads : ∀ d, Reads (Px.choice d) d
  | 0 => fun rows t h _ => by simp only [Nd.Good] at h
  | d + 1 => fun rows t h ht => by
    simp only [Nd.Good] at h
    obtain ⟨h0, hg⟩ := h
    cases rows with
    | nil => exact absurd rfl h0
    | cons l r =>
      simp only [Nd.GoodRows] at hg
      have hl := also_len r
      rw [Px.choice, Nd.rowsText, List.append_assoc, rows_also (choice_reads d) r l _ [] t (by simp; omega) hg.1 hg.2 ht]
      rfl
end Go.Proofs.YtpmmhmgojjlniaaGreatDoor.Ar
