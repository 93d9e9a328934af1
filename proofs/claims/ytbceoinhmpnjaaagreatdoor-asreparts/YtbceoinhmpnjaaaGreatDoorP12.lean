import Derived.Test.YtbceoinhmpnjaaaGreatDoorP1
/- What numbers meet: the mathematics. -/
namespace Go.Proofs.YtbceoinhmpnjaaaGreatDoor

/-- Pieces one after another, any number of them. -/
inductive Many (P : List Int → Prop) : List Int → Prop
  | nil : Many P []
  | cons {a b : List Int} : P a → Many P b → Many P (a ++ b)
def Plus (P : List Int → Prop) (p : List Int) : Prop := ∃ a b, p = a ++ b ∧ P a ∧ Many P b
mutual
def Nd.Met : Nd → List Int → Prop
  | .num _ _ rs, p => ∃ n, p = [n] ∧ ∃ r ∈ rs, r.1 ≤ n ∧ n ≤ r.2.1
  | .ch rows, p => Nd.MetRows rows p
  | .st k n, p => if k = 5 then p = [] ∨ Nd.Met n p else if k = 3 then Many (fun q => Nd.Met n q) p else Plus (fun q => Nd.Met n q) p
def Nd.MetRow : List Nd → List Int → Prop
  | [], p => p = []
  | n :: r, p => ∃ a b, p = a ++ b ∧ Nd.Met n a ∧ Nd.MetRow r b
def Nd.MetRows : List (List Nd) → List Int → Prop
  | [], _ => False
  | l :: r, p => Nd.MetRow l p ∨ Nd.MetRows r p
end
/-- All of a path meets an expression's choice. -/
def Ex.Whole (x : Bool × Bool × List (List Nd)) (p : List Int) : Prop := Nd.MetRows x.2.2 p
/-- A path meets an expression. -/
def Ex.Meets (x : Bool × Bool × List (List Nd)) (p : List Int) : Prop := ∃ a b c, p = a ++ b ++ c ∧ Nd.MetRows x.2.2 b ∧ (x.1 = true → a = []) ∧ (x.2.1 = true → c = [])

theorem Many.plus {P : List Int → Prop} {p : List Int} (h : Plus P p) : Many P p := by
  obtain ⟨a, b, rfl, ha, hb⟩ := h
  exact .cons ha hb
theorem Many.first {P : List Int → Prop} {p : List Int} (h : Many P p) : p = [] ∨ ∃ a b, a ≠ [] ∧ p = a ++ b ∧ P a ∧ Many P b := by
  induction h with
  | nil => exact .inl rfl
  | cons ha hb ih =>
    rename_i a b
    by_cases h0 : a = []
    · subst h0
      rw [List.nil_append]
      exact ih
    · exact .inr ⟨a, b, h0, rfl, ha, hb⟩
theorem Many.none {P : List Int → Prop} {p : List Int} (h : Plus P p) (h0 : p = []) : P [] := by
  obtain ⟨a, b, hp, ha, _⟩ := h
  subst h0
  have := (List.append_eq_nil_iff.1 hp.symm).1
  rw [this] at ha
  exact ha
/-- Once or more: itself, or a piece that isn't empty and then once or more. -/
theorem plus_iff (P : List Int → Prop) (p : List Int) : Plus P p ↔ P p ∨ ∃ k, 0 < k ∧ k ≤ p.length ∧ P (p.take k) ∧ Plus P (p.drop k) := by
  constructor
  · intro h
    rcases (Many.plus h).first with h0 | ⟨a, b, ha0, rfl, ha, hb⟩
    · left
      rw [h0]
      exact Many.none h h0
    · by_cases hb0 : b = []
      · left
        rw [hb0, List.append_nil]
        exact ha
      · right
        refine ⟨a.length, List.length_pos_iff.2 ha0, by simp, by simpa using ha, ?_⟩
        rw [List.drop_left]
        rcases hb.first with h1 | ⟨c, d, _, h2, hc, hd⟩
        · exact absurd h1 hb0
        · exact ⟨c, d, h2, hc, hd⟩
  · rintro (h | ⟨k, _, _, h1, h2⟩)
    · exact ⟨p, [], by simp, h, .nil⟩
    · exact ⟨p.take k, p.drop k, (List.take_append_drop k p).symm, h1, Many.plus h2⟩

theorem met_ch (c : List (List Nd)) (p : List Int) : Nd.MetRows [[.ch c]] p ↔ Nd.MetRows c p := by
  simp only [Nd.MetRows, Nd.MetRow, Nd.Met, or_false]
  constructor
  · rintro ⟨a, b, rfl, h, rfl⟩
    simpa using h
  · exact fun h => ⟨p, [], by simp, h, rfl⟩
theorem met_either (c d : List (List Nd)) (p : List Int) : Nd.MetRows [[.ch c], [.ch d]] p ↔ Nd.MetRows c p ∨ Nd.MetRows d p := by
  have h1 := met_ch c p
  have h2 := met_ch d p
  simp only [Nd.MetRows, or_false] at h1 h2 ⊢
  rw [h1, h2]
theorem met_both (c d : List (List Nd)) (p : List Int) : Nd.MetRows [[.ch c, .ch d]] p ↔ ∃ k, k ≤ p.length ∧ Nd.MetRows c (p.take k) ∧ Nd.MetRows d (p.drop k) := by
  simp only [Nd.MetRows, Nd.MetRow, Nd.Met, or_false]
  constructor
  · rintro ⟨a, b, rfl, h, a2, b2, rfl, h2, rfl⟩
    refine ⟨a.length, by simp, by simpa using h, ?_⟩
    rw [List.drop_left]
    simpa using h2
  · rintro ⟨k, _, h1, h2⟩
    exact ⟨p.take k, p.drop k, (List.take_append_drop k p).symm, h1, p.drop k, [], by simp, h2, rfl⟩
theorem met_maybe (c : List (List Nd)) (p : List Int) : Nd.MetRows [[.st 5 (.ch c)]] p ↔ p = [] ∨ Nd.MetRows c p := by
  simp only [Nd.MetRows, Nd.MetRow, Nd.Met, or_false, if_true]
  constructor
  · rintro ⟨a, b, rfl, h, rfl⟩
    simpa using h
  · exact fun h => ⟨p, [], by simp, h, rfl⟩
theorem met_some (c : List (List Nd)) (p : List Int) : Nd.MetRows [[.st 4 (.ch c)]] p ↔ Plus (Nd.MetRows c) p := by
  have e : (fun q => Nd.Met (.ch c) q) = Nd.MetRows c := by funext q; simp only [Nd.Met]
  simp only [Nd.MetRows, Nd.MetRow, or_false]
  rw [show Nd.Met (.st 4 (.ch c)) = Plus (Nd.MetRows c) by funext q; rw [Nd.Met, if_neg (by decide), if_neg (by decide), e]]
  constructor
  · rintro ⟨a, b, rfl, h, rfl⟩
    simpa using h
  · exact fun h => ⟨p, [], by simp, h, rfl⟩

theorem meets_both (c : List (List Nd)) (p : List Int) : Ex.Meets (true, true, c) p ↔ Nd.MetRows c p := by
  unfold Ex.Meets
  constructor
  · rintro ⟨a, b, d, rfl, h, h1, h2⟩
    rw [h1 rfl, h2 rfl]
    simpa using h
  · exact fun h => ⟨[], p, [], by simp, h, fun _ => rfl, fun _ => rfl⟩
theorem meets_first (c : List (List Nd)) (p : List Int) : Ex.Meets (true, false, c) p ↔ ∃ k, k ≤ p.length ∧ Nd.MetRows c (p.take k) := by
  unfold Ex.Meets
  constructor
  · rintro ⟨a, b, d, rfl, h, h1, _⟩
    obtain rfl := h1 rfl
    exact ⟨b.length, by simp, by simpa using h⟩
  · rintro ⟨k, _, h⟩
    exact ⟨[], p.take k, p.drop k, by simp, h, fun _ => rfl, fun e => by cases e⟩
theorem meets_last (c : List (List Nd)) (p : List Int) : Ex.Meets (false, true, c) p ↔ ∃ i, i ≤ p.length ∧ Nd.MetRows c (p.drop i) := by
  unfold Ex.Meets
  constructor
  · rintro ⟨a, b, d, rfl, h, _, h2⟩
    obtain rfl := h2 rfl
    refine ⟨a.length, by simp, ?_⟩
    rw [List.append_nil, List.drop_left]
    exact h
  · rintro ⟨i, _, h⟩
    exact ⟨p.take i, p.drop i, [], by simp, h, fun e => (by cases e), fun _ => rfl⟩
theorem meets_free (c : List (List Nd)) (p : List Int) : Ex.Meets (false, false, c) p ↔ ∃ i k, i ≤ k ∧ k ≤ p.length ∧ Nd.MetRows c ((p.take k).drop i) := by
  unfold Ex.Meets
  constructor
  · rintro ⟨a, b, d, rfl, h, _, _⟩
    simp only at h
    refine ⟨a.length, a.length + b.length, by omega, by simp, ?_⟩
    have e : (a ++ b ++ d).take (a.length + b.length) = a ++ b := by
      rw [← List.length_append, List.take_left]
    rw [e, List.drop_left]
    exact h
  · rintro ⟨i, k, hik, hk, h⟩
    refine ⟨(p.take k).take i, (p.take k).drop i, p.drop k, ?_, h, fun e => (by cases e), fun e => (by cases e)⟩
    rw [List.take_append_drop, List.take_append_drop]
end Go.Proofs.YtbceoinhmpnjaaaGreatDoor

/- Pieces of a path. -/
namespace Go.Proofs.YtbceoinhmpnjaaaGreatDoor

/-- The numbers between two places of a path. -/
def piece (p : List Int) (i k : Nat) : List Int := (p.take k).drop i
theorem piece_len (p : List Int) (i k : Nat) (hk : k ≤ p.length) : (piece p i k).length = k - i := by
  unfold piece
  rw [List.length_drop, List.length_take]
  omega
theorem piece_app (p : List Int) (i j k : Nat) (h1 : i ≤ j) (h2 : j ≤ k) (hk : k ≤ p.length) : piece p i k = piece p i j ++ piece p j k := by
  unfold piece
  have e : p.take k = p.take j ++ (p.take k).drop j := by
    have h3 := (List.take_append_drop j (p.take k)).symm
    rw [List.take_take, Nat.min_eq_left h2] at h3
    exact h3
  have hl : (p.take j).length = j := by rw [List.length_take]; omega
  conv => lhs; rw [e]
  rw [List.drop_append, hl, Nat.sub_eq_zero_of_le h1, List.drop_zero]
theorem piece_split (p : List Int) (i k : Nat) (hik : i ≤ k) (hk : k ≤ p.length) (a b : List Int) (h : piece p i k = a ++ b) : ∃ j, i ≤ j ∧ j ≤ k ∧ piece p i j = a ∧ piece p j k = b := by
  have hl := congrArg List.length h
  rw [piece_len p i k hk, List.length_append] at hl
  refine ⟨i + a.length, by omega, by omega, ?_⟩
  have h2 := piece_app p i (i + a.length) k (by omega) (by omega) hk
  rw [h] at h2
  have h3 : (piece p i (i + a.length)).length = a.length := by rw [piece_len p _ _ (by omega)]; omega
  have h4 := List.append_inj h2 h3.symm
  exact ⟨h4.1.symm, h4.2.symm⟩
theorem many_snoc {P : List Int → Prop} {a b : List Int} (h : Many P a) (hb : P b) : Many P (a ++ b) := by
  induction h with
  | nil => simpa using Many.cons (a := b) (b := []) hb .nil
  | cons hx _ ih =>
    rw [List.append_assoc]
    exact .cons hx ih
theorem piece_one (p : List Int) (i : Nat) (h : i < p.length) : piece p i (i + 1) = [p.getD i 0] := by
  unfold piece
  rw [List.take_succ_eq_append_getElem h, List.drop_append, List.length_take, Nat.min_eq_left (by omega)]
  simp [h]
end Go.Proofs.YtbceoinhmpnjaaaGreatDoor

