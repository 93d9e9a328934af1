/- Brackets around an expression: how the texts of the laws are read. -/
import Derived.Test.YtpmmhmgojjlniaaGreatDoorO08
import Derived.Test.YtpmmhmgojjlniaaGreatDoorO11
import Derived.Test.YtpmmhmgojjlniaaGreatDoorO12
import Derived.Deep.RegionWith
import Derived.BigRegion
namespace Go.Proofs.YtpmmhmgojjlniaaGreatDoor.Ar

/-- An expression's text stands in brackets for its choice, whatever is behind. -/
def Par (a : Bs) (c : List (List Nd)) : Prop := ∀ u, Px.atom (Px.choice 7) (40 :: (a ++ 41 :: u)) = .ok (.ch c, u)
theorem atom_open (d : Nat) (r : Bs) : Px.atom (Px.choice d) (40 :: r) = (match Px.choice d r with | .error e => .error e | .ok (c, k) => if Px.isAt k 41 = true then .ok (.ch c, Px.next k) else .error 4) := by
  rw [Px.atom, if_neg (by rw [Px.isAt_of (by decide)]; decide), if_neg (by rw [Px.isAt_of (by decide)]; decide), if_pos (by rw [Px.isAt_of (by decide)]; rfl), Px.next_of (by decide)]
  cases Px.choice d r <;> rfl
theorem choice_94 (d : Nat) {r t : Bs} (h : Px.skip r = 94 :: t) : Px.choice (d + 1) r = .ok ([[]], 94 :: t) := by
  rw [Px.choice, Px.rows, Px.row, h]
  rfl
theorem parse_parts {a : Bs} {f l : Bool} {c : List (List Nd)} (h : Px.parse a = .ok (f, l, c)) : ∃ k, Px.choice 8 (if Px.isAt a 94 = true then Px.next a else a) = .ok (c, k) ∧ f = Px.isAt a 94 ∧ l = Px.isAt k 36 ∧ Px.skip (if Px.isAt k 36 = true then Px.next k else k) = [] ∧ a.length ≤ 64 := by
  unfold Px.parse at h
  by_cases hl : 64 < a.length
  · rw [if_pos hl] at h; cases h
  · rw [if_neg hl] at h
    cases hc : Px.choice 8 (if Px.isAt a 94 = true then Px.next a else a) with
    | error e => rw [hc] at h; cases h
    | ok z =>
      obtain ⟨c', k⟩ := z
      rw [hc] at h
      simp only at h
      by_cases hk : Px.skip (if Px.isAt k 36 = true then Px.next k else k) = []
      · rw [if_pos hk] at h
        simp only [Except.ok.injEq, Prod.mk.injEq] at h
        obtain ⟨h1, h2, rfl⟩ := h
        exact ⟨k, rfl, h1.symm, h2.symm, hk, by omega⟩
      · rw [if_neg hk] at h; cases h
theorem isAt_two {r : Bs} {c d : UInt8} (h1 : Px.isAt r c = true) (h2 : Px.isAt r d = true) : c = d := by
  obtain ⟨t, e1, _⟩ := Px.isAt_some h1
  obtain ⟨t', e2, _⟩ := Px.isAt_some h2
  rw [e1] at e2
  exact (List.cons.inj e2).1
/-- If a text is an expression, and in brackets too, then without ^ and $, and as a choice. -/
theorem par_of {a : Bs} {f l : Bool} {c : List (List Nd)} (own : Px.parse a = .ok (f, l, c)) {x : Bool × Bool × List (List Nd)} (h : Px.parse (40 :: (a ++ [41])) = .ok x) : f = false ∧ l = false ∧ Par a c := by
  obtain ⟨k0, hc0, hf, hl, hk0, _⟩ := parse_parts own
  obtain ⟨f', l', c1⟩ := x
  obtain ⟨k1, hc1, _, _, _, _⟩ := parse_parts h
  rw [if_neg (by rw [Px.isAt_of (by decide)]; decide)] at hc1
  -- the atom is read
  obtain ⟨c', k', h7, h41⟩ : ∃ c' k', Px.choice 7 (a ++ [41]) = .ok (c', k') ∧ Px.isAt k' 41 = true := by
    rw [Px.choice, Px.rows, Px.row, Px.skip_of (by decide)] at hc1
    simp only [show Px.starts 40 = true from by decide, if_true, Px.item, atom_open] at hc1
    cases h7 : Px.choice 7 (a ++ [41]) with
    | error e => rw [h7] at hc1; cases hc1
    | ok z =>
      obtain ⟨c', k'⟩ := z
      rw [h7] at hc1
      simp only at hc1
      by_cases h41 : Px.isAt k' 41 = true
      · exact ⟨c', k', rfl, h41⟩
      · rw [if_neg h41] at hc1
        cases hc1
  have hfa : Px.isAt a 94 = false := by
    cases hb : Px.isAt a 94
    · rfl
    · obtain ⟨t, e1, _⟩ := Px.isAt_some hb
      have e2 : Px.skip (a ++ [41]) = 94 :: (t ++ [41]) := by rw [skip_app_ne (by rw [e1]; simp), e1]; rfl
      rw [choice_94 6 e2] at h7
      simp only [Except.ok.injEq, Prod.mk.injEq] at h7
      rw [← h7.2, Px.isAt_of (by decide)] at h41
      exact absurd h41 (by decide)
  rw [hfa] at hc0
  simp only [Bool.false_eq_true, if_false] at hc0
  have h8 := choice_app 8 _ _ _ [41] hc0 (.inr ⟨[], rfl⟩)
  rw [choice_deep 7 _ _ h7] at h8
  simp only [Except.ok.injEq, Prod.mk.injEq] at h8
  obtain ⟨rfl, rfl⟩ := h8
  have hla : Px.isAt k0 36 = false := by
    cases hb : Px.isAt k0 36
    · rfl
    · have := isAt_two (Cut.isAt_yes (u := [41]) (.inr ⟨[], rfl⟩) hb) h41
      exact absurd this (by decide)
  rw [hla] at hk0 hl
  simp only [Bool.false_eq_true, if_false] at hk0
  refine ⟨hf.trans hfa, hl, fun u => ?_⟩
  have hne : Px.skip (k0 ++ [41]) ≠ [] := by rw [skip_app_nil hk0]; decide
  have h9 := choice_app 7 _ _ _ u h7 (.inl hne)
  rw [List.append_assoc, List.append_assoc] at h9
  rw [atom_open, show a ++ 41 :: u = a ++ ([41] ++ u) from rfl, h9]
  have hs : Px.skip (k0 ++ ([41] ++ u)) = 41 :: u := by rw [skip_app_nil hk0]; exact Px.skip_of (by decide) u
  have hi : Px.isAt (k0 ++ ([41] ++ u)) 41 = true := by unfold Px.isAt; rw [hs]; rfl
  have hx : Px.next (k0 ++ ([41] ++ u)) = u := by unfold Px.next; rw [hs]; rfl
  simp only [hi, if_true, hx]

theorem par_item {a : Bs} {c : List (List Nd)} (h : Par a c) (u : Bs) (hs : Px.sign u = 0) : Px.item (Px.choice 7) (40 :: (a ++ 41 :: u)) = .ok (.ch c, u) := by
  unfold Px.item
  rw [h u]
  simp only [hs, if_true]
theorem par_row {a : Bs} {c : List (List Nd)} (h : Par a c) (f : Nat) (acc : List Nd) (u : Bs) (hs : Px.sign u = 0) : Px.row (Px.choice 7) (f + 1) acc (40 :: (a ++ 41 :: u)) = Px.row (Px.choice 7) f (acc ++ [.ch c]) u := by
  rw [Px.row, Px.skip_of (by decide)]
  simp only [show Px.starts 40 = true from by decide, if_true, par_item h u hs]
theorem row_stop {ch : Rdr} (f : Nat) (acc : List Nd) (t : Bs) (ht : Stop t) : Px.row ch (f + 1) acc t = .ok (acc, t) := by
  rw [Px.row, ht.skip]
  rcases ht with rfl | ⟨c, r, rfl, h⟩
  · rfl
  · rcases h with rfl | rfl | rfl <;> rfl
theorem rows_one {ch : Rdr} (f : Nat) (acc : List (List Nd)) (r t : Bs) (l : List Nd) (h : Px.row ch (r.length + 1) [] r = .ok (l, t)) (ht : Shut t) : Px.rows ch (f + 1) acc r = .ok (acc ++ [l], t) := by
  rw [Px.rows, h]
  have h124 : Px.isAt t 124 = false := by
    rcases ht with rfl | ⟨c, q, rfl, hq⟩
    · rfl
    · rcases hq with rfl | rfl <;> rfl
  simp only [h124, Bool.false_eq_true, if_false]
theorem par_choice {a : Bs} {c : List (List Nd)} (h : Par a c) (t : Bs) (ht : Shut t) : Px.choice 8 (40 :: (a ++ 41 :: t)) = .ok ([[.ch c]], t) := by
  rw [Px.choice]
  refine rows_one _ [] _ t [.ch c] ?_ ht
  rw [show (40 :: (a ++ 41 :: t)).length + 1 = ((a ++ 41 :: t).length + 1) + 1 from rfl, par_row h _ [] t ht.stop.sign, row_stop _ _ t ht.stop]
  rfl
theorem parse_of {f l : Bool} {c : List (List Nd)} (s : Bs) (h : s.length ≤ 64) (h94 : Px.isAt s 94 = f) (k : Bs) (hc : Px.choice 8 (if f = true then Px.next s else s) = .ok (c, k)) (h36 : Px.isAt k 36 = l) (hk : Px.skip (if l = true then Px.next k else k) = []) : Px.parse s = .ok (f, l, c) := by
  unfold Px.parse
  rw [if_neg (by omega), h94, hc]
  simp only [h36, hk, if_true]
/-- (a) -/
theorem parse_par {a : Bs} {c : List (List Nd)} (h : Par a c) (hl : (40 :: (a ++ [41])).length ≤ 64) : Px.parse (40 :: (a ++ [41])) = .ok (false, false, [[.ch c]]) :=
  parse_of _ hl (by rw [Px.isAt_of (by decide)]; rfl) [] (by simpa using par_choice h [] (.inl rfl)) rfl rfl
/-- (a)$ -/
theorem parse_par_last {a : Bs} {c : List (List Nd)} (h : Par a c) (hl : (40 :: (a ++ [41, 36])).length ≤ 64) : Px.parse (40 :: (a ++ [41, 36])) = .ok (false, true, [[.ch c]]) :=
  parse_of _ hl (by rw [Px.isAt_of (by decide)]; rfl) [36] (by simpa using par_choice h [36] (.inr ⟨36, [], rfl, .inr rfl⟩)) rfl rfl
/-- ^(a) -/
theorem parse_par_first {a : Bs} {c : List (List Nd)} (h : Par a c) (hl : (94 :: 40 :: (a ++ [41])).length ≤ 64) : Px.parse (94 :: 40 :: (a ++ [41])) = .ok (true, false, [[.ch c]]) :=
  parse_of _ hl (by rw [Px.isAt_of (by decide)]; rfl) [] (by simpa [Px.next_of (show (94 : UInt8) ≠ 32 by decide)] using par_choice h [] (.inl rfl)) rfl rfl
/-- ^(a)$ -/
theorem parse_par_both {a : Bs} {c : List (List Nd)} (h : Par a c) (hl : (94 :: 40 :: (a ++ [41, 36])).length ≤ 64) : Px.parse (94 :: 40 :: (a ++ [41, 36])) = .ok (true, true, [[.ch c]]) :=
  parse_of _ hl (by rw [Px.isAt_of (by decide)]; rfl) [36] (by simpa [Px.next_of (show (94 : UInt8) ≠ 32 by decide)] using par_choice h [36] (.inr ⟨36, [], rfl, .inr rfl⟩)) rfl rfl
/-- (a)|(b) -/
theorem parse_either {a b : Bs} {c d : List (List Nd)} (h : Par a c) (h2 : Par b d) (hl : (40 :: (a ++ 41 :: 124 :: 40 :: (b ++ [41]))).length ≤ 64) : Px.parse (40 :: (a ++ 41 :: 124 :: 40 :: (b ++ [41]))) = .ok (false, false, [[.ch c], [.ch d]]) := by
  refine parse_of _ hl (by rw [Px.isAt_of (by decide)]; rfl) [] ?_ rfl rfl
  simp only [Bool.false_eq_true, if_false]
  have hst : Stop (124 :: 40 :: (b ++ [41])) := .inr ⟨124, _, rfl, .inl rfl⟩
  rw [Px.choice, Px.rows, show (40 :: (a ++ 41 :: 124 :: 40 :: (b ++ [41]))).length + 1 = ((a ++ 41 :: 124 :: 40 :: (b ++ [41])).length + 1) + 1 from rfl, par_row h _ [] _ hst.sign, row_stop _ _ _ hst]
  simp only [Px.isAt_of (show (124 : UInt8) ≠ 32 by decide), Px.next_of (show (124 : UInt8) ≠ 32 by decide), BEq.rfl, if_true]
  have e : ∃ g, (40 :: (a ++ 41 :: 124 :: 40 :: (b ++ [41]))).length = g + 1 := ⟨_, rfl⟩
  obtain ⟨g, hg⟩ := e
  rw [hg]
  refine rows_one g ([] ++ [[] ++ [.ch c]]) _ [] [.ch d] ?_ (.inl rfl)
  rw [show (40 :: (b ++ [41])).length + 1 = ((b ++ [41]).length + 1) + 1 from rfl, par_row h2 _ [] [] rfl, row_stop _ _ [] (.inl rfl)]
  rfl
/-- (a) (b) -/
theorem parse_both {a b : Bs} {c d : List (List Nd)} (h : Par a c) (h2 : Par b d) (hl : (40 :: (a ++ 41 :: 32 :: 40 :: (b ++ [41]))).length ≤ 64) : Px.parse (40 :: (a ++ 41 :: 32 :: 40 :: (b ++ [41]))) = .ok (false, false, [[.ch c, .ch d]]) := by
  refine parse_of _ hl (by rw [Px.isAt_of (by decide)]; rfl) [] ?_ rfl rfl
  simp only [Bool.false_eq_true, if_false]
  rw [Px.choice]
  refine rows_one _ [] _ [] [.ch c, .ch d] ?_ (.inl rfl)
  have hs : Px.sign (32 :: 40 :: (b ++ [41])) = 0 := sign_of (by rw [Px.isAt_blank, Px.isAt_of (by decide)]; rfl) (by rw [Px.isAt_blank, Px.isAt_of (by decide)]; rfl) (by rw [Px.isAt_blank, Px.isAt_of (by decide)]; rfl)
  rw [show (40 :: (a ++ 41 :: 32 :: 40 :: (b ++ [41]))).length + 1 = ((a ++ 41 :: 32 :: 40 :: (b ++ [41])).length + 1) + 1 from rfl, par_row h _ [] _ hs, row_blank]
  obtain ⟨g, hg⟩ : ∃ g, (a ++ 41 :: 32 :: 40 :: (b ++ [41])).length + 1 = g + 1 + 1 := ⟨(a ++ 32 :: 40 :: (b ++ [41])).length, by simp only [List.length_append, List.length_cons]; omega⟩
  rw [hg, par_row h2 _ _ [] rfl, row_stop _ _ [] (.inl rfl)]
  rfl
theorem parse_signed {a : Bs} {c : List (List Nd)} (h : Par a c) (d : UInt8) (k : Nat) (hd : d ≠ 32) (hk : Px.sign [d] = k) (hk0 : k ≠ 0) (hl : (40 :: (a ++ [41, d])).length ≤ 64) : Px.parse (40 :: (a ++ [41, d])) = .ok (false, false, [[.st k (.ch c)]]) := by
  refine parse_of _ hl (by rw [Px.isAt_of (by decide)]; rfl) [] ?_ rfl rfl
  simp only [Bool.false_eq_true, if_false]
  rw [Px.choice]
  refine rows_one _ [] _ [] [.st k (.ch c)] ?_ (.inl rfl)
  rw [Px.row, Px.skip_of (by decide)]
  have hi : Px.item (Px.choice 7) (40 :: (a ++ [41, d])) = .ok (.st k (.ch c), []) := by
    unfold Px.item
    rw [h [d]]
    simp only [hk, if_neg hk0, Px.next_of hd]
  simp only [show Px.starts 40 = true from by decide, if_true, hi]
  rw [show (40 :: (a ++ [41, d])).length = (a ++ [41, d]).length + 1 from rfl, row_stop _ _ [] (.inl rfl)]
  rfl
end Go.Proofs.YtpmmhmgojjlniaaGreatDoor.Ar
namespace Go.Proofs.YtpmmhmgojjlniaaGreatDoor.Ar
open Go.RowKit Go.Sort

def cutA (ao : Option Addr) (ca i : Nat) : Option Addr := if ca = i then ao else ao.map (·.add i)
theorem slot_cut {W : World} {ao : Option Addr} {l : List Int} {ca : Nat} (hA : Is.slot W ao l) (hc : l.length ≤ ca) (i k : Nat) (_hik : i ≤ k) (hk : k ≤ l.length) : Is.slot W (cutA ao ca i) ((l.take k).drop i) := by
  unfold cutA
  by_cases hi : ca = i
  · left
    rw [List.drop_eq_nil_iff, List.length_take]
    omega
  · rw [if_neg hi]
    rcases hA with rfl | ⟨b, off, rfl, hr⟩
    · left; simp
    · refine .inr ⟨b, off + i, ?_, fun j hj => ?_⟩
      · simp [Addr.add]
      · have hj' : i + j < l.length := by rw [List.length_drop, List.length_take] at hj; omega
        have := hr (i + j) hj'
        rw [Nat.add_assoc, this]
        simp
theorem may_cut {l : List Int} (h : Is.may l = true) (i k : Nat) : Is.may ((l.take k).drop i) = true := by
  have h1 := (Is.may_iff l).1 h
  refine (Is.may_iff _).2 ⟨?_, fun j hj => ?_⟩
  · rw [List.length_drop, List.length_take]; omega
  · rw [List.length_drop, List.length_take] at hj
    have := h1.2 (i + j) (by omega)
    simpa using this
theorem fun_of (P : Nat → Nat → Prop) : ∃ f : Nat → Nat → Bool, ∀ i k, f i k = true ↔ P i k :=
  ⟨fun i k => (bool_of (P i k)).choose, fun i k => (bool_of (P i k)).choose_spec⟩

/-- What the loops have seen ahead of (i, k): is there a piece of P's among it? -/
def Seen (f : Nat → Nat → Bool) (n : Nat) (P : Nat → Nat → Prop) (i k : Nat) (b : Bool) : Prop := b = true ↔ ∃ i' k', i' ≤ k' ∧ k' ≤ n ∧ (i' < i ∨ i' = i ∧ k' < k) ∧ P i' k' ∧ f i' k' = true
theorem Seen.start (f : Nat → Nat → Bool) (n : Nat) (P : Nat → Nat → Prop) : Seen f n P 0 0 false := by
  refine ⟨fun h => (by cases h), ?_⟩
  rintro ⟨i', k', h1, _, h2, _⟩
  omega
theorem Seen.step {f : Nat → Nat → Bool} {n : Nat} {P : Nat → Nat → Prop} {i k : Nat} {b : Bool} (h : Seen f n P i k b) (hik : i ≤ k) (hk : k ≤ n) (b' : Bool) (hb : b' = true ↔ b = true ∨ (P i k ∧ f i k = true)) : Seen f n P i (k + 1) b' := by
  refine hb.trans ?_
  constructor
  · rintro (h0 | ⟨hp, hf⟩)
    · obtain ⟨i', k', h1, h2, h3, h4⟩ := h.1 h0
      exact ⟨i', k', h1, h2, by omega, h4⟩
    · exact ⟨i, k, hik, hk, by omega, hp, hf⟩
  · rintro ⟨i', k', h1, h2, h3, h4, h5⟩
    by_cases he : i' = i ∧ k' = k
    · obtain ⟨rfl, rfl⟩ := he
      exact .inr ⟨h4, h5⟩
    · exact .inl (h.2 ⟨i', k', h1, h2, by omega, h4, h5⟩)
theorem Seen.next {f : Nat → Nat → Bool} {n : Nat} {P : Nat → Nat → Prop} {i k : Nat} {b : Bool} (h : Seen f n P i k b) (hk : n < k) : Seen f n P (i + 1) (i + 1) b := by
  refine h.trans ?_
  constructor
  · rintro ⟨i', k', h1, h2, h3, h4⟩
    exact ⟨i', k', h1, h2, by omega, h4⟩
  · rintro ⟨i', k', h1, h2, h3, h4⟩
    exact ⟨i', k', h1, h2, by omega, h4⟩
theorem Seen.done {f : Nat → Nat → Bool} {n : Nat} {P : Nat → Nat → Prop} {i k : Nat} {b : Bool} (h : Seen f n P i k b) (hi : n < i) : b = true ↔ ∃ i' k', i' ≤ k' ∧ k' ≤ n ∧ P i' k' ∧ f i' k' = true := by
  refine h.trans ?_
  constructor
  · rintro ⟨i', k', h1, h2, _, h4⟩
    exact ⟨i', k', h1, h2, h4⟩
  · rintro ⟨i', k', h1, h2, h4⟩
    exact ⟨i', k', h1, h2, by omega, h4⟩
end Go.Proofs.YtpmmhmgojjlniaaGreatDoor.Ar
namespace Go.Proofs.YtpmmhmgojjlniaaGreatDoor.Ar
open Go.RowKit Go.Sort

/-- Two texts added up. -/
theorem adds_any (s t : ByteArray) (h1 : s.size ≤ 1000) (h2 : t.size ≤ 1000) : ∃ z : ByteArray, Adds s t z ∧ z.data.toList = s.data.toList ++ t.data.toList ∧ z.size = s.size + t.size :=
  ⟨s ++ t, adds_mk s t _ (by unfold maxLen; omega) rfl, by simp [ByteArray.data_append], by simp⟩

end Go.Proofs.YtpmmhmgojjlniaaGreatDoor.Ar
namespace Go.Proofs.YtpmmhmgojjlniaaGreatDoor.Ar
open Go.RowKit Go.Sort

theorem Nd.moreText_app (a : List Nd) (x : Nd) : Nd.moreText (a ++ [x]) = Nd.moreText a ++ 32 :: Nd.text x := by
  induction a with
  | nil => simp [Nd.moreText]
  | cons y r ih => simp only [List.cons_append, Nd.moreText, ih]; simp
theorem Nd.rowText_app (a : List Nd) (x : Nd) : Nd.rowText (a ++ [x]) = Nd.rowText a ++ ((if a.length = 0 then [] else [32]) ++ Nd.text x) := by
  cases a with
  | nil => simp [Nd.rowText, Nd.moreText]
  | cons y r => simp only [List.cons_append, Nd.rowText, Nd.moreText_app]; simp
theorem Nd.alsoText_app (a : List (List Nd)) (x : List Nd) : Nd.alsoText (a ++ [x]) = Nd.alsoText a ++ 124 :: Nd.rowText x := by
  induction a with
  | nil => simp [Nd.alsoText]
  | cons y r ih => simp only [List.cons_append, Nd.alsoText, ih]; simp
theorem Nd.rowsText_app (a : List (List Nd)) (x : List Nd) : Nd.rowsText (a ++ [x]) = Nd.rowsText a ++ ((if a.length = 0 then [] else [124]) ++ Nd.rowText x) := by
  cases a with
  | nil => simp [Nd.rowsText, Nd.alsoText]
  | cons y r => simp only [List.cons_append, Nd.rowsText, Nd.alsoText_app]; simp
theorem Px.pairs_app (a : List Prt) (p : Prt) : Px.pairs (a ++ [p]) = Px.pairs a ++ ((if a.length = 0 then [] else [32]) ++ Px.pair p) := by
  induction a with
  | nil => simp [Px.pairs]
  | cons y r ih =>
    cases r with
    | nil => simp [Px.pairs]
    | cons z r' =>
      have := ih
      simp only [List.cons_append, Px.pairs] at this ⊢
      rw [this]
      simp
theorem Nd.row_step (l : List Nd) (k : Nat) (h : k < l.length) : Nd.rowText (l.take (k + 1)) = Nd.rowText (l.take k) ++ ((if k = 0 then [] else [32]) ++ Nd.text l[k]) := by
  rw [List.take_succ_eq_append_getElem h, Nd.rowText_app, List.length_take, Nat.min_eq_left (by omega)]
theorem Nd.rows_step (l : List (List Nd)) (k : Nat) (h : k < l.length) : Nd.rowsText (l.take (k + 1)) = Nd.rowsText (l.take k) ++ ((if k = 0 then [] else [124]) ++ Nd.rowText l[k]) := by
  rw [List.take_succ_eq_append_getElem h, Nd.rowsText_app, List.length_take, Nat.min_eq_left (by omega)]
theorem Px.pairs_step (l : List Prt) (k : Nat) (h : k < l.length) : Px.pairs (l.take (k + 1)) = Px.pairs (l.take k) ++ ((if k = 0 then [] else [32]) ++ Px.pair l[k]) := by
  rw [List.take_succ_eq_append_getElem h, Px.pairs_app, List.length_take, Nat.min_eq_left (by omega)]
theorem up_le {f : Nat → Nat} {n : Nat} (h : ∀ k, k < n → f k ≤ f (k + 1)) : ∀ k j, k ≤ j → j ≤ n → f k ≤ f j
  | k, 0, hk, _ => by obtain rfl : k = 0 := by omega
                      exact Nat.le_refl _
  | k, j + 1, hk, hj => by
    rcases Nat.lt_or_ge k (j + 1) with h1 | h1
    · exact Nat.le_trans (up_le h k j (by omega) (by omega)) (h j (by omega))
    · obtain rfl : k = j + 1 := by omega
      exact Nat.le_refl _
theorem Nd.row_le (l : List Nd) (k : Nat) (h : k ≤ l.length) : (Nd.rowText (l.take k)).length ≤ (Nd.rowText l).length := by
  have := up_le (f := fun k => (Nd.rowText (l.take k)).length) (n := l.length) (fun k hk => by
    show _ ≤ (Nd.rowText (l.take (k + 1))).length
    rw [Nd.row_step l k hk, List.length_append]; omega) k l.length h (Nat.le_refl _)
  simpa using this
theorem Nd.rows_le (l : List (List Nd)) (k : Nat) (h : k ≤ l.length) : (Nd.rowsText (l.take k)).length ≤ (Nd.rowsText l).length := by
  have := up_le (f := fun k => (Nd.rowsText (l.take k)).length) (n := l.length) (fun k hk => by
    show _ ≤ (Nd.rowsText (l.take (k + 1))).length
    rw [Nd.rows_step l k hk, List.length_append]; omega) k l.length h (Nat.le_refl _)
  simpa using this
theorem Px.pairs_le (l : List Prt) (k : Nat) (h : k ≤ l.length) : (Px.pairs (l.take k)).length ≤ (Px.pairs l).length := by
  have := up_le (f := fun k => (Px.pairs (l.take k)).length) (n := l.length) (fun k hk => by
    show _ ≤ (Px.pairs (l.take (k + 1))).length
    rw [Px.pairs_step l k hk, List.length_append]; omega) k l.length h (Nat.le_refl _)
  simpa using this
theorem Nd.trRow_map (l : List Nd) : Nd.trRow l = l.map Nd.tr := by
  induction l with
  | nil => simp [Nd.trRow]
  | cons x r ih => simp only [Nd.trRow, List.map_cons, ih]
theorem Nd.trRows_map (l : List (List Nd)) : Nd.trRows l = l.map fun r => .mk 1 false false [] [] (r.map Nd.tr) := by
  induction l with
  | nil => simp [Nd.trRows]
  | cons x r ih => simp only [Nd.trRows, List.map_cons, ih, Nd.trRow_map]
theorem Tr.inv {w : World} {k : Int} {d s : Bool} {f t : List Int} {ks : List Tr} {cs : List Value} (h : Tr.At w (.mk k d s f t ks) cs) :
    ∃ (fo : Option Addr) (fc : Nat) (to : Option Addr) (tc : Nat) (ko : Option Addr) (kc b off : Nat) (css : Nat → List Value), cs = [.int .i64 k, .bool d, .bool s, .slice fo f.length fc, .slice to t.length tc, .slice ko ks.length kc] ∧ (f.length ≤ 100000 ∧ t.length ≤ 100000 ∧ ks.length ≤ 100000) ∧ Is.slot w fo f ∧ Is.slot w to t ∧ (ks = [] ∨ ko = some ⟨b, off, none⟩) ∧ (∀ i, i < ks.length → Six w b (off + i * 6) (css i)) ∧ (∀ i (h : i < ks.length), Tr.At w ks[i] (css i)) := by
  cases h with
  | mk b off css hn hf ht hk hr ha => exact ⟨_, _, _, _, _, _, b, off, css, rfl, hn, hf, ht, hk, hr, ha⟩
abbrev tx (l : Bs) : ByteArray := ⟨l.toArray⟩
theorem adds_tx (x y : Bs) (z : Bs) (hz : z = x ++ y) (h1 : x.length ≤ 100000) (h2 : y.length ≤ 100000) : Adds (tx x) (tx y) (tx z) := by
  subst hz
  exact adds_list x y h1 h2
end Go.Proofs.YtpmmhmgojjlniaaGreatDoor.Ar
namespace Go.Proofs.YtpmmhmgojjlniaaGreatDoor.Ar
open Go.RowKit Go.Sort

/-- Six values of one cell each. -/
def One6 (x0 x1 x2 x3 x4 x5 : Value) : Prop := x0.oneCell' = true ∧ x1.oneCell' = true ∧ x2.oneCell' = true ∧ x3.oneCell' = true ∧ x4.oneCell' = true ∧ x5.oneCell' = true
/-- What a reader of a node hands back. -/
def NodeGood (s : ByteArray) (W : World) (R : Except Int (Nd × Bs)) (e : Ending) (w' : World) : Prop :=
  Below W.heap.size W w' ∧
  match R with
  | .ok (n, k) => ∃ (j : Nat) (x0 x1 x2 x3 x4 x5 : Value), Pos s j k ∧ Tr.Own W.heap.size w' (Nd.tr n) [x0, x1, x2, x3, x4, x5] ∧ e = .returned (.tuple #[.agg #[x0, x1, x2, x3, x4, x5], .int .i64 j, .int .i64 0])
  | .error q => ∃ (x0 x1 x2 x3 x4 x5 : Value) (j : Int), One6 x0 x1 x2 x3 x4 x5 ∧ e = .returned (.tuple #[.agg #[x0, x1, x2, x3, x4, x5], .int .i64 j, .int .i64 q])
def setR (R : Except Int (List Prt × Bs)) : Except Int (Nd × Bs) := match R with | .ok (rs, k) => .ok (.num false true rs, k) | .error e => .error e

theorem append_lies3 {w : World} {ops : Array Oper} {rest : List Oper} {o : Oper} {a : Act} {Q : Exit → Act → World → Prop} (hgd : o.guard = none) (s x : Operand)
    (ho : o.op = .call { callee := .builtin .append, args := #[s, x], argTypes := #[57, 57] }) (B : Nat) (v : Value) (n : Nat) (xs : List Value) (hs : a.eval s = v) (hown : w.ownsRow B 3 1 v n xs)
    (u : Int) (g0 c : Nat) (hx : a.eval x = .slice (some ⟨g0, 0, none⟩) 1 c) (hc : w.cell? ⟨g0, 0, none⟩ = some (.int .i64 u)) (hn : n ≤ 1000) (hB : B ≤ w.heap.size) (H : Nat) (hH : w.heap.size = H)
    (h : ∀ g cap w', w'.ownsRow B 3 1 (.slice (some ⟨g, 0, none⟩) (n + 1) cap) (n + 1) (xs ++ [.int .i64 u]) → w.grownBy w' v.ownBlock → (v.ownBlock = some g ∨ g = H) → wpList Tryz.prog ops Q rest (a.put o.dst (.slice (some ⟨g, 0, none⟩) (n + 1) cap)) w') : wpList Tryz.prog ops Q (o :: rest) a w := by
  obtain ⟨i0, hi, hz0, hz1, hz2⟩ := info_partsI
  refine wpList_append_lies w hgd s x 57 ho B 3 i0 _ 1 8 Tryz.underlying57 hi hz0 hz1 hz2 rfl (by decide) v n xs hs hown ⟨g0, 0, none⟩ 1 c [.int .i64 u] hx rfl ?_ (Is.cells_one [u]) (by decide) (by unfold maxLen; omega) (by omega) hB H hH fun g cap w' h1 h2 h3 _ => h g cap w' h1 h2 h3
  intro j q hj
  match j, hj with
  | 0, hj =>
    simp at hj
    subst hj
    simpa [Addr.add] using hc
theorem drew_heap (w : World) : w.drew.heap = w.heap := rfl
theorem box_drew {w : World} {b : Nat} {x0 x1 x2 x3 x4 x5 : Value} (h : Box w b x0 x1 x2 x3 x4 x5) : Box w.drew b x0 x1 x2 x3 x4 x5 := h
theorem wrap_ok (n : Nat) (h : n ≤ 100000) : IntKind.i64.wrap (n : Int) = (n : Int) := by
  simp (disch := omega) only [IntWalk.i64_in]
theorem wrap_succ (m : Nat) (h : m ≤ 100000) : IntKind.i64.wrap ((m : Int) + 1) = ((m + 1 : Nat) : Int) := by
  simp (disch := omega) only [IntWalk.i64_in]
  omega
theorem nodeGood_ok {s : ByteArray} {W w' : World} {R : Except Int (Nd × Bs)} {n : Nd} {k : Bs} {j : Nat} {ji : Int} {x0 x1 x2 x3 x4 x5 : Value} (hR : R = .ok (n, k)) (hb : Below W.heap.size W w') (hp : Pos s j k) (ht : Tr.Own W.heap.size w' (Nd.tr n) [x0, x1, x2, x3, x4, x5]) (hj : ji = (j : Int)) : NodeGood s W R (.returned (.tuple #[.agg #[x0, x1, x2, x3, x4, x5], .int .i64 ji, .int .i64 0])) w' := by
  rw [hR, hj]
  exact ⟨hb, j, x0, x1, x2, x3, x4, x5, hp, ht, rfl⟩
theorem cell_new (W : World) (x : Value) (t : TypeId) : (W.alloc (.cells #[x] t)).cell? ⟨W.heap.size, 0, none⟩ = some x := by simp
theorem Pos.nextAt {s : ByteArray} {j : Nat} {k : Bs} (h : Pos s j k) {c : UInt8} (hc : Px.isAt k c = true) : Pos s (s.size - (Px.skip k).length + 1) (Px.next k) := by
  obtain ⟨t, h1, h2⟩ := Px.isAt_some hc
  have hp := h.skip
  rw [h1] at hp
  obtain ⟨_, _, h3⟩ := hp.cons
  rw [h1, h2]
  exact h3
theorem set_err1 {f : Nat} {acc : List Prt} {r : Bs} {q : Int} (h : ¬ (acc ≠ [] ∧ Px.isAt r 93 = true)) (h1 : Px.number r = .error q) : Px.set (f + 1) acc r = .error q := by
  rw [Px.set, if_neg h, h1]
theorem set_one {f : Nat} {acc : List Prt} {r k : Bs} {a : Int} (h : ¬ (acc ≠ [] ∧ Px.isAt r 93 = true)) (h1 : Px.number r = .ok (a, k)) (h2 : Px.isAt k 45 = false) : Px.set (f + 1) acc r = Px.set f (acc ++ [(a, a, false)]) k := by
  rw [Px.set, if_neg h, h1]
  simp [h2]
theorem set_err2 {f : Nat} {acc : List Prt} {r k : Bs} {a q : Int} (h : ¬ (acc ≠ [] ∧ Px.isAt r 93 = true)) (h1 : Px.number r = .ok (a, k)) (h2 : Px.isAt k 45 = true) (h3 : Px.number (Px.next k) = .error q) : Px.set (f + 1) acc r = .error q := by
  rw [Px.set, if_neg h, h1]
  simp [h2, h3]
theorem set_less {f : Nat} {acc : List Prt} {r k k2 : Bs} {a b : Int} (h : ¬ (acc ≠ [] ∧ Px.isAt r 93 = true)) (h1 : Px.number r = .ok (a, k)) (h2 : Px.isAt k 45 = true) (h3 : Px.number (Px.next k) = .ok (b, k2)) (h4 : b < a) : Px.set (f + 1) acc r = .error 7 := by
  rw [Px.set, if_neg h, h1]
  simp [h2, h3, h4]
theorem set_two {f : Nat} {acc : List Prt} {r k k2 : Bs} {a b : Int} (h : ¬ (acc ≠ [] ∧ Px.isAt r 93 = true)) (h1 : Px.number r = .ok (a, k)) (h2 : Px.isAt k 45 = true) (h3 : Px.number (Px.next k) = .ok (b, k2)) (h4 : ¬ b < a) : Px.set (f + 1) acc r = Px.set f (acc ++ [(a, b, true)]) k2 := by
  rw [Px.set, if_neg h, h1]
  simp [h2, h3, h4]
theorem nodeGood_err {s : ByteArray} {W w' : World} {R : Except Int (Nd × Bs)} {q j : Int} {x0 x1 x2 x3 x4 x5 : Value} (hR : R = .error q) (hb : Below W.heap.size W w') (h1 : One6 x0 x1 x2 x3 x4 x5) : NodeGood s W R (.returned (.tuple #[.agg #[x0, x1, x2, x3, x4, x5], .int .i64 j, .int .i64 q])) w' := by
  rw [hR]
  exact ⟨hb, x0, x1, x2, x3, x4, x5, j, h1, rfl⟩
/-- The node that a set hands back. -/
theorem setInv_at {W : World} {acc : List Prt} {fo to : Option Addr} {fc tc : Nat} {wr w' : World} (h : SetInv W acc (.slice fo acc.length fc) (.slice to acc.length tc) wr) (hl : acc.length ≤ 1000) (hb : ∀ k, W.heap.size + 2 ≤ k → k < wr.heap.size → w'.heap[k]? = wr.heap[k]?) :
    Tr.At w' (Nd.tr (.num false true acc)) [.int .i64 0, .bool false, .bool true, .slice fo acc.length fc, .slice to acc.length tc, .slice none 0 0] := by
  have hs : ∀ {o : Option Addr} {c : Nat} {xs : List Int}, xs.length = acc.length → wr.ownsRow (W.heap.size + 2) 3 1 (.slice o acc.length c) acc.length (Is.cells xs) → Is.slot w' o xs := by
    intro o c xs hx ho
    rcases ho.2 with ⟨h1, h2⟩ | ⟨g, cap, cur, h1, h2, h3, h4, h5, h6, h7⟩
    · left
      exact List.length_eq_zero_iff.1 (by omega)
    · simp only [Value.slice.injEq] at h1
      refine .inr ⟨g, 0, h1.1, fun j hj => ?_⟩
      have hg : w'.heap[g]? = some (.cells cur 3) := (hb g h2 (heap_lt h3)).trans h3
      rw [cell_of_row w' g _ cur 3 _ hg, Nat.zero_add]
      have h8 : (cur.toList.take (acc.length * 1))[j]? = (Is.cells xs)[j]? := by rw [h7]
      rw [List.getElem?_take, if_pos (by omega)] at h8
      simpa [Is.cells, hj] using h8
  have e1 : (acc.map Prod.fst).length = acc.length := by simp
  have e2 : (acc.map fun p => p.2.1).length = acc.length := by simp
  have := Tr.At.mk (w := w') (k := 0) (d := false) (s := true) (f := acc.map Prod.fst) (t := acc.map fun p => p.2.1) (ks := []) (fo := fo) (fc := fc) (to := to) (tc := tc) (ko := none) (kc := 0) 0 0 (fun _ => []) ⟨by omega, by omega, by simp⟩ (hs e1 h.rowF) (hs e2 h.rowT) (.inl rfl) (fun i hi => by simp at hi) (fun i hi => by simp at hi)
  rw [e1, e2] at this
  rw [Nd.tr]
  exact this

end Go.Proofs.YtpmmhmgojjlniaaGreatDoor.Ar
