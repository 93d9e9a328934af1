import Derived.Test.YtbceoinhmpnjaaaGreatDoorR1
import Derived.Test.YtbceoinhmpnjaaaGreatDoorP9
/- How long a plain text and how great a size can be. -/
namespace Go.Proofs.YtbceoinhmpnjaaaGreatDoor

theorem pair_len {p : Prt} (h : Px.goodPair p) : (Px.pair p).length ≤ 43 := by
  obtain ⟨h1, h2, _⟩ := h
  have h1 := (Is.as_iff _).1 h1
  have h2 := (Is.as_iff _).1 h2
  have l1 := itoa_len p.1 (by omega) (by omega)
  have l2 := itoa_len p.2.1 (by omega) (by omega)
  unfold Px.pair
  split
  · simp only [List.length_append, List.length_cons]; omega
  · omega
theorem pairs_push (acc : List (Prt)) {p : Prt} (h : Px.goodPair p) : (Px.pairs (acc ++ [p])).length ≤ (Px.pairs acc).length + 44 := by
  have := pair_len h
  rw [Px.pairs_app, List.length_append, List.length_append]
  split <;> simp <;> omega
theorem set_len : ∀ (f : Nat) (acc : List (Prt)) (r : Bs) (rs : List (Prt)) (k : Bs), Px.set f acc r = .ok (rs, k) → (Px.pairs rs).length + 50 * k.length ≤ (Px.pairs acc).length + 50 * r.length
  | 0, _, _, _, _, h => by cases h
  | f + 1, acc, r, rs, k, h => by
    rw [Px.set] at h
    split at h
    · rename_i hc
      simp only [Except.ok.injEq, Prod.mk.injEq] at h
      obtain ⟨rfl, rfl⟩ := h
      have := Px.next_len hc.2
      omega
    · split at h
      · cases h
      · rename_i a k1 hn
        have h1 := (Px.number_suf hn).2
        have ga := number_as hn
        split at h
        · rename_i h45
          have h2 := Px.next_len h45
          split at h
          · cases h
          · rename_i b k2 hn2
            have h3 := (Px.number_suf hn2).2
            have gb := number_as hn2
            split at h
            · cases h
            · rename_i hlt
              have h4 := set_len f _ k2 rs k h
              have h5 := pairs_push acc (p := (a, b, true)) ⟨ga, gb, by simpa using hlt, fun e => by cases e⟩
              omega
        · have h4 := set_len f _ k1 rs k h
          have h5 := pairs_push acc (p := (a, a, false)) ⟨ga, ga, Int.le_refl _, fun _ => rfl⟩
          omega
/-- A reader's text and size are paid by what it reads. -/
def Pays (ch : Bs → Except Int (List (List Nd) × Bs)) : Prop := ∀ r c k, ch r = .ok (c, k) → (Nd.rowsText c).length + 50 * k.length ≤ 1 + 50 * r.length ∧ Nd.sizeRows c + k.length ≤ r.length
theorem atom_len {ch : Bs → Except Int (List (List Nd) × Bs)} (hc : Pays ch) {r : Bs} {n : Nd} {k : Bs} (h : Px.atom ch r = .ok (n, k)) : (Nd.text n).length + 1 + 50 * k.length ≤ 50 * r.length ∧ Nd.size n + k.length ≤ r.length := by
  unfold Px.atom at h
  split at h
  · rename_i h1
    simp only [Except.ok.injEq, Prod.mk.injEq] at h
    obtain ⟨rfl, rfl⟩ := h
    have := Px.next_len h1
    simp [Nd.text, Nd.size]
    omega
  · split at h
    · rename_i h1
      have hl := Px.next_len h1
      split at h
      · cases h
      · rename_i rs k1 hs
        simp only [Except.ok.injEq, Prod.mk.injEq] at h
        obtain ⟨rfl, rfl⟩ := h
        have h2 := set_len _ _ _ _ _ hs
        have h3 := (Px.set_suf _ _ _ _ _ hs).2
        simp [Nd.text, Nd.size, Px.pairs] at h2 ⊢
        omega
    · split at h
      · rename_i h1
        have hl := Px.next_len h1
        split at h
        · cases h
        · rename_i c k1 hs
          obtain ⟨h2, h3⟩ := hc _ _ _ hs
          split at h
          · rename_i h41
            have h4 := Px.next_len h41
            simp only [Except.ok.injEq, Prod.mk.injEq] at h
            obtain ⟨rfl, rfl⟩ := h
            simp [Nd.text, Nd.size]
            omega
          · cases h
      · split at h
        · cases h
        · rename_i x k1 hn
          simp only [Except.ok.injEq, Prod.mk.injEq] at h
          obtain ⟨rfl, rfl⟩ := h
          have h1 := (Px.number_suf hn).2
          have ga := (Is.as_iff _).1 (number_as hn)
          have l1 := itoa_len x (by omega) (by omega)
          simp [Nd.text, Nd.size, Px.pairs, Px.pair]
          omega
theorem item_len {ch : Bs → Except Int (List (List Nd) × Bs)} (hc : Pays ch) {r : Bs} {n : Nd} {k : Bs} (h : Px.item ch r = .ok (n, k)) : (Nd.text n).length + 1 + 50 * k.length ≤ 50 * r.length ∧ Nd.size n + k.length ≤ r.length := by
  unfold Px.item at h
  split at h
  · cases h
  · rename_i n1 k1 hs
    have h1 := atom_len hc hs
    split at h
    · simp only [Except.ok.injEq, Prod.mk.injEq] at h
      obtain ⟨rfl, rfl⟩ := h
      exact h1
    · rename_i hsg
      simp only [Except.ok.injEq, Prod.mk.injEq] at h
      obtain ⟨rfl, rfl⟩ := h
      obtain ⟨d, hd⟩ := sign_isAt hsg
      have h2 := Px.next_len hd
      have h3 : (Px.signText (Px.sign k1)).length = 1 := by
        unfold Px.signText
        split
        · rfl
        · split <;> rfl
      simp only [Nd.text, Nd.size, List.length_append, h3]
      omega
theorem Nd.sizeRow_app (a : List Nd) (x : Nd) : Nd.sizeRow (a ++ [x]) = Nd.sizeRow a + Nd.size x := by
  induction a with
  | nil => simp [Nd.sizeRow]
  | cons y r ih => simp only [List.cons_append, Nd.sizeRow, ih]; omega
theorem Nd.sizeRows_app (a : List (List Nd)) (x : List Nd) : Nd.sizeRows (a ++ [x]) = Nd.sizeRows a + Nd.sizeRow x := by
  induction a with
  | nil => simp [Nd.sizeRows]
  | cons y r ih => simp only [List.cons_append, Nd.sizeRows, ih]; omega
theorem row_len {ch : Bs → Except Int (List (List Nd) × Bs)} (hc : Pays ch) : ∀ (f : Nat) (acc : List Nd) (r : Bs) (l : List Nd) (k : Bs), Px.row ch f acc r = .ok (l, k) → (Nd.rowText l).length + 50 * k.length ≤ (Nd.rowText acc).length + 50 * r.length ∧ Nd.sizeRow l + k.length ≤ Nd.sizeRow acc + r.length
  | 0, _, _, _, _, h => by cases h
  | f + 1, acc, r, l, k, h => by
    rw [Px.row] at h
    have hsk := (Px.skip_suf r).length_le
    split at h
    · simp only [Except.ok.injEq, Prod.mk.injEq] at h
      obtain ⟨rfl, rfl⟩ := h
      simp
    · rename_i c t hs
      rw [hs] at hsk
      split at h
      · split at h
        · cases h
        · rename_i n k1 hi
          obtain ⟨h1, h2⟩ := item_len hc hi
          obtain ⟨h3, h4⟩ := row_len hc f _ k1 l k h
          rw [Nd.rowText_app, List.length_append, List.length_append] at h3
          rw [Nd.sizeRow_app] at h4
          have h5 : (if acc.length = 0 then ([] : Bs) else [32]).length ≤ 1 := by split <;> simp
          omega
      · simp only [Except.ok.injEq, Prod.mk.injEq] at h
        obtain ⟨rfl, rfl⟩ := h
        omega
theorem rows_len {ch : Bs → Except Int (List (List Nd) × Bs)} (hc : Pays ch) : ∀ (f : Nat) (acc : List (List Nd)) (r : Bs) (l : List (List Nd)) (k : Bs), Px.rows ch f acc r = .ok (l, k) → (Nd.rowsText l).length + 50 * k.length ≤ (Nd.rowsText acc).length + 1 + 50 * r.length ∧ Nd.sizeRows l + k.length ≤ Nd.sizeRows acc + r.length
  | 0, _, _, _, _, h => by cases h
  | f + 1, acc, r, l, k, h => by
    rw [Px.rows] at h
    split at h
    · cases h
    · rename_i l1 k1 hr
      obtain ⟨h1, h2⟩ := row_len hc _ _ _ _ _ hr
      simp only [Nd.rowText, Nd.sizeRow, List.length_nil, Nat.zero_add] at h1 h2
      have h5 : (if acc.length = 0 then ([] : Bs) else [124]).length ≤ 1 := by split <;> simp
      have e1 := congrArg List.length (Nd.rowsText_app acc l1)
      rw [List.length_append, List.length_append] at e1
      have e2 := Nd.sizeRows_app acc l1
      split at h
      · rename_i hb
        have h6 := Px.next_len hb
        obtain ⟨h3, h4⟩ := rows_len hc f _ _ l k h
        omega
      · simp only [Except.ok.injEq, Prod.mk.injEq] at h
        obtain ⟨rfl, rfl⟩ := h
        omega
theorem choice_pays : ∀ d, Pays (Px.choice d)
  | 0 => fun r c k h => by cases h
  | d + 1 => fun r c k h => by
    have := rows_len (choice_pays d) _ _ _ _ _ h
    simp only [Nd.rowsText, Nd.sizeRows, List.length_nil] at this
    omega
theorem parse_bounds {s : Bs} {f l : Bool} {rows : List (List Nd)} (h : Px.parse s = .ok (f, l, rows)) : (∃ d, Nd.GoodRows d rows) ∧ (Nd.rowsText rows).length ≤ 10000 ∧ Nd.sizeRows rows ≤ 1000000 := by
  obtain ⟨k, hc, _, _, _, hl⟩ := parse_parts h
  have hg := parse_good h
  rw [Nd.Good] at hg
  have h1 := choice_pays 8 _ _ _ hc
  have h2 : (if Px.isAt s 94 = true then Px.next s else s).length ≤ s.length := by
    split
    · exact (Px.next_suf s).length_le
    · exact Nat.le_refl _
  exact ⟨⟨_, hg.2⟩, by omega, by omega⟩
end Go.Proofs.YtbceoinhmpnjaaaGreatDoor
