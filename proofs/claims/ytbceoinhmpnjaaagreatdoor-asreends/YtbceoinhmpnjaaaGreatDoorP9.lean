import Derived.Test.YtbceoinhmpnjaaaGreatDoorP5
/- What stands behind an expression's end makes no difference to it; what is read at a depth is read at a greater one. -/
namespace Go.Proofs.YtbceoinhmpnjaaaGreatDoor

/-- What is left ends ahead of what is put behind it: something but blanks is left, or a ) is put there. -/
def Cut (k u : Bs) : Prop := Px.skip k ≠ [] ∨ ∃ v, u = 41 :: v
theorem skip_app_ne {k u : Bs} (h : Px.skip k ≠ []) : Px.skip (k ++ u) = Px.skip k ++ u := by
  induction k with
  | nil => exact absurd rfl h
  | cons c t ih =>
    by_cases hc : c = 32
    · subst hc
      rw [Px.skip_blank] at h ⊢
      rw [List.cons_append, Px.skip_blank]
      exact ih h
    · rw [List.cons_append, Px.skip_of hc, Px.skip_of hc]
      rfl
theorem skip_app_nil {k : Bs} (h : Px.skip k = []) (u : Bs) : Px.skip (k ++ u) = Px.skip u := by
  induction k with
  | nil => rfl
  | cons c t ih =>
    by_cases hc : c = 32
    · subst hc
      rw [Px.skip_blank] at h
      rw [List.cons_append, Px.skip_blank]
      exact ih h
    · rw [Px.skip_of hc] at h
      cases h
theorem Cut.skip {k u : Bs} (h : Cut k u) : Px.skip (k ++ u) = Px.skip k ++ u := by
  rcases h with h | ⟨v, rfl⟩
  · exact skip_app_ne h
  · by_cases hk : Px.skip k = []
    · rw [skip_app_nil hk, hk, Px.skip_of (by decide)]
      rfl
    · exact skip_app_ne hk
theorem Cut.isAt {k u : Bs} (h : Cut k u) (d : UInt8) (hd : d ≠ 41) : Px.isAt (k ++ u) d = Px.isAt k d := by
  unfold Px.isAt
  rw [h.skip]
  cases hk : Px.skip k with
  | nil =>
    rcases h with h | ⟨v, rfl⟩
    · exact absurd hk h
    · simpa using fun e => hd e.symm
  | cons c t => rfl
theorem Cut.isAt_yes {k u : Bs} (h : Cut k u) {d : UInt8} (hd : Px.isAt k d = true) : Px.isAt (k ++ u) d = true := by
  obtain ⟨t, h1, _⟩ := Px.isAt_some hd
  unfold Px.isAt
  rw [h.skip, h1]
  simp
theorem Cut.next {k u : Bs} (h : Cut k u) {d : UInt8} (hd : Px.isAt k d = true) : Px.next (k ++ u) = Px.next k ++ u := by
  obtain ⟨t, h1, h2⟩ := Px.isAt_some hd
  rw [h2]
  unfold Px.next
  rw [h.skip, h1]
  rfl
theorem dropW_nil {p : UInt8 → Bool} : ∀ l : List UInt8, l.dropWhile p = [] ↔ ∀ x ∈ l, p x = true
  | [] => by simp
  | c :: r => by
    have ih := dropW_nil (p := p) r
    rw [List.dropWhile_cons]
    cases h : p c
    · simp [h]
    · simp [h, ih]
theorem skip_ne_suf {k r : Bs} (h : Px.skip k ≠ []) (hk : k <:+ r) : Px.skip r ≠ [] := by
  obtain ⟨p, rfl⟩ := hk
  intro e
  apply h
  have : ∀ c ∈ p ++ k, c = 32 := by
    intro c hc
    unfold Px.skip at e
    have := ((dropW_nil _).1 e) c hc
    simpa using this
  unfold Px.skip
  rw [dropW_nil]
  intro c hc
  simpa using this c (by simp [hc])
theorem Cut.suf {k r u : Bs} (h : Cut k u) (hk : k <:+ r) : Cut r u := by
  rcases h with h | h
  · exact .inl (skip_ne_suf h hk)
  · exact .inr h
theorem skip_suf_of_next {r : Bs} : Px.next r <:+ Px.skip r := List.tail_suffix _

theorem take_end : ∀ (q : Bs), (q.drop (q.takeWhile Ad.dig).length = []) ∨ ∃ c t, q.drop (q.takeWhile Ad.dig).length = c :: t ∧ Ad.dig c = false
  | [] => .inl rfl
  | c :: t => by
    rw [List.takeWhile_cons]
    cases h : Ad.dig c
    · exact .inr ⟨c, t, by simp, h⟩
    · simpa using take_end t
theorem number_app {r k u : Bs} {x : Int} (h : Px.number r = .ok (x, k)) (hc : Cut k u) : Px.number (r ++ u) = .ok (x, k ++ u) := by
  have hr : Cut r u := hc.suf (Px.number_suf h).1
  have hk : k = (Px.skip r).drop (Px.digits r).length := by
    unfold Px.number at h
    split at h
    · split at h
      · simp only [Except.ok.injEq, Prod.mk.injEq] at h; exact h.2.symm
      · cases h
    · cases h
  have hsplit : Px.skip r = Px.digits r ++ k := by
    rw [hk]
    have hp : Px.digits r <+: Px.skip r := List.takeWhile_prefix _
    obtain ⟨t, ht⟩ := hp
    rw [← ht]
    simp
  have hnd : NoDig (k ++ u) := by
    cases k with
    | nil =>
      rcases hc with hc | ⟨v, rfl⟩
      · exact absurd rfl hc
      · exact NoDig.of (by decide) v
    | cons c t =>
      have : Ad.dig c = false := by
        have he := take_end (Px.skip r)
        rw [show (Px.skip r).takeWhile Ad.dig = Px.digits r from rfl, ← hk] at he
        rcases he with he | ⟨c', t', he, hd⟩
        · cases he
        · rw [(List.cons.inj he).1]; exact hd
      exact NoDig.of this _
  have hdd : Px.digits (r ++ u) = Px.digits r := by
    have e1 : Px.digits (r ++ u) = (Px.digits r ++ (k ++ u)).takeWhile Ad.dig := by
      unfold Px.digits at hsplit ⊢
      rw [hr.skip, ← List.append_assoc, ← hsplit]
    rw [e1]
    refine take_all ?_ hnd
    unfold Px.digits Ad.digs
    exact List.all_takeWhile
  unfold Px.number at h ⊢
  rw [hdd, hr.skip]
  split at h
  · rename_i h1
    rw [if_pos h1]
    split at h
    · rename_i h2
      rw [if_pos h2]
      simp only [Except.ok.injEq, Prod.mk.injEq] at h ⊢
      refine ⟨h.1, ?_⟩
      rw [hsplit, List.append_assoc]
      simp
    · cases h
  · cases h
theorem set_mono : ∀ (f : Nat) (acc : List Prt) (r : Bs) (y : List Prt × Bs) (g : Nat), f ≤ g → Px.set f acc r = .ok y → Px.set g acc r = .ok y
  | 0, _, _, _, _, _, h => by cases h
  | f + 1, acc, r, y, 0, hg, h => by omega
  | f + 1, acc, r, y, g + 1, hg, h => by
    rw [Px.set] at h ⊢
    split at h
    · rename_i hc
      rw [if_pos hc]; exact h
    · rename_i hc
      rw [if_neg hc]
      split at h
      · cases h
      · rename_i a k hn
        split at h
        · rename_i h1
          rw [if_pos h1]
          split at h
          · cases h
          · rename_i b k2 hn2
            split at h
            · cases h
            · rename_i h2
              rw [if_neg h2]
              exact set_mono f _ k2 y g (by omega) h
        · rename_i h1
          rw [if_neg h1]
          exact set_mono f _ k y g (by omega) h
theorem set_app : ∀ (f : Nat) (acc : List Prt) (r : Bs) (rs : List Prt) (k u : Bs), Px.set f acc r = .ok (rs, k) → Cut k u → Px.set f acc (r ++ u) = .ok (rs, k ++ u)
  | 0, _, _, _, _, _, h, _ => by cases h
  | f + 1, acc, r, rs, k, u, h, hc => by
    have hr : Cut r u := hc.suf (Px.set_suf _ _ _ _ _ h).1
    rw [Px.set] at h ⊢
    rw [hr.isAt 93 (by decide)]
    split at h
    · rename_i h1
      rw [if_pos h1, hr.next h1.2]
      simp only [Except.ok.injEq, Prod.mk.injEq] at h ⊢
      exact ⟨h.1, by rw [h.2]⟩
    · rename_i h1
      rw [if_neg h1]
      split at h
      · cases h
      · rename_i a k1 hn
        by_cases hm : Px.isAt k1 45 = true
        · rw [if_pos hm] at h
          split at h
          · cases h
          · rename_i b k2 hn2
            split at h
            · cases h
            · rename_i hab
              have c2 : Cut k2 u := hc.suf (Px.set_suf _ _ _ _ _ h).1
              have c1 : Cut k1 u := c2.suf ((Px.number_suf hn2).1.trans (Px.next_suf k1))
              rw [number_app hn c1]
              simp only [c1.isAt 45 (by decide), hm, if_true]
              rw [c1.next hm, number_app hn2 c2]
              simp only [if_neg hab]
              exact set_app f _ k2 rs k u h hc
        · rw [if_neg hm] at h
          have c1 : Cut k1 u := hc.suf (Px.set_suf _ _ _ _ _ h).1
          rw [number_app hn c1]
          simp only [c1.isAt 45 (by decide), if_neg hm]
          exact set_app f _ k1 rs k u h hc
end Go.Proofs.YtbceoinhmpnjaaaGreatDoor

/- What stands behind an expression's end makes no difference to it: the whole reader; brackets around an expression. -/
namespace Go.Proofs.YtbceoinhmpnjaaaGreatDoor

abbrev Rdr : Type := Bs → Except Int (List (List Nd) × Bs)
def App (ch : Rdr) : Prop := ∀ r c k u, ch r = .ok (c, k) → Cut k u → ch (r ++ u) = .ok (c, k ++ u)
theorem atom_app {ch : Rdr} (hS : Px.Suf ch) (hA : App ch) {r k u : Bs} {n : Nd} (h : Px.atom ch r = .ok (n, k)) (hc : Cut k u) : Px.atom ch (r ++ u) = .ok (n, k ++ u) := by
  have hr : Cut r u := hc.suf (Px.atom_suf hS h).1
  unfold Px.atom at h ⊢
  rw [hr.isAt 46 (by decide), hr.isAt 91 (by decide), hr.isAt 40 (by decide)]
  split at h
  · rename_i h1
    rw [if_pos h1, hr.next h1]
    simp only [Except.ok.injEq, Prod.mk.injEq] at h ⊢
    exact ⟨h.1, by rw [h.2]⟩
  · rename_i h1
    rw [if_neg h1]
    split at h
    · rename_i h2
      rw [if_pos h2, hr.next h2]
      split at h
      · cases h
      · rename_i rs k1 hs
        simp only [Except.ok.injEq, Prod.mk.injEq] at h
        obtain ⟨rfl, rfl⟩ := h
        rw [set_mono _ _ _ _ _ (by simp) (set_app _ _ _ _ _ u hs hc)]
    · rename_i h2
      rw [if_neg h2]
      split at h
      · rename_i h3
        rw [if_pos h3, hr.next h3]
        split at h
        · cases h
        · rename_i c k1 hs
          split at h
          · rename_i h4
            simp only [Except.ok.injEq, Prod.mk.injEq] at h
            obtain ⟨rfl, rfl⟩ := h
            have c1 : Cut k1 u := hc.suf (Px.next_suf k1)
            rw [hA _ _ _ u hs c1]
            simp only [c1.isAt_yes h4, if_true, c1.next h4]
          · cases h
      · rename_i h3
        rw [if_neg h3]
        split at h
        · cases h
        · rename_i x k1 hn
          simp only [Except.ok.injEq, Prod.mk.injEq] at h
          obtain ⟨rfl, rfl⟩ := h
          rw [number_app hn hc]
theorem Cut.sign {k u : Bs} (h : Cut k u) : Px.sign (k ++ u) = Px.sign k := by
  unfold Px.sign
  rw [h.isAt 42 (by decide), h.isAt 43 (by decide), h.isAt 63 (by decide)]
theorem sign_isAt {k : Bs} (h : Px.sign k ≠ 0) : ∃ d, Px.isAt k d = true := by
  unfold Px.sign at h
  split at h
  · rename_i h1; exact ⟨_, h1⟩
  · split at h
    · rename_i h1; exact ⟨_, h1⟩
    · split at h
      · rename_i h1; exact ⟨_, h1⟩
      · exact absurd rfl h
theorem item_app {ch : Rdr} (hS : Px.Suf ch) (hA : App ch) {r k u : Bs} {n : Nd} (h : Px.item ch r = .ok (n, k)) (hc : Cut k u) : Px.item ch (r ++ u) = .ok (n, k ++ u) := by
  unfold Px.item at h ⊢
  split at h
  · cases h
  · rename_i m k1 ha
    split at h
    · rename_i hs
      simp only [Except.ok.injEq, Prod.mk.injEq] at h
      obtain ⟨rfl, rfl⟩ := h
      rw [atom_app hS hA ha hc]
      simp only [hc.sign, hs, if_true]
    · rename_i hs
      simp only [Except.ok.injEq, Prod.mk.injEq] at h
      obtain ⟨rfl, rfl⟩ := h
      have c1 : Cut k1 u := hc.suf (Px.next_suf k1)
      obtain ⟨d, hd⟩ := sign_isAt hs
      rw [atom_app hS hA ha c1]
      simp only [c1.sign, if_neg hs, c1.next hd]
theorem row_app {ch : Rdr} (hS : Px.Suf ch) (hA : App ch) : ∀ (f : Nat) (acc : List Nd) (r : Bs) (l : List Nd) (k u : Bs), Px.row ch f acc r = .ok (l, k) → Cut k u → Px.row ch f acc (r ++ u) = .ok (l, k ++ u)
  | 0, _, _, _, _, _, h, _ => by cases h
  | f + 1, acc, r, l, k, u, h, hc => by
    have hr : Cut r u := hc.suf (Px.row_suf hS _ _ _ _ _ h)
    rw [Px.row] at h ⊢
    rw [hr.skip]
    split at h
    · rename_i he
      simp only [Except.ok.injEq, Prod.mk.injEq] at h
      obtain ⟨rfl, rfl⟩ := h
      rw [he]
      rcases hc with hc | ⟨v, rfl⟩
      · exact absurd rfl hc
      · rfl
    · rename_i c t he
      rw [he]
      simp only [List.cons_append]
      split at h
      · rename_i hst
        rw [if_pos hst]
        split at h
        · cases h
        · rename_i n k1 hi
          have c1 : Cut k1 u := hc.suf (Px.row_suf hS _ _ _ _ _ h)
          have := item_app hS hA hi c1
          rw [List.cons_append] at this
          rw [this]
          exact row_app hS hA f _ k1 l k u h hc
      · rename_i hst
        rw [if_neg hst]
        simp only [Except.ok.injEq, Prod.mk.injEq] at h
        obtain ⟨rfl, rfl⟩ := h
        rfl
theorem row_mono {ch : Rdr} : ∀ (f : Nat) (acc : List Nd) (r : Bs) (y : List Nd × Bs) (g : Nat), f ≤ g → Px.row ch f acc r = .ok y → Px.row ch g acc r = .ok y
  | 0, _, _, _, _, _, h => by cases h
  | f + 1, acc, r, y, 0, hg, h => by omega
  | f + 1, acc, r, y, g + 1, hg, h => by
    rw [Px.row] at h ⊢
    split at h
    · rename_i he
      exact h
    · rename_i c t he
      split at h
      · rename_i hst
        rw [if_pos hst]
        split at h
        · cases h
        · rename_i n k1 hi
          exact row_mono f _ k1 y g (by omega) h
      · rename_i hst
        rw [if_neg hst]
        exact h
theorem rows_mono {ch : Rdr} : ∀ (f : Nat) (acc : List (List Nd)) (r : Bs) (y : List (List Nd) × Bs) (g : Nat), f ≤ g → Px.rows ch f acc r = .ok y → Px.rows ch g acc r = .ok y
  | 0, _, _, _, _, _, h => by cases h
  | f + 1, acc, r, y, 0, hg, h => by omega
  | f + 1, acc, r, y, g + 1, hg, h => by
    rw [Px.rows] at h ⊢
    split at h
    · cases h
    · rename_i row k1 hr
      split at h
      · rename_i h1
        rw [if_pos h1]
        exact rows_mono f _ _ y g (by omega) h
      · rename_i h1
        rw [if_neg h1]
        exact h
theorem rows_app {ch : Rdr} (hS : Px.Suf ch) (hA : App ch) : ∀ (f : Nat) (acc : List (List Nd)) (r : Bs) (l : List (List Nd)) (k u : Bs), Px.rows ch f acc r = .ok (l, k) → Cut k u → Px.rows ch f acc (r ++ u) = .ok (l, k ++ u)
  | 0, _, _, _, _, _, h, _ => by cases h
  | f + 1, acc, r, l, k, u, h, hc => by
    rw [Px.rows] at h ⊢
    split at h
    · cases h
    · rename_i row k1 hr
      by_cases h1 : Px.isAt k1 124 = true
      · rw [if_pos h1] at h
        have c1 : Cut k1 u := hc.suf ((Px.rows_suf hS _ _ _ _ _ h).trans (Px.next_suf k1))
        rw [row_mono _ _ _ _ _ (by simp) (row_app hS hA _ _ _ _ _ u hr c1)]
        simp only [c1.isAt 124 (by decide), if_pos h1, c1.next h1]
        exact rows_app hS hA f _ _ l k u h hc
      · rw [if_neg h1] at h
        simp only [Except.ok.injEq, Prod.mk.injEq] at h
        obtain ⟨rfl, rfl⟩ := h
        rw [row_mono _ _ _ _ _ (by simp) (row_app hS hA _ _ _ _ _ u hr hc)]
        simp only [hc.isAt 124 (by decide), if_neg h1]
theorem choice_app : ∀ d, App (Px.choice d)
  | 0 => fun r c k u h _ => by cases h
  | d + 1 => fun r c k u h hc => rows_mono _ _ _ _ _ (by simp) (rows_app (Px.choice_suf d) (choice_app d) _ [] r c k u h hc)

/-- What one reader reads the other one reads. -/
def Le (ch ch' : Rdr) : Prop := ∀ r y, ch r = .ok y → ch' r = .ok y
theorem atom_le {ch ch' : Rdr} (hl : Le ch ch') {r : Bs} {y : Nd × Bs} (h : Px.atom ch r = .ok y) : Px.atom ch' r = .ok y := by
  unfold Px.atom at h ⊢
  split at h
  · rename_i h1; rw [if_pos h1]; exact h
  · rename_i h1
    rw [if_neg h1]
    split at h
    · rename_i h2; rw [if_pos h2]; exact h
    · rename_i h2
      rw [if_neg h2]
      split at h
      · rename_i h3
        rw [if_pos h3]
        cases hc : ch (Px.next r) with
        | error e => rw [hc] at h; cases h
        | ok z =>
          rw [hc] at h
          rw [hl _ _ hc]
          exact h
      · rename_i h3
        rw [if_neg h3]; exact h
theorem item_le {ch ch' : Rdr} (hl : Le ch ch') {r : Bs} {y : Nd × Bs} (h : Px.item ch r = .ok y) : Px.item ch' r = .ok y := by
  unfold Px.item at h ⊢
  cases ha : Px.atom ch r with
  | error e => rw [ha] at h; cases h
  | ok z =>
    rw [ha] at h
    rw [atom_le hl ha]
    exact h
theorem row_le {ch ch' : Rdr} (hl : Le ch ch') : ∀ (f : Nat) (acc : List Nd) (r : Bs) (y : List Nd × Bs), Px.row ch f acc r = .ok y → Px.row ch' f acc r = .ok y
  | 0, _, _, _, h => by cases h
  | f + 1, acc, r, y, h => by
    rw [Px.row] at h ⊢
    cases he : Px.skip r with
    | nil => rw [he] at h; exact h
    | cons c t =>
      rw [he] at h
      simp only at h ⊢
      by_cases hst : Px.starts c = true
      · rw [if_pos hst] at h ⊢
        cases hi : Px.item ch (c :: t) with
        | error e => rw [hi] at h; cases h
        | ok z =>
          rw [hi] at h
          rw [item_le hl hi]
          exact row_le hl f _ _ y h
      · rw [if_neg hst] at h ⊢
        exact h
theorem rows_le {ch ch' : Rdr} (hl : Le ch ch') : ∀ (f : Nat) (acc : List (List Nd)) (r : Bs) (y : List (List Nd) × Bs), Px.rows ch f acc r = .ok y → Px.rows ch' f acc r = .ok y
  | 0, _, _, _, h => by cases h
  | f + 1, acc, r, y, h => by
    rw [Px.rows] at h ⊢
    cases hr : Px.row ch (r.length + 1) [] r with
    | error e => rw [hr] at h; cases h
    | ok z =>
      rw [hr] at h
      rw [row_le hl _ _ _ _ hr]
      simp only at h ⊢
      by_cases h1 : Px.isAt z.2 124 = true
      · rw [if_pos h1] at h ⊢
        exact rows_le hl f _ _ y h
      · rw [if_neg h1] at h ⊢
        exact h
theorem choice_deep : ∀ d, Le (Px.choice d) (Px.choice (d + 1))
  | 0 => fun r y h => by cases h
  | d + 1 => fun r y h => rows_le (choice_deep d) _ [] r y h
end Go.Proofs.YtbceoinhmpnjaaaGreatDoor

/- Brackets around an expression: how the texts of the laws are read. -/
namespace Go.Proofs.YtbceoinhmpnjaaaGreatDoor

/-- An expression's text stands in brackets for its choice, whatever is behind. -/
def Par (a : Bs) (c : List (List Nd)) : Prop := ∀ u, Px.atom (Px.choice 7) (40 :: (a ++ 41 :: u)) = .ok (.ch c, u)
theorem atom_open (d : Nat) (r : Bs) : Px.atom (Px.choice d) (40 :: r) = (match Px.choice d r with | .error e => .error e | .ok (c, k) => if Px.isAt k 41 = true then .ok (.ch c, Px.next k) else .error 4) := by
  rw [Px.atom, if_neg (by rw [Px.isAt_of (by decide)]; decide), if_neg (by rw [Px.isAt_of (by decide)]; decide), if_pos (by rw [Px.isAt_of (by decide)]; rfl), Px.next_of (by decide)]
  cases Px.choice d r <;> rfl
theorem choice_94 (d : Nat) {r t : Bs} (h : Px.skip r = 94 :: t) : Px.choice (d + 1) r = .ok ([[]], 94 :: t) := by
  rw [Px.choice, Px.rows, Px.row, h]
  rfl
theorem parse_parts {a : Bs} {f l : Bool} {c : List (List Nd)} (h : Px.parse a = .ok (f, l, c)) : ∃ k, Px.choice 8 (if Px.isAt a 94 = true then Px.next a else a) = .ok (c, k) ∧ f = Px.isAt a 94 ∧ l = Px.isAt k 36 ∧ Px.skip (if Px.isAt k 36 = true then Px.next k else k) = [] ∧ a.length ≤ 64 := by
  unfold Px.parse at h
  by_cases hl : 64 < a.length
  · rw [if_pos hl] at h; cases h
  · rw [if_neg hl] at h
    cases hc : Px.choice 8 (if Px.isAt a 94 = true then Px.next a else a) with
    | error e => rw [hc] at h; cases h
    | ok z =>
      obtain ⟨c', k⟩ := z
      rw [hc] at h
      simp only at h
      by_cases hk : Px.skip (if Px.isAt k 36 = true then Px.next k else k) = []
      · rw [if_pos hk] at h
        simp only [Except.ok.injEq, Prod.mk.injEq] at h
        obtain ⟨h1, h2, rfl⟩ := h
        exact ⟨k, rfl, h1.symm, h2.symm, hk, by omega⟩
      · rw [if_neg hk] at h; cases h
theorem isAt_two {r : Bs} {c d : UInt8} (h1 : Px.isAt r c = true) (h2 : Px.isAt r d = true) : c = d := by
  obtain ⟨t, e1, _⟩ := Px.isAt_some h1
  obtain ⟨t', e2, _⟩ := Px.isAt_some h2
  rw [e1] at e2
  exact (List.cons.inj e2).1
/-- If a text is an expression, and in brackets too, then without ^ and $, and as a choice. -/
theorem par_of {a : Bs} {f l : Bool} {c : List (List Nd)} (own : Px.parse a = .ok (f, l, c)) {x : Bool × Bool × List (List Nd)} (h : Px.parse (40 :: (a ++ [41])) = .ok x) : f = false ∧ l = false ∧ Par a c := by
  obtain ⟨k0, hc0, hf, hl, hk0, _⟩ := parse_parts own
  obtain ⟨f', l', c1⟩ := x
  obtain ⟨k1, hc1, _, _, _, _⟩ := parse_parts h
  rw [if_neg (by rw [Px.isAt_of (by decide)]; decide)] at hc1
  -- the atom is read
  obtain ⟨c', k', h7, h41⟩ : ∃ c' k', Px.choice 7 (a ++ [41]) = .ok (c', k') ∧ Px.isAt k' 41 = true := by
    rw [Px.choice, Px.rows, Px.row, Px.skip_of (by decide)] at hc1
    simp only [show Px.starts 40 = true from by decide, if_true, Px.item, atom_open] at hc1
    cases h7 : Px.choice 7 (a ++ [41]) with
    | error e => rw [h7] at hc1; cases hc1
    | ok z =>
      obtain ⟨c', k'⟩ := z
      rw [h7] at hc1
      simp only at hc1
      by_cases h41 : Px.isAt k' 41 = true
      · exact ⟨c', k', rfl, h41⟩
      · rw [if_neg h41] at hc1
        cases hc1
  have hfa : Px.isAt a 94 = false := by
    cases hb : Px.isAt a 94
    · rfl
    · obtain ⟨t, e1, _⟩ := Px.isAt_some hb
      have e2 : Px.skip (a ++ [41]) = 94 :: (t ++ [41]) := by rw [skip_app_ne (by rw [e1]; simp), e1]; rfl
      rw [choice_94 6 e2] at h7
      simp only [Except.ok.injEq, Prod.mk.injEq] at h7
      rw [← h7.2, Px.isAt_of (by decide)] at h41
      exact absurd h41 (by decide)
  rw [hfa] at hc0
  simp only [Bool.false_eq_true, if_false] at hc0
  have h8 := choice_app 8 _ _ _ [41] hc0 (.inr ⟨[], rfl⟩)
  rw [choice_deep 7 _ _ h7] at h8
  simp only [Except.ok.injEq, Prod.mk.injEq] at h8
  obtain ⟨rfl, rfl⟩ := h8
  have hla : Px.isAt k0 36 = false := by
    cases hb : Px.isAt k0 36
    · rfl
    · have := isAt_two (Cut.isAt_yes (u := [41]) (.inr ⟨[], rfl⟩) hb) h41
      exact absurd this (by decide)
  rw [hla] at hk0 hl
  simp only [Bool.false_eq_true, if_false] at hk0
  refine ⟨hf.trans hfa, hl, fun u => ?_⟩
  have hne : Px.skip (k0 ++ [41]) ≠ [] := by rw [skip_app_nil hk0]; decide
  have h9 := choice_app 7 _ _ _ u h7 (.inl hne)
  rw [List.append_assoc, List.append_assoc] at h9
  rw [atom_open, show a ++ 41 :: u = a ++ ([41] ++ u) from rfl, h9]
  have hs : Px.skip (k0 ++ ([41] ++ u)) = 41 :: u := by rw [skip_app_nil hk0]; exact Px.skip_of (by decide) u
  have hi : Px.isAt (k0 ++ ([41] ++ u)) 41 = true := by unfold Px.isAt; rw [hs]; rfl
  have hx : Px.next (k0 ++ ([41] ++ u)) = u := by unfold Px.next; rw [hs]; rfl
  simp only [hi, if_true, hx]

theorem par_item {a : Bs} {c : List (List Nd)} (h : Par a c) (u : Bs) (hs : Px.sign u = 0) : Px.item (Px.choice 7) (40 :: (a ++ 41 :: u)) = .ok (.ch c, u) := by
  unfold Px.item
  rw [h u]
  simp only [hs, if_true]
theorem par_row {a : Bs} {c : List (List Nd)} (h : Par a c) (f : Nat) (acc : List Nd) (u : Bs) (hs : Px.sign u = 0) : Px.row (Px.choice 7) (f + 1) acc (40 :: (a ++ 41 :: u)) = Px.row (Px.choice 7) f (acc ++ [.ch c]) u := by
  rw [Px.row, Px.skip_of (by decide)]
  simp only [show Px.starts 40 = true from by decide, if_true, par_item h u hs]
theorem row_stop {ch : Rdr} (f : Nat) (acc : List Nd) (t : Bs) (ht : Stop t) : Px.row ch (f + 1) acc t = .ok (acc, t) := by
  rw [Px.row, ht.skip]
  rcases ht with rfl | ⟨c, r, rfl, h⟩
  · rfl
  · rcases h with rfl | rfl | rfl <;> rfl
theorem rows_one {ch : Rdr} (f : Nat) (acc : List (List Nd)) (r t : Bs) (l : List Nd) (h : Px.row ch (r.length + 1) [] r = .ok (l, t)) (ht : Shut t) : Px.rows ch (f + 1) acc r = .ok (acc ++ [l], t) := by
  rw [Px.rows, h]
  have h124 : Px.isAt t 124 = false := by
    rcases ht with rfl | ⟨c, q, rfl, hq⟩
    · rfl
    · rcases hq with rfl | rfl <;> rfl
  simp only [h124, Bool.false_eq_true, if_false]
theorem par_choice {a : Bs} {c : List (List Nd)} (h : Par a c) (t : Bs) (ht : Shut t) : Px.choice 8 (40 :: (a ++ 41 :: t)) = .ok ([[.ch c]], t) := by
  rw [Px.choice]
  refine rows_one _ [] _ t [.ch c] ?_ ht
  rw [show (40 :: (a ++ 41 :: t)).length + 1 = ((a ++ 41 :: t).length + 1) + 1 from rfl, par_row h _ [] t ht.stop.sign, row_stop _ _ t ht.stop]
  rfl
theorem parse_of {f l : Bool} {c : List (List Nd)} (s : Bs) (h : s.length ≤ 64) (h94 : Px.isAt s 94 = f) (k : Bs) (hc : Px.choice 8 (if f = true then Px.next s else s) = .ok (c, k)) (h36 : Px.isAt k 36 = l) (hk : Px.skip (if l = true then Px.next k else k) = []) : Px.parse s = .ok (f, l, c) := by
  unfold Px.parse
  rw [if_neg (by omega), h94, hc]
  simp only [h36, hk, if_true]
/-- (a) -/
theorem parse_par {a : Bs} {c : List (List Nd)} (h : Par a c) (hl : (40 :: (a ++ [41])).length ≤ 64) : Px.parse (40 :: (a ++ [41])) = .ok (false, false, [[.ch c]]) :=
  parse_of _ hl (by rw [Px.isAt_of (by decide)]; rfl) [] (by simpa using par_choice h [] (.inl rfl)) rfl rfl
/-- (a)$ -/
theorem parse_par_last {a : Bs} {c : List (List Nd)} (h : Par a c) (hl : (40 :: (a ++ [41, 36])).length ≤ 64) : Px.parse (40 :: (a ++ [41, 36])) = .ok (false, true, [[.ch c]]) :=
  parse_of _ hl (by rw [Px.isAt_of (by decide)]; rfl) [36] (by simpa using par_choice h [36] (.inr ⟨36, [], rfl, .inr rfl⟩)) rfl rfl
/-- ^(a) -/
theorem parse_par_first {a : Bs} {c : List (List Nd)} (h : Par a c) (hl : (94 :: 40 :: (a ++ [41])).length ≤ 64) : Px.parse (94 :: 40 :: (a ++ [41])) = .ok (true, false, [[.ch c]]) :=
  parse_of _ hl (by rw [Px.isAt_of (by decide)]; rfl) [] (by simpa [Px.next_of (show (94 : UInt8) ≠ 32 by decide)] using par_choice h [] (.inl rfl)) rfl rfl
/-- ^(a)$ -/
theorem parse_par_both {a : Bs} {c : List (List Nd)} (h : Par a c) (hl : (94 :: 40 :: (a ++ [41, 36])).length ≤ 64) : Px.parse (94 :: 40 :: (a ++ [41, 36])) = .ok (true, true, [[.ch c]]) :=
  parse_of _ hl (by rw [Px.isAt_of (by decide)]; rfl) [36] (by simpa [Px.next_of (show (94 : UInt8) ≠ 32 by decide)] using par_choice h [36] (.inr ⟨36, [], rfl, .inr rfl⟩)) rfl rfl
/-- (a)|(b) -/
theorem parse_either {a b : Bs} {c d : List (List Nd)} (h : Par a c) (h2 : Par b d) (hl : (40 :: (a ++ 41 :: 124 :: 40 :: (b ++ [41]))).length ≤ 64) : Px.parse (40 :: (a ++ 41 :: 124 :: 40 :: (b ++ [41]))) = .ok (false, false, [[.ch c], [.ch d]]) := by
  refine parse_of _ hl (by rw [Px.isAt_of (by decide)]; rfl) [] ?_ rfl rfl
  simp only [Bool.false_eq_true, if_false]
  have hst : Stop (124 :: 40 :: (b ++ [41])) := .inr ⟨124, _, rfl, .inl rfl⟩
  rw [Px.choice, Px.rows, show (40 :: (a ++ 41 :: 124 :: 40 :: (b ++ [41]))).length + 1 = ((a ++ 41 :: 124 :: 40 :: (b ++ [41])).length + 1) + 1 from rfl, par_row h _ [] _ hst.sign, row_stop _ _ _ hst]
  simp only [Px.isAt_of (show (124 : UInt8) ≠ 32 by decide), Px.next_of (show (124 : UInt8) ≠ 32 by decide), BEq.rfl, if_true]
  have e : ∃ g, (40 :: (a ++ 41 :: 124 :: 40 :: (b ++ [41]))).length = g + 1 := ⟨_, rfl⟩
  obtain ⟨g, hg⟩ := e
  rw [hg]
  refine rows_one g ([] ++ [[] ++ [.ch c]]) _ [] [.ch d] ?_ (.inl rfl)
  rw [show (40 :: (b ++ [41])).length + 1 = ((b ++ [41]).length + 1) + 1 from rfl, par_row h2 _ [] [] rfl, row_stop _ _ [] (.inl rfl)]
  rfl
/-- (a) (b) -/
theorem parse_both {a b : Bs} {c d : List (List Nd)} (h : Par a c) (h2 : Par b d) (hl : (40 :: (a ++ 41 :: 32 :: 40 :: (b ++ [41]))).length ≤ 64) : Px.parse (40 :: (a ++ 41 :: 32 :: 40 :: (b ++ [41]))) = .ok (false, false, [[.ch c, .ch d]]) := by
  refine parse_of _ hl (by rw [Px.isAt_of (by decide)]; rfl) [] ?_ rfl rfl
  simp only [Bool.false_eq_true, if_false]
  rw [Px.choice]
  refine rows_one _ [] _ [] [.ch c, .ch d] ?_ (.inl rfl)
  have hs : Px.sign (32 :: 40 :: (b ++ [41])) = 0 := sign_of (by rw [Px.isAt_blank, Px.isAt_of (by decide)]; rfl) (by rw [Px.isAt_blank, Px.isAt_of (by decide)]; rfl) (by rw [Px.isAt_blank, Px.isAt_of (by decide)]; rfl)
  rw [show (40 :: (a ++ 41 :: 32 :: 40 :: (b ++ [41]))).length + 1 = ((a ++ 41 :: 32 :: 40 :: (b ++ [41])).length + 1) + 1 from rfl, par_row h _ [] _ hs, row_blank]
  obtain ⟨g, hg⟩ : ∃ g, (a ++ 41 :: 32 :: 40 :: (b ++ [41])).length + 1 = g + 1 + 1 := ⟨(a ++ 32 :: 40 :: (b ++ [41])).length, by simp only [List.length_append, List.length_cons]; omega⟩
  rw [hg, par_row h2 _ _ [] rfl, row_stop _ _ [] (.inl rfl)]
  rfl
theorem parse_signed {a : Bs} {c : List (List Nd)} (h : Par a c) (d : UInt8) (k : Nat) (hd : d ≠ 32) (hk : Px.sign [d] = k) (hk0 : k ≠ 0) (hl : (40 :: (a ++ [41, d])).length ≤ 64) : Px.parse (40 :: (a ++ [41, d])) = .ok (false, false, [[.st k (.ch c)]]) := by
  refine parse_of _ hl (by rw [Px.isAt_of (by decide)]; rfl) [] ?_ rfl rfl
  simp only [Bool.false_eq_true, if_false]
  rw [Px.choice]
  refine rows_one _ [] _ [] [.st k (.ch c)] ?_ (.inl rfl)
  rw [Px.row, Px.skip_of (by decide)]
  have hi : Px.item (Px.choice 7) (40 :: (a ++ [41, d])) = .ok (.st k (.ch c), []) := by
    unfold Px.item
    rw [h [d]]
    simp only [hk, if_neg hk0, Px.next_of hd]
  simp only [show Px.starts 40 = true from by decide, if_true, hi]
  rw [show (40 :: (a ++ [41, d])).length = (a ++ [41, d]).length + 1 from rfl, row_stop _ _ [] (.inl rfl)]
  rfl
end Go.Proofs.YtbceoinhmpnjaaaGreatDoor

