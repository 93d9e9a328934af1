/- What the reader makes is good; an expression is read of its plain text. -/
import Derived.Test.YtpmmhmgojjlniaaGreatDoorO08
import Derived.Test.YtpmmhmgojjlniaaGreatDoorO09
import Derived.Test.YtpmmhmgojjlniaaGreatDoorO10
import Derived.ChangeKeysEq
import Derived.Laws.AppendOwn
import Derived.Laws.AppendOwnNone
import Derived.Deep.AppendLies
namespace Go.Proofs.YtpmmhmgojjlniaaGreatDoor.Ar

theorem number_as {r : Bs} {x : Int} {k : Bs} (h : Px.number r = .ok (x, k)) : Is.as x = true := by
  unfold Px.number at h
  split at h
  · split at h
    · rename_i ha
      simp only [Except.ok.injEq, Prod.mk.injEq] at h
      rw [← h.1]
      exact ha
    · cases h
  · cases h
theorem set_good : ∀ (f : Nat) (acc : List Prt) (r : Bs) (rs : List Prt) (k : Bs), (∀ p ∈ acc, Px.goodPair p) → Px.set f acc r = .ok (rs, k) → rs ≠ [] ∧ ∀ p ∈ rs, Px.goodPair p
  | 0, _, _, _, _, _, h => by cases h
  | f + 1, acc, r, rs, k, ha, h => by
    rw [Px.set] at h
    split at h
    · rename_i hc
      simp only [Except.ok.injEq, Prod.mk.injEq] at h
      obtain ⟨rfl, _⟩ := h
      exact ⟨hc.1, ha⟩
    · split at h
      · cases h
      · rename_i a k1 hn
        have h1 := number_as hn
        split at h
        · split at h
          · cases h
          · rename_i b k2 hn2
            have h2 := number_as hn2
            split at h
            · cases h
            · rename_i hab
              refine set_good f _ k2 rs k ?_ h
              intro p hp
              rcases List.mem_append.1 hp with hp | hp
              · exact ha p hp
              · simp at hp; subst hp; exact ⟨h1, h2, by simp only; omega, fun e => by cases e⟩
        · refine set_good f _ k1 rs k ?_ h
          intro p hp
          rcases List.mem_append.1 hp with hp | hp
          · exact ha p hp
          · simp at hp; subst hp; exact ⟨h1, h1, Int.le_refl _, fun _ => rfl⟩
/-- A reader that makes what is good, so many deep. -/
def Makes (ch : Bs → Except Int (List (List Nd) × Bs)) (d : Nat) : Prop := ∀ r c k, ch r = .ok (c, k) → Nd.Good d (.ch c)
theorem atom_good {ch : Bs → Except Int (List (List Nd) × Bs)} {d : Nat} (hm : Makes ch d) {r : Bs} {n : Nd} {k : Bs} (h : Px.atom ch r = .ok (n, k)) : Nd.Good d n ∧ ∀ j m, n ≠ .st j m := by
  unfold Px.atom at h
  split at h
  · simp only [Except.ok.injEq, Prod.mk.injEq] at h
    obtain ⟨rfl, _⟩ := h
    exact ⟨by rw [Nd.Good]; exact .inl ⟨rfl, rfl, rfl⟩, fun j m e => by cases e⟩
  · split at h
    · split at h
      · cases h
      · rename_i rs k1 hs
        simp only [Except.ok.injEq, Prod.mk.injEq] at h
        obtain ⟨rfl, _⟩ := h
        obtain ⟨h0, hg⟩ := set_good _ _ _ _ _ (by simp) hs
        exact ⟨by rw [Nd.Good]; exact .inr (.inl ⟨rfl, rfl, h0, hg⟩), fun j m e => by cases e⟩
    · split at h
      · split at h
        · cases h
        · rename_i c k1 hs
          split at h
          · simp only [Except.ok.injEq, Prod.mk.injEq] at h
            obtain ⟨rfl, _⟩ := h
            exact ⟨hm _ _ _ hs, fun j m e => by cases e⟩
          · cases h
      · split at h
        · cases h
        · rename_i x k1 hn
          simp only [Except.ok.injEq, Prod.mk.injEq] at h
          obtain ⟨rfl, _⟩ := h
          exact ⟨by rw [Nd.Good]; exact .inr (.inr ⟨rfl, rfl, x, rfl, number_as hn⟩), fun j m e => by cases e⟩
theorem good_st {d k : Nat} {n : Nd} (hk : k = 3 ∨ k = 4 ∨ k = 5) (hn : ∀ j m, n ≠ .st j m) (hg : Nd.Good d n) : Nd.Good d (.st k n) := by
  cases d <;> simp only [Nd.Good] <;> exact ⟨hk, hn, hg⟩
theorem sign_cases (r : Bs) : Px.sign r = 0 ∨ Px.sign r = 3 ∨ Px.sign r = 4 ∨ Px.sign r = 5 := by
  unfold Px.sign
  split
  · exact .inr (.inl rfl)
  · split
    · exact .inr (.inr (.inl rfl))
    · split
      · exact .inr (.inr (.inr rfl))
      · exact .inl rfl
theorem item_good {ch : Bs → Except Int (List (List Nd) × Bs)} {d : Nat} (hm : Makes ch d) {r : Bs} {n : Nd} {k : Bs} (h : Px.item ch r = .ok (n, k)) : Nd.Good d n := by
  unfold Px.item at h
  split at h
  · cases h
  · rename_i m k1 ha
    obtain ⟨h1, h2⟩ := atom_good hm ha
    split at h
    · simp only [Except.ok.injEq, Prod.mk.injEq] at h
      rw [← h.1]; exact h1
    · rename_i hs
      simp only [Except.ok.injEq, Prod.mk.injEq] at h
      rw [← h.1]
      exact good_st ((sign_cases k1).resolve_left hs) h2 h1
theorem goodRow_snoc (d : Nat) (n : Nd) : ∀ l, Nd.GoodRow d l → Nd.Good d n → Nd.GoodRow d (l ++ [n])
  | [], _, h => by simpa only [List.nil_append, Nd.GoodRow] using ⟨h, trivial⟩
  | m :: l, h, hn => by
    simp only [List.cons_append, Nd.GoodRow] at h ⊢
    exact ⟨h.1, goodRow_snoc d n l h.2 hn⟩
theorem goodRows_snoc (d : Nat) (n : List Nd) : ∀ l, Nd.GoodRows d l → Nd.GoodRow d n → Nd.GoodRows d (l ++ [n])
  | [], _, h => by simpa only [List.nil_append, Nd.GoodRows] using ⟨h, trivial⟩
  | m :: l, h, hn => by
    simp only [List.cons_append, Nd.GoodRows] at h ⊢
    exact ⟨h.1, goodRows_snoc d n l h.2 hn⟩
theorem row_good {ch : Bs → Except Int (List (List Nd) × Bs)} {d : Nat} (hm : Makes ch d) : ∀ (f : Nat) (acc : List Nd) (r : Bs) (l : List Nd) (k : Bs), Nd.GoodRow d acc → Px.row ch f acc r = .ok (l, k) → Nd.GoodRow d l
  | 0, _, _, _, _, _, h => by cases h
  | f + 1, acc, r, l, k, ha, h => by
    rw [Px.row] at h
    split at h
    · simp only [Except.ok.injEq, Prod.mk.injEq] at h
      rw [← h.1]; exact ha
    · split at h
      · split at h
        · cases h
        · rename_i n k1 hi
          exact row_good hm f _ k1 l k (goodRow_snoc d n acc ha (item_good hm hi)) h
      · simp only [Except.ok.injEq, Prod.mk.injEq] at h
        rw [← h.1]; exact ha
theorem rows_good {ch : Bs → Except Int (List (List Nd) × Bs)} {d : Nat} (hm : Makes ch d) : ∀ (f : Nat) (acc : List (List Nd)) (r : Bs) (l : List (List Nd)) (k : Bs), Nd.GoodRows d acc → Px.rows ch f acc r = .ok (l, k) → l ≠ [] ∧ Nd.GoodRows d l
  | 0, _, _, _, _, _, h => by cases h
  | f + 1, acc, r, l, k, ha, h => by
    rw [Px.rows] at h
    split at h
    · cases h
    · rename_i row k1 hr
      have hg := goodRows_snoc d row acc ha (row_good hm _ [] _ _ _ (by simp only [Nd.GoodRow]) hr)
      split at h
      · exact rows_good hm f _ _ l k hg h
      · simp only [Except.ok.injEq, Prod.mk.injEq] at h
        rw [← h.1]
        exact ⟨by simp, hg⟩
theorem choice_makes : ∀ d, Makes (Px.choice d) d
  | 0 => fun r c k h => by cases h
  | d + 1 => fun r c k h => by
    simp only [Nd.Good]
    exact rows_good (choice_makes d) _ [] r c k (by simp only [Nd.GoodRows]) h

theorem parse_good {s : Bs} {x : Bool × Bool × List (List Nd)} (h : Px.parse s = .ok x) : Nd.Good 8 (.ch x.2.2) := by
  unfold Px.parse at h
  split at h
  · cases h
  · split at h
    · cases h
    · rename_i c k hc
      by_cases hk : Px.skip (if Px.isAt k 36 = true then Px.next k else k) = []
      · rw [if_pos hk] at h
        simp only [Except.ok.injEq] at h
        rw [← h]
        exact choice_makes 8 _ _ _ hc
      · rw [if_neg hk] at h
        cases h
theorem rows_not94 (rows : List (List Nd)) (hg : Nd.Good 8 (.ch rows)) (t : Bs) (ht : Shut t) : Px.isAt (Nd.rowsText rows ++ t) 94 = false := by
  simp only [Nd.Good] at hg
  cases rows with
  | nil => exact absurd rfl hg.1
  | cons l r =>
    have hg2 := hg.2
    simp only [Nd.GoodRows] at hg2
    rw [Nd.rowsText, List.append_assoc]
    cases l with
    | nil =>
      have := (also_stop r t ht).not 94 (by decide) (by decide) (by decide)
      simpa [Nd.rowText] using this
    | cons n q =>
      have hn := hg2.1
      simp only [Nd.GoodRow] at hn
      obtain ⟨c, u, hc, h1, h32⟩ := text_head 7 n hn.1
      have e : Nd.rowText (n :: q) ++ (Nd.alsoText r ++ t) = c :: (u ++ (Nd.moreText q ++ (Nd.alsoText r ++ t))) := by simp [Nd.rowText, hc]
      rw [e, Px.isAt_of h32]
      simpa using starts_not h1 94 (by decide)
/-- An expression is read of its plain text. -/
theorem parse_text {s : Bs} {x : Bool × Bool × List (List Nd)} (h : Px.parse s = .ok x) (hl : (Px.text x).length ≤ 64) : Px.parse (Px.text x) = .ok x := by
  have hg := parse_good h
  obtain ⟨f, l, c⟩ := x
  have htl : Shut (if l = true then [36] else []) := by
    cases l
    · exact .inl rfl
    · exact .inr ⟨36, [], rfl, .inr rfl⟩
  have hc := choice_reads 8 c _ hg htl
  have hn := rows_not94 c hg _ htl
  have e : Px.text (f, l, c) = (if f = true then [94] else []) ++ (Nd.rowsText c ++ (if l = true then [36] else [])) := by simp [Px.text]
  unfold Px.parse
  rw [if_neg (by omega), e]
  have hA : Px.isAt ((if f = true then [94] else []) ++ (Nd.rowsText c ++ (if l = true then [36] else []))) 94 = f := by
    cases f
    · simpa using hn
    · simp only [if_true, List.cons_append, List.nil_append]
      rw [Px.isAt_of (by decide)]
      rfl
  have hB : (if f = true then Px.next ((if f = true then [94] else []) ++ (Nd.rowsText c ++ (if l = true then [36] else []))) else (if f = true then [94] else []) ++ (Nd.rowsText c ++ (if l = true then [36] else []))) = Nd.rowsText c ++ (if l = true then [36] else []) := by
    cases f
    · simp
    · simp only [if_true, List.cons_append, List.nil_append]
      rw [Px.next_of (by decide)]
  rw [hA, hB, hc]
  cases l <;> rfl
end Go.Proofs.YtpmmhmgojjlniaaGreatDoor.Ar
namespace Go.Proofs.YtpmmhmgojjlniaaGreatDoor.Ar
open Go.RowKit Go.Sort

def Is.lex : List Int → List Int → Int
  | x :: xs, y :: ys => if x < y then -1 else if y < x then 1 else Is.lex xs ys
  | _, _ => 0
def Is.compare (a b : List Int) : Int := if a.length < b.length then -1 else if b.length < a.length then 1 else Is.lex a b

theorem Is.lex_step (a b : List Int) (k : Nat) (h1 : k < a.length) (h2 : k < b.length) : Is.lex (a.drop k) (b.drop k) = if a[k] < b[k] then -1 else if b[k] < a[k] then 1 else Is.lex (a.drop (k + 1)) (b.drop (k + 1)) := by
  rw [List.drop_eq_getElem_cons h1, List.drop_eq_getElem_cons h2]
  rfl
theorem Is.lex_end (a b : List Int) (k : Nat) (h1 : a.length ≤ k) : Is.lex (a.drop k) (b.drop k) = 0 := by
  rw [List.drop_eq_nil_of_le h1]
  rfl
theorem Is.lex_bd : ∀ a b : List Int, -1 ≤ Is.lex a b ∧ Is.lex a b ≤ 1
  | [], _ => by simp [Is.lex]
  | _ :: _, [] => by simp [Is.lex]
  | x :: xs, y :: ys => by
    have := Is.lex_bd xs ys
    simp only [Is.lex]
    split
    · omega
    · split <;> omega
theorem Is.lex_zero : ∀ a b : List Int, a.length = b.length → (Is.lex a b = 0 ↔ a = b)
  | [], [], _ => by simp [Is.lex]
  | [], _ :: _, h => by simp at h
  | _ :: _, [], h => by simp at h
  | x :: xs, y :: ys, h => by
    have ih := Is.lex_zero xs ys (by simpa using h)
    simp only [Is.lex, List.cons.injEq]
    by_cases h1 : x < y
    · rw [if_pos h1]
      constructor
      · intro h; omega
      · intro h; omega
    · rw [if_neg h1]
      by_cases h2 : y < x
      · rw [if_pos h2]
        constructor
        · intro h; omega
        · intro h; omega
      · rw [if_neg h2, ih]
        constructor
        · exact fun h => ⟨by omega, h⟩
        · exact fun h => h.2
theorem Is.lex_neg : ∀ a b : List Int, Is.lex b a = -Is.lex a b
  | [], [] => rfl
  | [], _ :: _ => rfl
  | _ :: _, [] => rfl
  | x :: xs, y :: ys => by
    have ih := Is.lex_neg xs ys
    simp only [Is.lex]
    by_cases h1 : x < y
    · rw [if_pos h1, if_neg (by omega), if_pos h1]; rfl
    · by_cases h2 : y < x
      · rw [if_pos h2, if_neg h1, if_pos h2]
      · rw [if_neg h2, if_neg h1, if_neg h1, if_neg h2, ih]
theorem Is.lex_trans : ∀ a b c : List Int, a.length = b.length → b.length = c.length → Is.lex a b ≤ 0 → Is.lex b c ≤ 0 → Is.lex a c ≤ 0 ∧ ((Is.lex a b = 0 ∧ Is.lex b c = 0) ∨ Is.lex a c < 0)
  | [], [], [], _, _, _, _ => by simp [Is.lex]
  | x :: xs, y :: ys, z :: zs, h1, h2, h3, h4 => by
    have ih := Is.lex_trans xs ys zs (by simpa using h1) (by simpa using h2)
    simp only [Is.lex] at *
    by_cases e1 : x < y
    · by_cases e2 : y < z
      · rw [if_pos (show x < z by omega)]; omega
      · rw [if_neg e2] at h4
        by_cases e3 : z < y
        · rw [if_pos e3] at h4; omega
        · rw [if_pos (show x < z by omega)]; omega
    · rw [if_neg e1] at h3
      by_cases e3 : y < x
      · rw [if_pos e3] at h3; omega
      · rw [if_neg e3] at h3
        by_cases e2 : y < z
        · rw [if_pos (show x < z by omega)]; omega
        · rw [if_neg e2] at h4
          by_cases e4 : z < y
          · rw [if_pos e4] at h4; omega
          · rw [if_neg e4] at h4
            have := ih h3 h4
            rw [if_neg (show ¬ x < z by omega), if_neg (show ¬ z < x by omega), if_neg e1, if_neg e3, if_neg e2, if_neg e4]
            exact this
  | [], _ :: _, _, h, _, _, _ => by simp at h
  | _ :: _, [], _, h, _, _, _ => by simp at h
  | [], [], _ :: _, _, h, _, _ => by simp at h
  | _ :: _, _ :: _, [], _, h, _, _ => by simp at h
theorem Is.compare_bd (a b : List Int) : -1 ≤ Is.compare a b ∧ Is.compare a b ≤ 1 := by
  have := Is.lex_bd a b
  unfold Is.compare
  split
  · omega
  · split <;> omega
theorem Is.compare_zero (a b : List Int) : Is.compare a b = 0 ↔ a = b := by
  unfold Is.compare
  split
  · constructor
    · intro h; omega
    · rintro rfl; omega
  · split
    · constructor
      · intro h; omega
      · rintro rfl; omega
    · exact Is.lex_zero a b (by omega)
theorem Is.compare_neg (a b : List Int) : Is.compare b a = -Is.compare a b := by
  have := Is.lex_neg a b
  unfold Is.compare
  by_cases h1 : a.length < b.length
  · rw [if_pos h1, if_neg (by omega), if_pos h1]; rfl
  · by_cases h2 : b.length < a.length
    · rw [if_pos h2, if_neg h1, if_pos h2]
    · rw [if_neg h2, if_neg h1, if_neg h1, if_neg h2, this]
theorem Is.compare_trans (a b c : List Int) (h1 : Is.compare a b ≤ 0) (h2 : Is.compare b c ≤ 0) : Is.compare a c ≤ 0 ∧ ((Is.compare a b = 0 ∧ Is.compare b c = 0) ∨ Is.compare a c < 0) := by
  unfold Is.compare at *
  by_cases e1 : a.length < b.length
  · by_cases e2 : b.length < c.length
    · rw [if_pos (show a.length < c.length by omega)]; omega
    · rw [if_neg e2] at h2
      by_cases e3 : c.length < b.length
      · rw [if_pos e3] at h2; omega
      · rw [if_pos (show a.length < c.length by omega)]; omega
  · rw [if_neg e1] at h1
    by_cases e3 : b.length < a.length
    · rw [if_pos e3] at h1; omega
    · rw [if_neg e3] at h1
      by_cases e2 : b.length < c.length
      · rw [if_pos (show a.length < c.length by omega)]; omega
      · rw [if_neg e2] at h2
        by_cases e4 : c.length < b.length
        · rw [if_pos e4] at h2; omega
        · rw [if_neg e4] at h2
          have := Is.lex_trans a b c (by omega) (by omega) h1 h2
          rw [if_neg (show ¬ a.length < c.length by omega), if_neg (show ¬ c.length < a.length by omega), if_neg e1, if_neg e3, if_neg e2, if_neg e4]
          exact this

end Go.Proofs.YtpmmhmgojjlniaaGreatDoor.Ar
namespace Go.Proofs.YtpmmhmgojjlniaaGreatDoor.Ar
open Go.RowKit Go.Sort

/-- A slice that came in: nil has no room, and no place within a place. -/
def came (ao : Option Addr) (cap : Nat) : Prop := (ao = none → cap = 0) ∧ (∀ ad, ao = some ad → ad.spot = none)
theorem came_some (g o c : Nat) : came (some ⟨g, o, none⟩) c := ⟨fun h => (by cases h), fun ad h => (by cases h; rfl)⟩
theorem own_came {w : World} {B e size n cap : Nat} {ao : Option Addr} {xs : List Value} (h : w.ownsRow B e size (.slice ao n cap) n xs) : came ao cap := by
  rcases h.2 with ⟨hv, h0⟩ | ⟨g, cap', cur, hv, _⟩
  · simp only [Value.slice.injEq] at hv
    exact ⟨fun _ => hv.2.2, fun ad h => (by rw [hv.1] at h; cases h)⟩
  · simp only [Value.slice.injEq] at hv
    exact ⟨fun h => (by rw [hv.1] at h; cases h), fun ad h => (by rw [hv.1] at h; cases h; rfl)⟩

theorem infoI : (Tryz.prog.info? 3).map (fun i => (i.zero, i.size, i.bytes)) = some (some (.int .i64 0), 1, 8) := by kernel_rfl
theorem info_partsI : ∃ i0 : TypeInfo, Tryz.prog.info? 3 = some i0 ∧ i0.zero = some (.int .i64 0) ∧ i0.size = 1 ∧ i0.bytes = 8 := by
  have h := infoI
  cases hi : Tryz.prog.info? 3 with
  | none => rw [hi] at h; cases h
  | some i0 =>
    rw [hi] at h
    simp only [Option.map_some, Option.some.injEq, Prod.mk.injEq] at h
    exact ⟨i0, rfl, h.1, h.2.1, h.2.2⟩
theorem Is.cells_get (l : List Int) (j : Nat) (u : Value) (h : (Is.cells l)[j]? = some u) : ∃ hj : j < l.length, u = .int .i64 l[j] := by
  have hj : j < l.length := by have := (List.getElem?_eq_some_iff.1 h).1; rwa [Is.cells_length] at this
  refine ⟨hj, ?_⟩
  simp [Is.cells, hj] at h
  exact h.symm

/-- Numbers put behind a row of the call's own. -/
theorem append_ints {w w0 : World} {ops : Array Oper} {rest : List Oper} {o : Oper} {a : Act} {Q : Exit → Act → World → Prop} (hgd : o.guard = none) (s x : Operand)
    (ho : o.op = .call { callee := .builtin .append, args := #[s, x], argTypes := #[57, 57] }) (v : Value) (n : Nat) (xs : List Int) (hs : a.eval s = v) (hown : w.ownsRow w0.heap.size 3 1 v n (Is.cells xs))
    (ao : Option Addr) (nl cap : Nat) (l : List Int) (hx : a.eval x = .slice ao nl cap) (hnl : l.length = nl) (hR : Is.slot w ao l) (hC : came ao cap) (hn : n + nl ≤ 1000000) (hb : Below w0.heap.size w0 w)
    (h : ∀ v' w', w'.ownsRow w0.heap.size 3 1 v' (n + nl) (Is.cells (xs ++ l)) → Below w0.heap.size w0 w' → wpList Tryz.prog ops Q rest (a.put o.dst v') w') : wpList Tryz.prog ops Q (o :: rest) a w := by
  subst hnl
  obtain ⟨i0, hi, hz0, hz1, hz2⟩ := info_partsI
  cases ao with
  | none =>
    have hl : l = [] := by
      rcases hR with h | ⟨b, off, h, _⟩
      · exact h
      · cases h
    subst hl
    rw [hC.1 rfl] at hx
    refine wpList_append_own_none hgd s x 57 ho w0.heap.size 3 i0 1 Tryz.underlying57 hi v n (Is.cells xs) hs hown hx ?_
    exact h v w (by simpa using hown) hb
  | some ad =>
    obtain ⟨b, off, sp⟩ := ad
    obtain rfl : sp = none := hC.2 _ rfl
    have hrd : ∀ j u, (Is.cells l)[j]? = some u → w.cell? ((⟨b, off, none⟩ : Addr).add j) = some u := by
      intro j u hu
      obtain ⟨hj, rfl⟩ := Is.cells_get l j u hu
      rcases hR with h | ⟨b', off', h, hr⟩
      · rw [h] at hj; simp at hj
      · simp only [Option.some.injEq, Addr.mk.injEq, and_true] at h
        rw [show (⟨b, off, none⟩ : Addr).add j = ⟨b, off + j, none⟩ by unfold Addr.add; split <;> simp_all, h.1, h.2]
        exact hr j hj
    refine wpList_append_own w hgd s x 57 ho w0.heap.size 3 i0 _ 1 8 Tryz.underlying57 hi hz0 hz1 hz2 rfl (by decide) v n (Is.cells xs) hs hown ⟨b, off, none⟩ l.length cap (Is.cells l) hx (by rw [Is.cells_length, Nat.mul_one]) hrd (Is.cells_one l) (by unfold maxLen; omega) (by omega) hb.size ?_
    intro v' w' ho' hg _
    refine h v' w' ?_ (Below.grown hb hg hb.size fun k hk => (hown.lt k hk).1)
    rw [Is.cells_app]
    exact ho'
theorem Is.slot_one (W : World) (n : Int) (t : TypeId) : Is.slot (W.alloc (.cells #[.int .i64 n] t)) (some ⟨W.heap.size, 0, none⟩) [n] := by
  refine .inr ⟨_, 0, rfl, fun j hj => ?_⟩
  obtain rfl : j = 0 := by simp at hj; omega
  simp

theorem Ru.slot_one (W : World) (a b : Int) (g : Nat) (h : Two W g a b) : Ru.slot W (some ⟨g, 0, none⟩) [(a, b)] := by
  refine .inr ⟨g, 0, rfl, fun j u hu => ?_⟩
  match j, hu with
  | 0, hu => simp [Ru.cells, Ru.enc] at hu; subst hu; exact h.1
  | 1, hu => simp [Ru.cells, Ru.enc] at hu; subst hu; exact h.2.1

end Go.Proofs.YtpmmhmgojjlniaaGreatDoor.Ar
namespace Go.Proofs.YtpmmhmgojjlniaaGreatDoor.Ar
open Go.RowKit Go.Sort

abbrev Xp : Type := Bool × Bool × List (List Nd)
mutual
def Nd.size : Nd → Nat
  | .num _ _ _ => 1
  | .ch rows => Nd.sizeRows rows
  | .st _ n => Nd.size n
def Nd.sizeRow : List Nd → Nat
  | [] => 0
  | n :: r => Nd.size n + Nd.sizeRow r
def Nd.sizeRows : List (List Nd) → Nat
  | [] => 0
  | l :: r => Nd.sizeRow l + Nd.sizeRows r
end
def X1 : Xp := (true, true, [[.num false false [(65000, 65000, false)], .st 3 (.num true false [(1, 65535, true)])]])
def X2 : Xp := (false, false, [[.st 4 (.ch [[.num false false [(1, 1, false)]], [.num false false [(2, 2, false)]]]), .num false false [(3, 3, false)]]])
theorem px1 : Px.parse [94, 54, 53, 48, 48, 48, 32, 46, 42, 36] = .ok X1 := by rfl
theorem px2 : Px.parse [40, 49, 124, 50, 41, 43, 32, 51] = .ok X2 := by rfl
theorem m1 : Ex.Meets X1 [65000, 1, 2] := by
  refine ⟨[], [65000, 1, 2], [], rfl, ?_, fun _ => rfl, fun _ => rfl⟩
  simp only [X1, Nd.MetRows, Nd.MetRow, or_false]
  refine ⟨[65000], [1, 2], rfl, ?_, [1, 2], [], rfl, ?_, rfl⟩
  · rw [Nd.Met]
    exact ⟨65000, rfl, (65000, 65000, false), by simp, by decide, by decide⟩
  · rw [Nd.Met, if_neg (by decide), if_pos rfl]
    refine Many.cons (a := [1]) (b := [2]) ?_ (Many.cons (a := [2]) (b := []) ?_ .nil)
    · rw [Nd.Met]
      exact ⟨1, rfl, (1, 65535, true), by simp, by decide, by decide⟩
    · rw [Nd.Met]
      exact ⟨2, rfl, (1, 65535, true), by simp, by decide, by decide⟩
theorem m2 : ¬ Ex.Meets X1 [1, 65000] := by
  rintro ⟨a, b, c, hp, h, h1, h2⟩
  rw [h1 rfl, h2 rfl] at hp
  simp only [List.nil_append, List.append_nil] at hp
  subst hp
  simp only [X1, Nd.MetRows, Nd.MetRow, or_false] at h
  obtain ⟨a, b, hp, ha, _⟩ := h
  rw [Nd.Met] at ha
  obtain ⟨n, rfl, r, hr, h3, h4⟩ := ha
  simp at hp hr
  obtain ⟨rfl, _⟩ := hp
  subst hr
  simp at h3
theorem m3 : Ex.Meets X2 [7, 1, 2, 3, 9] := by
  refine ⟨[7], [1, 2, 3], [9], rfl, ?_, fun e => (by cases e), fun e => (by cases e)⟩
  simp only [X2, Nd.MetRows, Nd.MetRow, or_false]
  have hn : ∀ k : Int, Nd.Met (.num false false [(k, k, false)]) [k] := by
    intro k
    rw [Nd.Met]
    exact ⟨k, rfl, (k, k, false), by simp, Int.le_refl _, Int.le_refl _⟩
  refine ⟨[1, 2], [3], rfl, ?_, [3], [], rfl, hn 3, rfl⟩
  rw [Nd.Met, if_neg (by decide), if_neg (by decide)]
  refine ⟨[1], [2], rfl, ?_, Many.cons (a := [2]) (b := []) ?_ .nil⟩
  · simp only [Nd.Met, Nd.MetRows, Nd.MetRow, or_false]
    exact .inl ⟨[1], [], rfl, by have := hn 1; rwa [Nd.Met] at this, rfl⟩
  · simp only [Nd.Met, Nd.MetRows, Nd.MetRow, or_false]
    exact .inr ⟨[2], [], rfl, by have := hn 2; rwa [Nd.Met] at this, rfl⟩
theorem itoa_one (n : Nat) (h : n < 10) : Lib.itoa (n : Int) = [UInt8.ofNat (48 + n)] := by
  rw [Lib.itoa_nonneg, Lib.decDigits_one h]
theorem tx2 : Px.text X2 = [40, 49, 124, 50, 41, 43, 32, 51] := by
  have e1 : Lib.itoa 1 = [49] := itoa_one 1 (by decide)
  have e2 : Lib.itoa 2 = [50] := itoa_one 2 (by decide)
  have e3 : Lib.itoa 3 = [51] := itoa_one 3 (by decide)
  simp [Px.text, X2, Nd.rowsText, Nd.alsoText, Nd.rowText, Nd.moreText, Nd.text, Px.pairs, Px.pair, Px.signText, e1, e2, e3]
end Go.Proofs.YtpmmhmgojjlniaaGreatDoor.Ar
namespace Go.Proofs.YtpmmhmgojjlniaaGreatDoor.Ar
open Go.RowKit Go.Sort

/-- A tree as the document's functions hold it: a kind, two marks, pairs of numbers, kids. -/
inductive Tr where
  | mk (k : Int) (d s : Bool) (f t : List Int) (ks : List Tr)
mutual
def Nd.tr : Nd → Tr
  | .num d s rs => .mk 0 d s (rs.map Prod.fst) (rs.map fun p => p.2.1) []
  | .ch rows => .mk 2 false false [] [] (Nd.trRows rows)
  | .st k n => .mk k false false [] [] [Nd.tr n]
def Nd.trRow : List Nd → List Tr
  | [] => []
  | n :: r => Nd.tr n :: Nd.trRow r
def Nd.trRows : List (List Nd) → List Tr
  | [] => []
  | l :: r => .mk 1 false false [] [] (Nd.trRow l) :: Nd.trRows r
end
mutual
def Tr.size : Tr → Nat
  | .mk k _ _ _ _ ks => if k = 0 then 1 else Tr.sizes ks
def Tr.sizes : List Tr → Nat
  | [] => 0
  | t :: r => Tr.size t + Tr.sizes r
end
/-- A row of cells read there. -/
def Six (w : World) (b off : Nat) (cs : List Value) : Prop := ∀ j (h : j < cs.length), w.cell? ⟨b, off + j, none⟩ = some cs[j]
theorem six_below {w w' : World} {b off : Nat} {cs : List Value} (h : Six w b off cs) (hb : Below w.heap.size w w') : Six w' b off cs := by
  intro j hj
  have := h j hj
  rw [hb.cell (p := ⟨b, off + j, none⟩) (block_lt_of_cell this)]
  exact this
/-- A tree that lies in memory below these six cells. -/
inductive Tr.At (w : World) : Tr → List Value → Prop
  | mk {k : Int} {d s : Bool} {f t : List Int} {ks : List Tr} {fo : Option Addr} {fc : Nat} {to : Option Addr} {tc : Nat} {ko : Option Addr} {kc : Nat} (b off : Nat) (css : Nat → List Value)
    (hn : f.length ≤ 100000 ∧ t.length ≤ 100000 ∧ ks.length ≤ 100000) (hf : Is.slot w fo f) (ht : Is.slot w to t) (hk : ks = [] ∨ ko = some ⟨b, off, none⟩) (hr : ∀ i, i < ks.length → Six w b (off + i * 6) (css i)) (ha : ∀ i (h : i < ks.length), Tr.At w ks[i] (css i)) :
    Tr.At w (.mk k d s f t ks) [.int .i64 k, .bool d, .bool s, .slice fo f.length fc, .slice to t.length tc, .slice ko ks.length kc]
theorem Tr.on {w w' : World} {t : Tr} {cs : List Value} (h : Tr.At w t cs) (hb : Below w.heap.size w w') : Tr.At w' t cs := by
  induction h with
  | mk b off css hn hf ht hk hr _ ih => exact .mk b off css hn (Is.slot_below hf hb) (Is.slot_below ht hb) hk (fun i hi => six_below (hr i hi) hb) ih
theorem Tr.len {w : World} {t : Tr} {cs : List Value} (h : Tr.At w t cs) : ∃ a b c d e f, cs = [a, b, c, d, e, f] := by
  cases h
  exact ⟨_, _, _, _, _, _, rfl⟩
theorem Tr.sizes_app (a b : List Tr) : Tr.sizes (a ++ b) = Tr.sizes a + Tr.sizes b := by
  induction a with
  | nil => simp [Tr.sizes]
  | cons x r ih => simp only [List.cons_append, Tr.sizes, ih]; omega
theorem Tr.sizes_step (ks : List Tr) (i : Nat) (h : i < ks.length) : Tr.sizes (ks.take (i + 1)) = Tr.sizes (ks.take i) + Tr.size ks[i] := by
  rw [List.take_succ_eq_append_getElem h, Tr.sizes_app]
  simp [Tr.sizes]
theorem Tr.sizes_le (ks : List Tr) (i : Nat) : Tr.sizes (ks.take i) ≤ Tr.sizes ks := by
  have := Tr.sizes_app (ks.take i) (ks.drop i)
  rw [List.take_append_drop] at this
  omega

/-- A node's six cells in a block of its own. -/
def Box (w : World) (b : Nat) (x0 x1 x2 x3 x4 x5 : Value) : Prop := w.cell? ⟨b, 0, none⟩ = some x0 ∧ w.cell? ⟨b, 1, none⟩ = some x1 ∧ w.cell? ⟨b, 2, none⟩ = some x2 ∧ w.cell? ⟨b, 3, none⟩ = some x3 ∧ w.cell? ⟨b, 4, none⟩ = some x4 ∧ w.cell? ⟨b, 5, none⟩ = some x5
theorem box_new (W : World) (x0 x1 x2 x3 x4 x5 : Value) (t : TypeId) : Box (W.alloc (.cells #[x0, x1, x2, x3, x4, x5] t)) W.heap.size x0 x1 x2 x3 x4 x5 := by
  refine ⟨?_, ?_, ?_, ?_, ?_, ?_⟩ <;> simp
theorem box_below {w w' : World} {b : Nat} {x0 x1 x2 x3 x4 x5 : Value} (h : Box w b x0 x1 x2 x3 x4 x5) (hb : Below w.heap.size w w') : Box w' b x0 x1 x2 x3 x4 x5 := by
  have hl := block_lt_of_cell h.1
  obtain ⟨h0, h1, h2, h3, h4, h5⟩ := h
  exact ⟨(hb.cell (p := ⟨b, 0, none⟩) hl).trans h0, (hb.cell (p := ⟨b, 1, none⟩) hl).trans h1, (hb.cell (p := ⟨b, 2, none⟩) hl).trans h2, (hb.cell (p := ⟨b, 3, none⟩) hl).trans h3, (hb.cell (p := ⟨b, 4, none⟩) hl).trans h4, (hb.cell (p := ⟨b, 5, none⟩) hl).trans h5⟩
theorem six_at {w : World} {b off : Nat} {x0 x1 x2 x3 x4 x5 : Value} (h : Six w b off [x0, x1, x2, x3, x4, x5]) :
    w.cell? ⟨b, off, none⟩ = some x0 ∧ w.cell? ⟨b, off + 1, none⟩ = some x1 ∧ w.cell? ⟨b, off + 2, none⟩ = some x2 ∧ w.cell? ⟨b, off + 3, none⟩ = some x3 ∧ w.cell? ⟨b, off + 4, none⟩ = some x4 ∧ w.cell? ⟨b, off + 5, none⟩ = some x5 :=
  ⟨h 0 (by simp), h 1 (by simp), h 2 (by simp), h 3 (by simp), h 4 (by simp), h 5 (by simp)⟩

end Go.Proofs.YtpmmhmgojjlniaaGreatDoor.Ar
namespace Go.Proofs.YtpmmhmgojjlniaaGreatDoor.Ar
open Go.RowKit Go.Sort

/-- At place n of a text the bytes r are left. -/
def Pos (s : ByteArray) (n : Nat) (r : Bs) : Prop := s.data.toList.drop n = r ∧ n ≤ s.size
theorem Pos.start (s : ByteArray) : Pos s 0 s.data.toList := ⟨rfl, Nat.zero_le _⟩
theorem Pos.len {s : ByteArray} {n : Nat} {r : Bs} (h : Pos s n r) : n + r.length = s.size := by
  have := congrArg List.length h.1
  rw [List.length_drop, Ad.size_list] at this
  have := h.2
  omega
theorem Pos.cons {s : ByteArray} {n : Nat} {c : UInt8} {t : Bs} (h : Pos s n (c :: t)) : ∃ hn : n < s.size, s[n] = c ∧ Pos s (n + 1) t := by
  have hl := h.len
  rw [List.length_cons] at hl
  have hn : n < s.size := by omega
  refine ⟨hn, ?_, ?_, by omega⟩
  · have hd := h.1
    rw [List.drop_eq_getElem_cons (by rw [Ad.size_list]; exact hn)] at hd
    have := (List.cons.inj hd).1
    rw [Ad.get_list s n hn] at this
    exact this
  · have hd := h.1
    rw [List.drop_eq_getElem_cons (by rw [Ad.size_list]; exact hn)] at hd
    exact (List.cons.inj hd).2
theorem Pos.nil {s : ByteArray} {n : Nat} (h : Pos s n []) : n = s.size := by simpa using h.len
theorem Pos.suf {s : ByteArray} {n : Nat} {r k : Bs} (h : Pos s n r) (hk : k <:+ r) : Pos s (s.size - k.length) k := by
  refine ⟨?_, by omega⟩
  obtain ⟨p, rfl⟩ := hk
  have hl := h.len
  rw [List.length_append] at hl
  have hd := h.1
  rw [show s.size - k.length = n + p.length by omega, ← List.drop_drop, hd]
  simp
theorem Pos.uniq {s : ByteArray} {n m : Nat} {r : Bs} (h : Pos s n r) (h2 : Pos s m r) : n = m := by
  have := h.len
  have := h2.len
  omega

theorem Pos.skip {s : ByteArray} {n : Nat} {r : Bs} (h : Pos s n r) : Pos s (s.size - (Px.skip r).length) (Px.skip r) := h.suf (Px.skip_suf r)

end Go.Proofs.YtpmmhmgojjlniaaGreatDoor.Ar
namespace Go.Proofs.YtpmmhmgojjlniaaGreatDoor.Ar
open Go.RowKit Go.Sort

def NumGood (s : ByteArray) (w : World) (R : Except Int (Int × Bs)) (e : Ending) (w' : World) : Prop :=
  match R with
  | .ok (x, k) => ∃ j : Nat, Pos s j k ∧ e = .returned (.tuple #[.int .i64 x, .int .i64 j, .int .i64 0]) ∧ w' = w
  | .error q => ∃ j : Int, e = .returned (.tuple #[.int .i64 0, .int .i64 j, .int .i64 q]) ∧ w' = w

theorem Pos.drop {s : ByteArray} {n : Nat} {r : Bs} (h : Pos s n r) (k : Nat) (hk : k ≤ r.length) : Pos s (n + k) (r.drop k) := by
  have hl := h.len
  refine ⟨?_, by omega⟩
  rw [← List.drop_drop, h.1]
theorem take_dig_at (q : Bs) (k : Nat) (hk : k < (q.takeWhile Ad.dig).length) : ∃ t, q.drop k = (q.takeWhile Ad.dig)[k] :: t ∧ Ad.dig (q.takeWhile Ad.dig)[k] = true := by
  have hp : q.takeWhile Ad.dig <+: q := List.takeWhile_prefix _
  have hl := hp.length_le
  refine ⟨q.drop (k + 1), ?_, ?_⟩
  · rw [List.drop_eq_getElem_cons (by omega)]
    congr 1
    exact (hp.getElem hk).symm
  · have : (q.takeWhile Ad.dig)[k] ∈ q.takeWhile Ad.dig := List.getElem_mem hk
    exact List.all_eq_true.1 List.all_takeWhile _ this
theorem take_dig_end : ∀ (q : Bs), (q.drop (q.takeWhile Ad.dig).length = []) ∨ ∃ c t, q.drop (q.takeWhile Ad.dig).length = c :: t ∧ Ad.dig c = false
  | [] => .inl rfl
  | c :: t => by
    rw [List.takeWhile_cons]
    cases h : Ad.dig c
    · exact .inr ⟨c, t, by simp, h⟩
    · simpa using take_dig_end t
theorem digs_takeWhile (q : Bs) : Ad.digs (q.takeWhile Ad.dig) = true := by
  unfold Ad.digs
  exact List.all_takeWhile
theorem num_take_succ (ds : Bs) (k : Nat) (hk : k < ds.length) : Ad.num (ds.take (k + 1)) = 10 * Ad.num (ds.take k) + ((ds[k].toNat : Int) - 48) := by
  rw [List.take_succ_eq_append_getElem hk, Ad.num_snoc]
theorem digs_take (ds : Bs) (k : Nat) (h : Ad.digs ds = true) : Ad.digs (ds.take k) = true := by
  unfold Ad.digs at *
  rw [List.all_eq_true] at *
  exact fun c hc => h c (List.mem_of_mem_take hc)
theorem clamp_step (a : Int) (d : Int) (_ha : 0 ≤ a) (hd : 0 ≤ d) : Ad.clampM (10 * a + d) = Ad.clampM (10 * Ad.clampM a + d) := by
  unfold Ad.clampM
  split <;> split <;> (try split) <;> omega
theorem clamp_le (a : Int) : Ad.clampM a ≤ 1000000 := by
  unfold Ad.clampM
  split <;> omega
theorem clamp_ge (a : Int) (h : 0 ≤ a) : 0 ≤ Ad.clampM a := by
  unfold Ad.clampM
  split <;> omega

theorem num_bad (s : ByteArray) (w : World) (j q : Int) : NumGood s w (.error q) (.returned (.tuple #[.int .i64 0, .int .i64 j, .int .i64 q])) w := ⟨j, rfl, rfl⟩
theorem num_ok (s : ByteArray) (w : World) (x : Int) (m k : Nat) (r : Bs) (h : Pos s (m + k) r) : NumGood s w (.ok (x, r)) (.returned (.tuple #[.int .i64 x, .int .i64 ((m : Int) + (k : Int)), .int .i64 0])) w :=
  ⟨m + k, h, by simp, rfl⟩
end Go.Proofs.YtpmmhmgojjlniaaGreatDoor.Ar
