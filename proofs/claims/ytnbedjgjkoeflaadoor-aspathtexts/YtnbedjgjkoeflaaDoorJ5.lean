/- A path is made of its runs: the mathematics. -/
import Derived.Test.YtnbedjgjkoeflaaDoorJ1
namespace Go.Proofs.YtnbedjgjkoeflaaDoor
open Go.RowKit

theorem list_snoc {α : Type} (l : List α) (h : l ≠ []) : ∃ k x, l = k ++ [x] := ⟨l.dropLast, l.getLast h, (List.dropLast_concat_getLast h).symm⟩
theorem Ru.expand_app (y : List Ru.C) (z n : Int) : Ru.expand (y ++ [(z, n)]) = Ru.expand y ++ List.replicate n.toNat z := by simp [Ru.expand]
theorem Ru.bang_app (y : List Ru.C) (c : Ru.C) (i : Nat) (h : i < y.length) : (y ++ [c])[i]! = y[i]! := by
  rw [getElem!_pos (y ++ [c]) i (by simp; omega), getElem!_pos y i h, List.getElem_append_left h]
theorem Ru.good_snoc (y : List Ru.C) (c : Ru.C) : Ru.good (y ++ [c]) = true ↔ Ru.good y = true ∧ Is.as c.1 = true ∧ 0 < c.2 ∧ (∀ r, y.getLast? = some r → r.1 ≠ c.1) := by
  rw [Ru.good_iff, Ru.good_iff]
  have hlast : (y ++ [c])[y.length]! = c := by rw [getElem!_pos (y ++ [c]) y.length (by simp)]; simp
  have hold : ∀ i, i < y.length → Ru.okAt (y ++ [c]) i = Ru.okAt y i := by
    intro i hi
    unfold Ru.okAt
    rw [Ru.bang_app y c i hi, Ru.bang_app y c (i - 1) (by omega)]
  have hnew : Ru.okAt (y ++ [c]) y.length = true ↔ Is.as c.1 = true ∧ 0 < c.2 ∧ (∀ r, y.getLast? = some r → r.1 ≠ c.1) := by
    unfold Ru.okAt
    rw [hlast, Bool.and_eq_true, Bool.and_eq_true, decide_eq_true_iff, Bool.or_eq_true, beq_iff_eq, bne_iff_ne, and_assoc]
    refine and_congr Iff.rfl (and_congr Iff.rfl ?_)
    by_cases hy : y = []
    · subst hy
      simp
    · obtain ⟨k, x, rfl⟩ := list_snoc y hy
      have e : ((k ++ [x]) ++ [c])[(k ++ [x]).length - 1]! = x := by
        rw [Ru.bang_app _ _ _ (by simp), show (k ++ [x]).length - 1 = k.length by simp, getElem!_pos (k ++ [x]) k.length (by simp)]
        simp
      rw [e]
      simp
      exact ⟨fun h e => h e.symm, fun h e => h e.symm⟩
  constructor
  · intro h
    refine ⟨fun i hi => ?_, hnew.1 (h y.length (by simp))⟩
    rw [← hold i hi]
    exact h i (by simp; omega)
  · rintro ⟨h1, h2⟩ i hi
    rcases Nat.lt_or_ge i y.length with h | h
    · rw [hold i h]; exact h1 i h
    · obtain rfl : i = y.length := by simp at hi; omega
      exact hnew.2 h2
theorem Ru.runs_good (l : List Int) (h : ∀ n ∈ l, Is.as n = true) : Ru.good (Ru.runs l) = true ∧ Ru.expand (Ru.runs l) = l := by
  have key : ∀ (m : Nat) (l : List Int), l.length = m → (∀ n ∈ l, Is.as n = true) → Ru.good (Ru.runs l) = true ∧ Ru.expand (Ru.runs l) = l := by
    intro m
    induction m with
    | zero =>
      intro l hl _
      obtain rfl := List.length_eq_zero_iff.1 hl
      exact ⟨by decide, by decide⟩
    | succ m ih =>
      intro l hl h
      obtain ⟨k, x, rfl⟩ := list_snoc l (by intro e; subst e; simp at hl)
      have hx := h x (by simp)
      obtain ⟨i1, i2⟩ := ih k (by simpa using hl) (fun n hn => h n (by simp [hn]))
      by_cases hk : k = []
      · subst hk
        refine ⟨?_, ?_⟩
        · show Ru.good ([] ++ [(x, 1)]) = true
          rw [Ru.good_snoc]
          exact ⟨by decide, hx, (by decide : (0 : Int) < 1), by simp⟩
        · show Ru.expand [(x, 1)] = [x]
          simp [Ru.expand]
      · obtain ⟨k', z, rfl⟩ := list_snoc k hk
        obtain ⟨y, n, e, hn1, _, _⟩ := Ru.runs_last k' z
        rw [e] at i1 i2
        rw [Ru.runs_snoc (k' ++ [z]) x, e]
        have hg := (Ru.good_snoc y (z, n)).1 i1
        rw [Ru.expand_app] at i2
        by_cases hz : z = x
        · subst hz
          rw [Ru.push_same]
          refine ⟨(Ru.good_snoc y (z, n + 1)).2 ⟨hg.1, hg.2.1, by show 0 < n + 1; omega, hg.2.2.2⟩, ?_⟩
          rw [Ru.expand_app, show (n + 1).toNat = n.toNat + 1 by omega, List.replicate_succ', ← List.append_assoc, i2]
        · rw [Ru.push_new y z n x hz]
          refine ⟨(Ru.good_snoc _ (x, 1)).2 ⟨i1, hx, by show (0 : Int) < 1; decide, fun r hr => ?_⟩, ?_⟩
          · simp at hr
            subst hr
            exact hz
          · rw [Ru.expand_app, Ru.expand_app, i2]
            rfl
  exact key l.length l rfl h
theorem Ru.push_many (y : List Ru.C) (z : Int) (h : ∀ r, y.getLast? = some r → r.1 ≠ z) : ∀ m : Nat, (List.replicate (m + 1) z).foldl Ru.push y = y ++ [(z, ((m + 1 : Nat) : Int))]
  | 0 => by
    show Ru.push y z = _
    by_cases hy : y = []
    · subst hy; rfl
    · obtain ⟨k, ⟨x, n⟩, rfl⟩ := list_snoc y hy
      rw [Ru.push_new k x n z (h (x, n) (by simp))]
      rfl
  | m + 1 => by
    rw [List.replicate_succ', List.foldl_append, Ru.push_many y z h m]
    show Ru.push _ z = _
    rw [Ru.push_same]
    rfl
theorem Ru.runs_expand (x : List Ru.C) (h : Ru.good x = true) : Ru.runs (Ru.expand x) = x ∧ ∀ n ∈ Ru.expand x, Is.as n = true := by
  have key : ∀ (m : Nat) (x : List Ru.C), x.length = m → Ru.good x = true → Ru.runs (Ru.expand x) = x ∧ ∀ n ∈ Ru.expand x, Is.as n = true := by
    intro m
    induction m with
    | zero =>
      intro x hx _
      obtain rfl := List.length_eq_zero_iff.1 hx
      exact ⟨rfl, by simp [Ru.expand]⟩
    | succ m ih =>
      intro x hx h
      obtain ⟨y, ⟨z, n⟩, rfl⟩ := list_snoc x (by intro e; subst e; simp at hx)
      obtain ⟨hg, ha, hn, hl⟩ := (Ru.good_snoc y (z, n)).1 h
      obtain ⟨i1, i2⟩ := ih y (by simpa using hx) hg
      simp only at ha hn hl
      rw [Ru.expand_app]
      constructor
      · unfold Ru.runs at i1 ⊢
        rw [List.foldl_append, i1, show n.toNat = (n.toNat - 1) + 1 by omega, Ru.push_many y z hl]
        congr 3
        omega
      · intro v hv
        rcases List.mem_append.1 hv with hv | hv
        · exact i2 v hv
        · rw [List.eq_of_mem_replicate hv]
          exact ha
  exact key x.length x rfl h
theorem Is.may_all (l : List Int) : Is.may l = true ↔ l.length ≤ 16 ∧ ∀ n ∈ l, Is.as n = true := by
  unfold Is.may
  rw [Bool.and_eq_true, decide_eq_true_iff, List.all_eq_true]
theorem Is.of_runs (l : List Int) (h : Is.may l = true) : Is.of (Ru.runs l) = (l, 0) := by
  have hm := (Is.may_all l).1 h
  obtain ⟨h1, h2⟩ := Ru.runs_good l hm.2
  unfold Is.of
  rw [if_pos h1, h2, if_neg (by omega)]
theorem Is.of_ok (x : List Ru.C) (y : List Int) (h : Is.of x = (y, 0)) : Ru.runs y = x ∧ Is.may y = true := by
  unfold Is.of at h
  split at h
  · rename_i hg
    split at h
    · simp at h
    · simp only [Prod.mk.injEq] at h
      obtain ⟨h1, h2⟩ := Ru.runs_expand x hg
      rw [h.1] at h1 h2
      refine ⟨h1, (Is.may_all y).2 ⟨?_, h2⟩⟩
      rw [← h.1]
      omega
  · simp at h
theorem Is.prepend_ok (l : List Int) (n t : Int) (z : List Int) (h : Is.prepend l n t = (z, 0)) : (z.length : Int) = (l.length : Int) + t ∧ z.length ≤ 16 ∧ Is.tail z l = true ∧ (t = 0 ∨ (Is.first z = n ∧ z.contains n = true)) ∧ Is.may z = true := by
  rcases Is.prepend_cases l n t z 0 h with ⟨_, _, h⟩ | ⟨_, _, _, h⟩ | ⟨_, _, _, _, h⟩ | ⟨_, _, _, _, h⟩ | ⟨_, _, _, _, _, _, h⟩ | ⟨hm, ha, ht, h16, hz, _⟩
  · cases h
  · cases h
  · cases h
  · cases h
  · cases h
  · obtain ⟨m, rfl⟩ := Int.eq_ofNat_of_zero_le ht
    rw [Int.toNat_natCast] at hz
    subst hz
    have hlen : (List.replicate m n ++ l).length = m + l.length := by simp
    refine ⟨by rw [hlen]; omega, by rw [hlen]; omega, ?_, ?_, ?_⟩
    · unfold Is.tail
      rw [hlen, Bool.and_eq_true, decide_eq_true_iff, decide_eq_true_iff]
      refine ⟨by omega, ?_⟩
      rw [show m + l.length - l.length = m by omega, List.drop_append_of_le_length (by simp)]
      simp
    · cases m with
      | zero => exact .inl rfl
      | succ m =>
        right
        refine ⟨by simp [Is.first, List.replicate_succ], ?_⟩
        rw [List.contains_iff_mem]
        simp
    · rw [Is.may_all]
      refine ⟨by rw [hlen]; omega, fun v hv => ?_⟩
      rcases List.mem_append.1 hv with hv | hv
      · rw [List.eq_of_mem_replicate hv]; exact ha
      · exact ((Is.may_all l).1 hm).2 v hv
theorem Is.prepend_bad (l : List Int) (n t : Int) (z : List Int) (q : Int) (h : Is.prepend l n t = (z, q)) (hq : q ≠ 0) : z = [] := by
  rcases Is.prepend_cases l n t z q h with ⟨_, h, _⟩ | ⟨_, _, h, _⟩ | ⟨_, _, _, h, _⟩ | ⟨_, _, _, h, _⟩ | ⟨_, _, _, _, _, h, _⟩ | ⟨_, _, _, _, _, h⟩
  · exact h
  · exact h
  · exact h
  · exact h
  · exact h
  · exact absurd h hq
end Go.Proofs.YtnbedjgjkoeflaaDoor
