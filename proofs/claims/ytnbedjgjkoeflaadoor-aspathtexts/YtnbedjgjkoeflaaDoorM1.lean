/- The numbers of a path's runs, and its end, by its runs: the mathematics. -/
import Derived.Test.YtnbedjgjkoeflaaDoorJ5
import Derived.Lib.SlicesCompact
namespace Go.Proofs.YtnbedjgjkoeflaaDoor

theorem snoc_ind {α : Type} {p : List α → Prop} (h0 : p []) (h1 : ∀ l x, p l → p (l ++ [x])) : ∀ l, p l := by
  have key : ∀ (n : Nat) (l : List α), l.length = n → p l := by
    intro n
    induction n with
    | zero => intro l hl; rw [List.length_eq_zero_iff.1 hl]; exact h0
    | succ n ih =>
      intro l hl
      obtain ⟨k, x, rfl⟩ := list_snoc l (by intro e; subst e; simp at hl)
      exact h1 k x (ih k (by simpa using hl))
  exact fun l => key l.length l rfl

theorem upTo_congr (d d' : Array Int) : ∀ (m : Nat), (∀ j, j < m → d[j]! = d'[j]!) → Lib.compactUpTo d m = Lib.compactUpTo d' m
  | 0, _ => rfl
  | m + 1, h => by
    rw [Lib.compactUpTo_succ, Lib.compactUpTo_succ, upTo_congr d d' m (fun j hj => h j (by omega)), h m (by omega)]
    have : Lib.keeps d m = Lib.keeps d' m := by
      unfold Lib.keeps
      rw [h m (by omega), h (m - 1) (by omega)]
    rw [this]
theorem compact_snoc (l : List Int) (x : Int) : Lib.compact (l ++ [x]) = Lib.compact l ++ (if l.getLast? = some x then [] else [x]) := by
  unfold Lib.compact
  rw [show (l ++ [x]).length = l.length + 1 by simp, Lib.compactUpTo_succ, upTo_congr (l ++ [x]).toArray l.toArray l.length]
  · congr 1
    have e : (l ++ [x]).toArray[l.length]! = x := by simp
    rw [e]
    unfold Lib.keeps
    rw [e]
    by_cases hl : l = []
    · subst hl
      simp
    · obtain ⟨k, z, rfl⟩ := list_snoc l hl
      have e2 : ((k ++ [z]) ++ [x]).toArray[(k ++ [z]).length - 1]! = z := by simp
      rw [e2]
      by_cases hz : z = x
      · subst hz; simp
      · have hz' : x ≠ z := fun e => hz e.symm
        simp [hz, hz']
  · intro j hj
    simp [List.getElem?_append, hj]

theorem short_snoc (l : List Int) (x : Int) : Is.short (l ++ [x]) = Is.short l ++ (if l.getLast? = some x then [] else [x]) := by
  unfold Is.short
  rw [Ru.runs_snoc]
  by_cases hl : l = []
  · subst hl
    rfl
  · obtain ⟨k, z, rfl⟩ := list_snoc l hl
    obtain ⟨y, n, h, _⟩ := Ru.runs_last k z
    rw [h]
    by_cases hz : z = x
    · subst hz
      rw [Ru.push_same]
      simp
    · rw [Ru.push_new _ _ _ _ hz]
      simp [hz]
theorem compact_short (l : List Int) : Lib.compact l = Is.short l := by
  induction l using snoc_ind with
  | h0 => rfl
  | h1 l x ih => rw [compact_snoc, short_snoc, ih]

theorem compact_len (l : List Int) : (Lib.compact l).length ≤ l.length := by
  induction l using snoc_ind with
  | h0 => exact Nat.le_refl _
  | h1 l x ih =>
    rw [compact_snoc]
    by_cases h : l.getLast? = some x
    · simp [h]; omega
    · simp [h]; exact ih
/-- Of sorted numbers some go just if one stands there twice. -/
theorem compact_sorted (l : List Int) (hs : l.Pairwise (· ≤ ·)) : (Lib.compact l).length < l.length ↔ ¬ l.Nodup := by
  induction l using snoc_ind with
  | h0 => simp [Lib.compact, Lib.compactUpTo]
  | h1 l x ih =>
    have hle := compact_len l
    rw [List.pairwise_append] at hs
    have ih := ih hs.1
    have hmem : x ∈ l ↔ l.getLast? = some x := by
      constructor
      · intro hx
        obtain ⟨k, z, rfl⟩ := list_snoc l (by intro e; subst e; simp at hx)
        have h1 : z ≤ x := hs.2.2 z (by simp) x (by simp)
        have h2 : x ≤ z := by
          rcases List.mem_append.1 hx with h | h
          · exact (List.pairwise_append.1 hs.1).2.2 x h z (by simp)
          · simp at h; omega
        simp; omega
      · exact fun h => List.mem_of_getLast? h
    rw [compact_snoc, List.nodup_append]
    by_cases h : l.getLast? = some x
    · simp only [h, if_true]
      have := hmem.2 h
      simp [this]
      omega
    · have hn : x ∉ l := fun hx => h (hmem.1 hx)
      simp only [h, if_false]
      simp only [List.length_append, List.length_cons, List.length_nil]
      rw [Nat.add_lt_add_iff_right, ih]
      refine not_congr ⟨fun h => ⟨h, by simp, ?_⟩, fun h => h.1⟩
      intro a ha b hb
      simp at hb
      subst hb
      exact fun e => hn (e ▸ ha)

theorem twice_nodup (x : List Ru.C) : Ru.twice x = true ↔ ¬ (x.map fun r => r.1).Nodup := by
  unfold List.Nodup
  rw [List.pairwise_iff_getElem]
  constructor
  · intro h hp
    rw [Ru.twice_no x] at h
    · cases h
    · intro i k hi hk e
      have := hp k i (by simp; omega) (by simpa using hi) hk
      simp only [List.getElem_map] at this
      exact this e.symm
  · intro h
    cases ht : Ru.twice x
    · refine absurd ?_ h
      intro i j hi hj hij e
      simp only [List.getElem_map] at e
      rw [Ru.twice_yes x j i (by simpa using hj) hij e.symm] at ht
      cases ht
    · rfl
/-- A path loops just if of its runs' numbers, sorted, some go. -/
theorem loops_sorted (l : List Int) : Is.loops l = decide ((Lib.compact ((Is.short l).mergeSort fun x y => decide (x ≤ y))).length < (Is.short l).length) := by
  have hs : ((Is.short l).mergeSort fun x y => decide (x ≤ y)).Pairwise (· ≤ ·) := by
    have := List.pairwise_mergeSort (le := fun (x y : Int) => decide (x ≤ y)) (by intro a b c; simp; omega) (by intro a b; simp; omega) (Is.short l)
    exact this.imp (by simp)
  have hp := List.mergeSort_perm (Is.short l) (fun x y => decide (x ≤ y))
  have h1 := compact_sorted _ hs
  rw [hp.length_eq, hp.nodup_iff] at h1
  rw [Bool.eq_iff_iff, decide_eq_true_iff, h1]
  exact twice_nodup (Ru.runs l)
theorem expand_runs (l : List Int) : Ru.expand (Ru.runs l) = l := by
  induction l using snoc_ind with
  | h0 => rfl
  | h1 l x ih =>
    by_cases hl : l = []
    · subst hl
      rfl
    · obtain ⟨k, z, rfl⟩ := list_snoc l hl
      obtain ⟨y, n, h, h1, _⟩ := Ru.runs_last k z
      rw [Ru.runs_snoc]
      rw [h] at ih ⊢
      by_cases hz : z = x
      · subst hz
        rw [Ru.push_same, Ru.expand_app, show (n + 1).toNat = n.toNat + 1 by omega, List.replicate_succ', ← List.append_assoc, ← Ru.expand_app, ih]
      · rw [Ru.push_new _ _ _ _ hz, Ru.expand_app, ih]
        rfl
theorem runs_end (a : List Int) : ∀ (q : List Int) (x n : Int) (E : List Ru.C), Ru.runs q = (x, n) :: E → ∃ (I : List Ru.C) (m : Int), Ru.runs (a ++ q) = I ++ (x, m) :: E ∧ n ≤ m := by
  intro q
  induction q using snoc_ind with
  | h0 => intro x n E h; cases h
  | h1 q y ih =>
    intro x n E h
    rw [← List.append_assoc, Ru.runs_snoc]
    rw [Ru.runs_snoc] at h
    by_cases hq : q = []
    · subst hq
      have hh : x = y ∧ n = 1 ∧ E = [] := by
        simp [Ru.runs, Ru.push] at h
        exact ⟨h.1.1.symm, h.1.2.symm, h.2⟩
      obtain ⟨rfl, rfl, rfl⟩ := hh
      rw [List.append_nil, ← Ru.runs_snoc]
      obtain ⟨Y, m, e, h1, _⟩ := Ru.runs_last a x
      exact ⟨Y, m, e, h1⟩
    · obtain ⟨k, z, rfl⟩ := list_snoc q hq
      obtain ⟨Y, i, e, _⟩ := Ru.runs_last k z
      cases hr : Ru.runs (k ++ [z]) with
      | nil => rw [hr] at e; simp at e
      | cons c F =>
        obtain ⟨x', n'⟩ := c
        obtain ⟨I, m', hI, hm⟩ := ih x' n' F hr
        rw [hr] at h
        rw [hI]
        by_cases hF : F = []
        · subst hF
          by_cases hy : x' = y
          · subst hy
            have h2 := Ru.push_same [] x' n'
            rw [List.nil_append, h] at h2
            simp at h2
            obtain ⟨⟨rfl, rfl⟩, rfl⟩ := h2
            exact ⟨I, m' + 1, Ru.push_same I x m', by omega⟩
          · have h2 := Ru.push_new [] x' n' y hy
            rw [List.nil_append, h] at h2
            simp at h2
            obtain ⟨⟨rfl, rfl⟩, rfl⟩ := h2
            exact ⟨I, m', by rw [Ru.push_new I x m' y hy]; simp, hm⟩
        · obtain ⟨G, c, rfl⟩ := list_snoc F hF
          obtain ⟨u, v⟩ := c
          by_cases hy : u = y
          · subst hy
            have h2 := Ru.push_same ((x', n') :: G) u v
            rw [List.cons_append, h, List.cons_append] at h2
            simp only [List.cons.injEq, Prod.mk.injEq] at h2
            obtain ⟨⟨rfl, rfl⟩, rfl⟩ := h2
            refine ⟨I, m', ?_, hm⟩
            have := Ru.push_same (I ++ (x, m') :: G) u v
            simpa using this
          · have h2 := Ru.push_new ((x', n') :: G) u v y hy
            rw [List.cons_append, h, List.cons_append] at h2
            simp only [List.cons.injEq, Prod.mk.injEq] at h2
            obtain ⟨⟨rfl, rfl⟩, rfl⟩ := h2
            refine ⟨I, m', ?_, hm⟩
            have := Ru.push_new (I ++ (x, m') :: G) u v y hy
            simpa using this
theorem tail_iff (p q : List Int) : Is.tail p q = true ↔ ∃ a, p = a ++ q := by
  unfold Is.tail
  rw [Bool.and_eq_true, decide_eq_true_iff, decide_eq_true_iff]
  constructor
  · rintro ⟨_, h⟩
    exact ⟨p.take (p.length - q.length), by conv => lhs; rw [← List.take_append_drop (p.length - q.length) p, h]⟩
  · rintro ⟨a, rfl⟩
    simp
theorem tail_long (p q : List Int) (h : (Ru.runs p).length < (Ru.runs q).length) : Is.tail p q = false := by
  cases ht : Is.tail p q
  · rfl
  · obtain ⟨a, rfl⟩ := (tail_iff p q).1 ht
    cases hr : Ru.runs q with
    | nil => rw [hr] at h; simp at h
    | cons c E =>
      obtain ⟨x, n⟩ := c
      obtain ⟨I, m, hI, _⟩ := runs_end a q x n E hr
      rw [hI, hr] at h
      simp at h
      omega
theorem tail_none (p q : List Int) (h : Ru.runs q = []) : Is.tail p q = true := by
  have := expand_runs q
  rw [h] at this
  exact (tail_iff p q).2 ⟨p, by rw [← this]; simp [Ru.expand]⟩
theorem Ru.expand_at (I : List Ru.C) (x m : Int) (E : List Ru.C) : Ru.expand (I ++ (x, m) :: E) = Ru.expand I ++ (List.replicate m.toNat x ++ Ru.expand E) := by simp [Ru.expand]
theorem tail_runs (p q : List Int) (I : List Ru.C) (r e : Ru.C) (R E : List Ru.C) (hp : Ru.runs p = I ++ r :: R) (hq : Ru.runs q = e :: E) (hl : R.length = E.length) : Is.tail p q = decide ((r.1, min r.2 e.2) :: R = e :: E) := by
  obtain ⟨x, n⟩ := e
  obtain ⟨u, m⟩ := r
  rw [Bool.eq_iff_iff, tail_iff, decide_eq_true_iff]
  constructor
  · rintro ⟨a, rfl⟩
    obtain ⟨J, k, hJ, hk⟩ := runs_end a q x n E hq
    rw [hp] at hJ
    have h2 := (List.append_inj' hJ (by simp [hl])).2
    simp only [List.cons.injEq, Prod.mk.injEq] at h2
    obtain ⟨⟨rfl, rfl⟩, rfl⟩ := h2
    simp [Int.min_eq_right hk]
  · intro h
    simp only [List.cons.injEq, Prod.mk.injEq] at h
    obtain ⟨⟨rfl, hmin⟩, rfl⟩ := h
    have hnm : n ≤ m := by omega
    have ep := expand_runs p
    have eq := expand_runs q
    rw [hp, Ru.expand_at] at ep
    rw [hq] at eq
    have e0 := Ru.expand_at [] u n R
    rw [List.nil_append, eq] at e0
    obtain ⟨k, hk⟩ : ∃ k, m.toNat = k + n.toNat := ⟨m.toNat - n.toNat, by omega⟩
    refine ⟨Ru.expand I ++ List.replicate k u, ?_⟩
    rw [← ep, e0, hk, ← List.replicate_append_replicate, show Ru.expand [] = [] from rfl, List.nil_append]
    simp only [List.append_assoc]
end Go.Proofs.YtnbedjgjkoeflaaDoor
