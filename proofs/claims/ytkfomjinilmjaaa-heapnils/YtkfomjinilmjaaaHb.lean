/- Rows by rank: rows that are set and taken; the rows in the order in which they were set. -/
import Derived.Test.YtkfomjinilmjaaaHa
namespace Go.Proofs.Ytkfomjinilmjaaa
variable {κ ρ : Type}

theorem get_dropLast {α : Type} {R : List α} {j : Nat} {a : α} (h : R.dropLast[j]? = some a) : R[j]? = some a ∧ j < R.length - 1 := by
  rw [List.getElem?_dropLast] at h
  split at h
  · exact ⟨h, by assumption⟩
  · cases h
theorem Idx.set [DecidableEq κ] {R : List (Rw κ ρ)} {φ : κ → Option Nat} (h : Idx R φ) {i : Nat} {a x : Rw κ ρ} (ha : R[i]? = some a) (hk : x.k = a.k) : Idx (R.set i x) (upd φ x.k (some i)) := by
  have hl := get_lt ha
  refine ⟨fun q y hy => ?_, fun k q hq => ?_⟩
  · unfold upd
    rw [List.getElem?_set] at hy
    by_cases e : i = q
    · rw [if_pos e, if_pos hl, Option.some.injEq] at hy
      subst hy
      rw [if_pos rfl, e]
    · rw [if_neg e] at hy
      rw [if_neg (fun e2 => e (h.inj ha hy (by rw [← hk, e2])))]
      exact h.1 q y hy
  · unfold upd at hq
    by_cases e : k = x.k
    · rw [if_pos e, Option.some.injEq] at hq
      subst hq
      exact ⟨x, by rw [List.getElem?_set, if_pos rfl, if_pos hl], e.symm⟩
    · rw [if_neg e] at hq
      obtain ⟨y, hy, hyk⟩ := h.2 k q hq
      refine ⟨y, ?_, hyk⟩
      rw [List.getElem?_set, if_neg, hy]
      intro e2
      subst e2
      rw [ha, Option.some.injEq] at hy
      exact e (by rw [hk, hy, hyk])
theorem Idx.snoc [DecidableEq κ] {R : List (Rw κ ρ)} {φ : κ → Option Nat} (h : Idx R φ) {x : Rw κ ρ} (hn : φ x.k = none) : Idx (R ++ [x]) (upd φ x.k (some R.length)) := by
  refine ⟨fun q y hy => ?_, fun k q hq => ?_⟩
  · unfold upd
    have hl := get_lt hy
    rw [List.length_append, List.length_singleton] at hl
    by_cases e : q = R.length
    · subst e
      rw [List.getElem?_append_right (Nat.le_refl _), Nat.sub_self, List.getElem?_cons_zero, Option.some.injEq] at hy
      subst hy
      rw [if_pos rfl]
    · rw [List.getElem?_append_left (by omega)] at hy
      have h1 := h.1 q y hy
      rw [if_neg (fun e2 => by rw [e2, hn] at h1; cases h1), h1]
  · unfold upd at hq
    by_cases e : k = x.k
    · rw [if_pos e, Option.some.injEq] at hq
      subst hq
      exact ⟨x, by rw [List.getElem?_append_right (Nat.le_refl _), Nat.sub_self, List.getElem?_cons_zero], e.symm⟩
    · rw [if_neg e] at hq
      obtain ⟨y, hy, hyk⟩ := h.2 k q hq
      exact ⟨y, by rw [List.getElem?_append_left (get_lt hy), hy], hyk⟩
theorem Idx.take [DecidableEq κ] {R : List (Rw κ ρ)} {φ : κ → Option Nat} (h : Idx R φ) {i : Nat} {a z : Rw κ ρ} (ha : R[i]? = some a) (hz : R[R.length - 1]? = some z) : Idx (R.set i z).dropLast (upd (upd φ z.k (some i)) a.k none) := by
  have hl := get_lt ha
  refine ⟨fun q y hy => ?_, fun k q hq => ?_⟩
  · obtain ⟨hy, hq⟩ := get_dropLast hy
    rw [List.length_set] at hq
    unfold upd
    rw [List.getElem?_set] at hy
    by_cases e : i = q
    · rw [if_pos e, if_pos hl, Option.some.injEq] at hy
      subst hy
      rw [if_neg (fun e2 => by have := h.inj hz ha e2; omega), if_pos rfl, e]
    · rw [if_neg e] at hy
      rw [if_neg (fun e2 => e (h.inj ha hy e2.symm)), if_neg (fun e2 => by have := h.inj hz hy e2.symm; omega)]
      exact h.1 q y hy
  · unfold upd at hq
    by_cases e : k = a.k
    · rw [if_pos e] at hq; cases hq
    · rw [if_neg e] at hq
      by_cases e2 : k = z.k
      · rw [if_pos e2, Option.some.injEq] at hq
        subst hq
        have hil : i ≠ R.length - 1 := fun e3 => by
          rw [e3, hz, Option.some.injEq] at ha
          exact e (by rw [e2, ha])
        refine ⟨z, ?_, e2.symm⟩
        rw [List.getElem?_dropLast, List.length_set, if_pos (by omega), List.getElem?_set, if_pos rfl, if_pos hl]
      · rw [if_neg e2] at hq
        obtain ⟨y, hy, hyk⟩ := h.2 k q hq
        have h1 : i ≠ q := fun e3 => by rw [← e3, ha, Option.some.injEq] at hy; exact e (by rw [hy, hyk])
        have h2 : q ≠ R.length - 1 := fun e3 => by rw [e3, hz, Option.some.injEq] at hy; exact e2 (by rw [hy, hyk])
        have h3 := get_lt hy
        refine ⟨y, ?_, hyk⟩
        rw [List.getElem?_dropLast, List.length_set, if_pos (by omega), List.getElem?_set, if_neg h1, hy]
theorem mem_set {R : List (Rw κ ρ)} {φ : κ → Option Nat} (h : Idx R φ) {i : Nat} {a x : Rw κ ρ} (ha : R[i]? = some a) (y : Rw κ ρ) : y ∈ R.set i x ↔ y = x ∨ (y ∈ R ∧ y.k ≠ a.k) := by
  have hl := get_lt ha
  rw [List.mem_iff_getElem?]
  constructor
  · rintro ⟨q, hq⟩
    rw [List.getElem?_set] at hq
    by_cases e : i = q
    · rw [if_pos e, if_pos hl, Option.some.injEq] at hq
      exact .inl hq.symm
    · rw [if_neg e] at hq
      exact .inr ⟨List.mem_iff_getElem?.2 ⟨q, hq⟩, fun e2 => e (h.inj ha hq e2.symm)⟩
  · rintro (rfl | ⟨hy, hk⟩)
    · exact ⟨i, by rw [List.getElem?_set, if_pos rfl, if_pos hl]⟩
    · obtain ⟨q, hq⟩ := List.mem_iff_getElem?.1 hy
      refine ⟨q, ?_⟩
      rw [List.getElem?_set, if_neg, hq]
      intro e
      subst e
      rw [ha, Option.some.injEq] at hq
      exact hk (by rw [hq])
theorem mem_take {R : List (Rw κ ρ)} {φ : κ → Option Nat} (h : Idx R φ) {i : Nat} {a z : Rw κ ρ} (ha : R[i]? = some a) (hz : R[R.length - 1]? = some z) (y : Rw κ ρ) : y ∈ (R.set i z).dropLast ↔ y ∈ R ∧ y.k ≠ a.k := by
  have hl := get_lt ha
  rw [List.mem_iff_getElem?]
  constructor
  · rintro ⟨q, hq⟩
    obtain ⟨hq, hlt⟩ := get_dropLast hq
    rw [List.length_set] at hlt
    rw [List.getElem?_set] at hq
    by_cases e : i = q
    · rw [if_pos e, if_pos hl, Option.some.injEq] at hq
      subst hq
      exact ⟨List.mem_iff_getElem?.2 ⟨_, hz⟩, fun e2 => by have := h.inj hz ha e2; omega⟩
    · rw [if_neg e] at hq
      exact ⟨List.mem_iff_getElem?.2 ⟨q, hq⟩, fun e2 => e (h.inj ha hq e2.symm)⟩
  · rintro ⟨hy, hk⟩
    obtain ⟨q, hq⟩ := List.mem_iff_getElem?.1 hy
    have hq2 := get_lt hq
    by_cases e : q = R.length - 1
    · have hyz : y = z := by rw [e, hz, Option.some.injEq] at hq; exact hq.symm
      have hil : i ≠ R.length - 1 := fun e3 => by
        rw [e3, hz, Option.some.injEq] at ha
        exact hk (by rw [hyz, ha])
      exact ⟨i, by rw [List.getElem?_dropLast, List.length_set, if_pos (by omega), List.getElem?_set, if_pos rfl, if_pos hl, hyz]⟩
    · have hiq : i ≠ q := fun e3 => by
        subst e3
        rw [ha, Option.some.injEq] at hq
        exact hk (by rw [hq])
      exact ⟨q, by rw [List.getElem?_dropLast, List.length_set, if_pos (by omega), List.getElem?_set, if_neg hiq, hq]⟩

/-- The rows in the order in which they were set: a heap's rows, by their turns. -/
structure Gs (lt : ρ → ρ → Bool) (R L : List (Rw κ ρ)) (T : Int) : Prop where
  ho : HO lt R
  len : R.length = L.length
  mem : ∀ x, x ∈ R ↔ x ∈ L
  turn : L.Pairwise fun a b => a.t < b.t
  top : ∀ x ∈ L, x.t ≤ T
theorem gs_nil (lt : ρ → ρ → Bool) : Gs lt ([] : List (Rw κ ρ)) [] 0 := ⟨fun j _ a b h => by simp at h, rfl, fun _ => Iff.rfl, List.Pairwise.nil, fun _ h => by cases h⟩
theorem pw_get {L : List (Rw κ ρ)} (h : L.Pairwise fun a b => a.t < b.t) {i j : Nat} {a b : Rw κ ρ} (ha : L[i]? = some a) (hb : L[j]? = some b) (hlt : i < j) : a.t < b.t := by
  obtain ⟨h1, rfl⟩ := List.getElem?_eq_some_iff.1 ha
  obtain ⟨h2, rfl⟩ := List.getElem?_eq_some_iff.1 hb
  exact List.pairwise_iff_getElem.1 h i j h1 h2 hlt
theorem pw_eq {L : List (Rw κ ρ)} (h : L.Pairwise fun a b => a.t < b.t) {a b : Rw κ ρ} (ha : a ∈ L) (hb : b ∈ L) (e : a.t = b.t) : a = b := by
  obtain ⟨i, hi⟩ := List.mem_iff_getElem?.1 ha
  obtain ⟨j, hj⟩ := List.mem_iff_getElem?.1 hb
  rcases Nat.lt_trichotomy i j with k | k | k
  · have := pw_get h hi hj k; omega
  · subst k
    rw [hi, Option.some.injEq] at hj
    exact hj
  · have := pw_get h hj hi k; omega
/-- Keys are there once. -/
def Once (L : List (Rw κ ρ)) : Prop := ∀ (i j : Nat) (a b : Rw κ ρ), L[i]? = some a → L[j]? = some b → a.k = b.k → i = j
theorem Gs.once {lt : ρ → ρ → Bool} {R L : List (Rw κ ρ)} {T : Int} {φ : κ → Option Nat} (h : Gs lt R L T) (hI : Idx R φ) : Once L := by
  intro i j a b ha hb e
  have h1 : a ∈ L := List.mem_iff_getElem?.2 ⟨i, ha⟩
  have h2 : b ∈ L := List.mem_iff_getElem?.2 ⟨j, hb⟩
  have := hI.inj' ((h.mem a).2 h1) ((h.mem b).2 h2) e
  subst this
  rcases Nat.lt_trichotomy i j with k | k | k
  · have := pw_get h.turn ha hb k; omega
  · exact k
  · have := pw_get h.turn hb ha k; omega
/-- The first row. -/
def Fst (lt : ρ → ρ → Bool) (L : List (Rw κ ρ)) (x : Rw κ ρ) : Prop := x ∈ L ∧ ∀ y ∈ L, ahd lt y x = false
theorem Fst.one {lt : ρ → ρ → Bool} {L : List (Rw κ ρ)} (ht : L.Pairwise fun a b => a.t < b.t) {x y : Rw κ ρ} (h : Fst lt L x) (k : Fst lt L y) : x = y := by
  apply pw_eq ht h.1 k.1
  apply Classical.byContradiction
  intro hne
  have := ahd_tot hne (k.2 x h.1)
  rw [h.2 y k.1] at this
  cases this
theorem Gs.first {lt : ρ → ρ → Bool} (O : Ords lt) {R L : List (Rw κ ρ)} {T : Int} (h : Gs lt R L T) {x : Rw κ ρ} (hx : R[0]? = some x) : Fst lt L x := by
  refine ⟨(h.mem x).1 (List.mem_iff_getElem?.2 ⟨0, hx⟩), fun y hy => ?_⟩
  obtain ⟨j, hj⟩ := List.mem_iff_getElem?.1 ((h.mem y).2 hy)
  exact root_min O h.ho hx j y hj
def without [DecidableEq κ] (L : List (Rw κ ρ)) (k : κ) : List (Rw κ ρ) := L.filter fun x => decide (x.k ≠ k)
theorem mem_without [DecidableEq κ] {L : List (Rw κ ρ)} {k : κ} {x : Rw κ ρ} : x ∈ without L k ↔ x ∈ L ∧ x.k ≠ k := by simp [without]
theorem without_no [DecidableEq κ] {L : List (Rw κ ρ)} {k : κ} (h : ∀ x ∈ L, x.k ≠ k) : without L k = L := by
  unfold without
  rw [List.filter_eq_self]
  intro x hx
  simpa using h x hx
/-- Without a key that is there. -/
theorem without_at [DecidableEq κ] : ∀ {L : List (Rw κ ρ)} {i : Nat} {a : Rw κ ρ}, Once L → L[i]? = some a → without L a.k = L.take i ++ L.drop (i + 1)
  | [], i, a, _, h => by simp at h
  | x :: L, 0, a, ho, h => by
    simp only [List.getElem?_cons_zero, Option.some.injEq] at h
    subst h
    have : ∀ y ∈ L, y.k ≠ x.k := fun y hy e => by
      obtain ⟨j, hj⟩ := List.mem_iff_getElem?.1 hy
      have := ho 0 (j + 1) x y rfl (by simpa using hj) e.symm
      omega
    simp only [without, List.filter_cons, ne_eq, not_true_eq_false, decide_false, Bool.false_eq_true, if_false, List.take_zero, List.nil_append, List.drop_succ_cons, List.drop_zero]
    exact without_no this
  | x :: L, i + 1, a, ho, h => by
    simp only [List.getElem?_cons_succ] at h
    have hne : x.k ≠ a.k := fun e => by
      have := ho 0 (i + 1) x a rfl (by simpa using h) e
      omega
    have ih := without_at (L := L) (i := i) (a := a) (fun p q u v hu hv e => by have := ho (p + 1) (q + 1) u v (by simpa using hu) (by simpa using hv) e; omega) h
    unfold without at ih ⊢
    rw [List.filter_cons, if_pos (by simpa using hne), ih]
    rfl
theorem without_len [DecidableEq κ] {L : List (Rw κ ρ)} {i : Nat} {a : Rw κ ρ} (ho : Once L) (h : L[i]? = some a) : (without L a.k).length = L.length - 1 := by
  have := get_lt h
  rw [without_at ho h, List.length_append, List.length_take, List.length_drop]
  omega
theorem Once.without [DecidableEq κ] {L : List (Rw κ ρ)} (h : Once L) (ht : L.Pairwise fun a b => a.t < b.t) (k : κ) : Once (without L k) := by
  intro i j a b ha hb e
  have h1 := (mem_without.1 (List.mem_iff_getElem?.2 ⟨i, ha⟩)).1
  have h2 := (mem_without.1 (List.mem_iff_getElem?.2 ⟨j, hb⟩)).1
  obtain ⟨p, hp⟩ := List.mem_iff_getElem?.1 h1
  obtain ⟨q, hq⟩ := List.mem_iff_getElem?.1 h2
  have := h p q a b hp hq e
  subst this
  rw [hp, Option.some.injEq] at hq
  subst hq
  have ht2 := List.Pairwise.filter (fun x : Rw κ ρ => decide (x.k ≠ k)) ht
  rcases Nat.lt_trichotomy i j with k | k | k
  · have := pw_get ht2 ha hb k; omega
  · exact k
  · have := pw_get ht2 hb ha k; omega
/-- Behind a row that is taken. -/
theorem Gs.take [DecidableEq κ] {lt : ρ → ρ → Bool} {R R' L : List (Rw κ ρ)} {T : Int} {φ : κ → Option Nat} (h : Gs lt R L T) (hI : Idx R φ) {i : Nat} {a : Rw κ ρ} (ha : R[i]? = some a) (hh : HO lt R') (hl : R'.length = R.length - 1) (hm : ∀ y, y ∈ R' ↔ y ∈ R ∧ y.k ≠ a.k) : Gs lt R' (without L a.k) T := by
  have hal : a ∈ L := (h.mem a).1 (List.mem_iff_getElem?.2 ⟨i, ha⟩)
  obtain ⟨j, hj⟩ := List.mem_iff_getElem?.1 hal
  refine ⟨hh, by rw [hl, without_len (h.once hI) hj, h.len], fun x => ?_, List.Pairwise.filter _ h.turn, fun x hx => h.top x (mem_without.1 hx).1⟩
  rw [hm, mem_without, h.mem]
/-- Behind a key that is set. -/
theorem Gs.set [DecidableEq κ] {lt : ρ → ρ → Bool} {R R' L : List (Rw κ ρ)} {T T' : Int} {x : Rw κ ρ} (h : Gs lt R L T) (hT : T < T') (hx : x.t = T') (hh : HO lt R') (hl : R'.length = (without L x.k).length + 1) (hm : ∀ y, y ∈ R' ↔ y = x ∨ (y ∈ R ∧ y.k ≠ x.k)) : Gs lt R' (without L x.k ++ [x]) T' := by
  refine ⟨hh, by rw [hl, List.length_append]; rfl, fun y => ?_, ?_, fun y hy => ?_⟩
  · rw [hm, List.mem_append, mem_without, h.mem, List.mem_singleton]
    exact Or.comm
  · refine List.pairwise_append.2 ⟨List.Pairwise.filter _ h.turn, List.pairwise_singleton _ _, fun a ha b hb => ?_⟩
    have := h.top a (mem_without.1 ha).1
    rw [List.mem_singleton] at hb
    subst hb
    omega
  · rcases List.mem_append.1 hy with hy | hy
    · have := h.top y (mem_without.1 hy).1
      omega
    · rw [List.mem_singleton] at hy
      subst hy
      omega
/-- All keys in the order in which they come. -/
inductive Alls [DecidableEq κ] (lt : ρ → ρ → Bool) : List (Rw κ ρ) → List κ → Prop
  | nil : Alls lt [] []
  | cons {L : List (Rw κ ρ)} {x : Rw κ ρ} {ks : List κ} : Fst lt L x → Alls lt (without L x.k) ks → Alls lt L (x.k :: ks)
theorem Alls.one [DecidableEq κ] {lt : ρ → ρ → Bool} {L : List (Rw κ ρ)} {ks : List κ} (h : Alls lt L ks) : ∀ {ks'}, L.Pairwise (fun a b => a.t < b.t) → Alls lt L ks' → ks = ks' := by
  induction h with
  | nil => intro ks' _ h'; cases h' with | nil => rfl | cons f _ => exact absurd f.1 (by simp)
  | cons f _ ih =>
    intro ks' ht h'
    cases h' with
    | nil => exact absurd f.1 (by simp)
    | cons f' h2 =>
      have := f.one ht f'
      subst this
      rw [ih (List.Pairwise.filter _ ht) h2]
end Go.Proofs.Ytkfomjinilmjaaa
