/- Rows by rank: the mathematics of heaps. -/
import Derived.WalkKit
namespace Go.Proofs.Ytkfomjinilmjaaa

/-- A key, its rank, its turn. -/
structure Rw (κ ρ : Type) where
  k : κ
  r : ρ
  t : Int
variable {κ ρ : Type}
/-- An order of ranks. -/
structure Ords (lt : ρ → ρ → Bool) : Prop where
  irr : ∀ a, lt a a = false
  tr : ∀ a b c, lt a b = true → lt b c = true → lt a c = true
  neg : ∀ a b c, lt a b = false → lt b c = false → lt a c = false
/-- Which of two rows comes ahead. -/
def ahd (lt : ρ → ρ → Bool) (a b : Rw κ ρ) : Bool := lt a.r b.r || (!lt b.r a.r && decide (a.t < b.t))
theorem ahd_false {lt : ρ → ρ → Bool} {a b : Rw κ ρ} : ahd lt a b = false ↔ lt a.r b.r = false ∧ (lt b.r a.r = true ∨ b.t ≤ a.t) := by
  unfold ahd
  cases h1 : lt a.r b.r <;> cases h2 : lt b.r a.r <;> simp
theorem ahd_true {lt : ρ → ρ → Bool} {a b : Rw κ ρ} : ahd lt a b = true ↔ lt a.r b.r = true ∨ (lt b.r a.r = false ∧ a.t < b.t) := by
  unfold ahd
  cases h1 : lt a.r b.r <;> cases h2 : lt b.r a.r <;> simp
theorem ahd_neg {lt : ρ → ρ → Bool} (O : Ords lt) {a b c : Rw κ ρ} (h : ahd lt a b = false) (k : ahd lt b c = false) : ahd lt a c = false := by
  rw [ahd_false] at h k ⊢
  refine ⟨O.neg _ _ _ h.1 k.1, ?_⟩
  cases hca : lt c.r a.r
  · right
    rcases h.2 with e | e
    · have := O.neg _ _ _ k.1 hca
      rw [this] at e; cases e
    · rcases k.2 with e2 | e2
      · have := O.neg _ _ _ hca h.1
        rw [this] at e2; cases e2
      · omega
  · exact .inl rfl
theorem ahd_asym {lt : ρ → ρ → Bool} (O : Ords lt) {a b : Rw κ ρ} (h : ahd lt a b = true) : ahd lt b a = false := by
  rw [ahd_true] at h
  rw [ahd_false]
  rcases h with h | ⟨h, h2⟩
  · refine ⟨?_, .inl h⟩
    cases e : lt b.r a.r
    · rfl
    · have := O.tr _ _ _ h e
      rw [O.irr] at this; cases this
  · exact ⟨h, .inr (by omega)⟩
theorem ahd_irr {lt : ρ → ρ → Bool} (O : Ords lt) (a : Rw κ ρ) : ahd lt a a = false := by
  rw [ahd_false]
  exact ⟨O.irr _, .inr (Int.le_refl _)⟩
theorem ahd_trans {lt : ρ → ρ → Bool} (O : Ords lt) {a b c : Rw κ ρ} (h : ahd lt a b = true) (k : ahd lt b c = true) : ahd lt a c = true := by
  cases e : ahd lt a c
  · have := ahd_neg O e (ahd_asym O k)
    rw [h] at this; cases this
  · rfl
theorem ahd_tot {lt : ρ → ρ → Bool} {a b : Rw κ ρ} (hne : a.t ≠ b.t) (h : ahd lt a b = false) : ahd lt b a = true := by
  rw [ahd_false] at h
  rw [ahd_true]
  rcases h with ⟨h1, h2 | h2⟩
  · exact .inl h2
  · exact .inr ⟨h1, by omega⟩

/-- A row isn't ahead of the one above it. -/
def Edge (lt : ρ → ρ → Bool) (R : List (Rw κ ρ)) (j : Nat) : Prop := ∀ a b, R[j]? = some a → R[(j - 1) / 2]? = some b → ahd lt a b = false
def HO (lt : ρ → ρ → Bool) (R : List (Rw κ ρ)) : Prop := ∀ j, 0 < j → Edge lt R j
def Grand (lt : ρ → ρ → Bool) (R : List (Rw κ ρ)) (i : Nat) : Prop := ∀ c a b, 0 < i → 0 < c → (c - 1) / 2 = i → R[c]? = some a → R[(i - 1) / 2]? = some b → ahd lt a b = false
def InvR (lt : ρ → ρ → Bool) (R : List (Rw κ ρ)) (i : Nat) : Prop := (∀ j, 0 < j → j ≠ i → (j - 1) / 2 ≠ i → Edge lt R j) ∧ Grand lt R i
def InvS (lt : ρ → ρ → Bool) (R : List (Rw κ ρ)) (i : Nat) : Prop := (∀ j, 0 < j → (j - 1) / 2 ≠ i → Edge lt R j) ∧ Grand lt R i
theorem get_lt {α : Type} {R : List α} {i : Nat} {a : α} (h : R[i]? = some a) : i < R.length := (List.getElem?_eq_some_iff.1 h).1
theorem get_swp {R : List (Rw κ ρ)} {i j : Nat} {a b x y : Rw κ ρ} (hi : R[i]? = some a) (hj : R[j]? = some b) (k : Nat) : ((R.set i x).set j y)[k]? = if k = j then some y else if k = i then some x else R[k]? := by
  have h1 := get_lt hi
  have h2 := get_lt hj
  rw [List.getElem?_set]
  by_cases e : j = k
  · subst e
    rw [if_pos rfl, if_pos (by rw [List.length_set]; exact h2), if_pos rfl]
  · rw [if_neg e, if_neg (fun h => e h.symm), List.getElem?_set]
    by_cases e2 : i = k
    · subst e2
      rw [if_pos rfl, if_pos h1, if_pos rfl]
    · rw [if_neg e2, if_neg (fun h => e2 h.symm)]
theorem rise_step {lt : ρ → ρ → Bool} (O : Ords lt) {R : List (Rw κ ρ)} {i : Nat} {x p : Rw κ ρ} (h : InvR lt R i) (h0 : 0 < i) (hx : R[i]? = some x) (hp : R[(i - 1) / 2]? = some p) (_ha : ahd lt x p = true) : InvR lt ((R.set i p).set ((i - 1) / 2) x) ((i - 1) / 2) := by
  have G := fun k => get_swp (x := p) (y := x) hx hp k
  refine ⟨fun j hj hji hpj a b ha hb => ?_, fun c a b hq hc hcq ha hb => ?_⟩
  · rw [G] at ha hb
    rw [if_neg hji] at ha
    rw [if_neg hpj] at hb
    have hne : j ≠ i := fun e => hpj (by rw [e])
    rw [if_neg hne] at ha
    by_cases e : (j - 1) / 2 = i
    · rw [if_pos e, Option.some.injEq] at hb
      subst hb
      exact h.2 j a p h0 hj e ha hp
    · rw [if_neg e] at hb
      exact h.1 j hj hne e a b ha hb
  · rw [G] at ha hb
    have e1 : ((i - 1) / 2 - 1) / 2 ≠ (i - 1) / 2 := by omega
    have e2 : ((i - 1) / 2 - 1) / 2 ≠ i := by omega
    rw [if_neg e1, if_neg e2] at hb
    have hpp : ahd lt p b = false := h.1 ((i - 1) / 2) hq (by omega) (by omega) p b hp hb
    have e3 : c ≠ (i - 1) / 2 := by omega
    rw [if_neg e3] at ha
    by_cases e4 : c = i
    · rw [if_pos e4, Option.some.injEq] at ha
      subst ha
      exact hpp
    · rw [if_neg e4] at ha
      exact ahd_neg O (h.1 c hc e4 (by omega) a p ha (by rw [hcq]; exact hp)) hpp
theorem rise_exit {lt : ρ → ρ → Bool} {R : List (Rw κ ρ)} {i : Nat} (h : InvR lt R i) (he : 0 < i → Edge lt R i) : InvS lt R i := by
  refine ⟨fun j hj hp => ?_, h.2⟩
  by_cases e : j = i
  · subst e; exact he hj
  · exact h.1 j hj e hp
theorem sink_step {lt : ρ → ρ → Bool} (O : Ords lt) {R : List (Rw κ ρ)} {i c : Nat} {x y : Rw κ ρ} (h : InvS lt R i) (h0 : 0 < c) (hc : (c - 1) / 2 = i) (hx : R[i]? = some x) (hy : R[c]? = some y) (ha : ahd lt y x = true)
    (hs : ∀ s b, 0 < s → (s - 1) / 2 = i → s ≠ c → R[s]? = some b → ahd lt b y = false) : InvS lt ((R.set i y).set c x) c := by
  have G := fun k => get_swp (x := y) (y := x) hx hy k
  refine ⟨fun j hj hpj a b hja hjb => ?_, fun d a b _ hd hdc hda hdb => ?_⟩
  · rw [G] at hja hjb
    rw [if_neg hpj] at hjb
    by_cases e : j = c
    · subst e
      rw [if_pos rfl, Option.some.injEq] at hja
      rw [if_pos hc, Option.some.injEq] at hjb
      subst hja hjb
      exact ahd_asym O ha
    · rw [if_neg e] at hja
      by_cases e2 : j = i
      · subst e2
        rw [if_pos rfl, Option.some.injEq] at hja
        rw [if_neg (by omega)] at hjb
        subst hja
        exact h.2 c _ b hj h0 hc hy hjb
      · rw [if_neg e2] at hja
        by_cases e3 : (j - 1) / 2 = i
        · rw [if_pos e3, Option.some.injEq] at hjb
          subst hjb
          exact hs j a hj e3 e hja
        · rw [if_neg e3] at hjb
          exact h.1 j hj e3 a b hja hjb
  · rw [G] at hda hdb
    rw [hc, if_neg (by omega), if_pos rfl, Option.some.injEq] at hdb
    subst hdb
    rw [if_neg (by omega), if_neg (by omega)] at hda
    exact h.1 d hd (by omega) a _ hda (by rw [hdc]; exact hy)
theorem sink_exit {lt : ρ → ρ → Bool} {R : List (Rw κ ρ)} {i : Nat} (h : InvS lt R i) (hs : ∀ c a b, 0 < c → (c - 1) / 2 = i → R[c]? = some a → R[i]? = some b → ahd lt a b = false) : HO lt R := by
  intro j hj a b ha hb
  by_cases e : (j - 1) / 2 = i
  · exact hs j a b hj e ha (by rw [← e]; exact hb)
  · exact h.1 j hj e a b ha hb
theorem root_min {lt : ρ → ρ → Bool} (O : Ords lt) {R : List (Rw κ ρ)} (h : HO lt R) {b : Rw κ ρ} (hb : R[0]? = some b) : ∀ (j : Nat) a, R[j]? = some a → ahd lt a b = false := by
  intro j
  induction j using Nat.strongRecOn with
  | _ j ih =>
    intro a ha
    rcases Nat.eq_zero_or_pos j with rfl | hj
    · rw [ha, Option.some.injEq] at hb
      subst hb
      exact ahd_irr O _
    · have hl := get_lt ha
      have hq : (j - 1) / 2 < R.length := by omega
      exact ahd_neg O (h j hj a R[(j - 1) / 2] ha (List.getElem?_eq_getElem hq)) (ih _ (by omega) _ (List.getElem?_eq_getElem hq))
/-- Another row at i. -/
theorem inv_set {lt : ρ → ρ → Bool} (O : Ords lt) {R : List (Rw κ ρ)} {i : Nat} {x : Rw κ ρ} (h : HO lt R) (hi : i < R.length) : InvR lt (R.set i x) i := by
  refine ⟨fun j hj hji hp a b ha hb => ?_, fun c a b h0 hc hci ha hb => ?_⟩
  · rw [List.getElem?_set_ne (Ne.symm hji)] at ha
    rw [List.getElem?_set_ne (Ne.symm hp)] at hb
    exact h j hj a b ha hb
  · rw [List.getElem?_set_ne (by omega)] at ha hb
    have hg := List.getElem?_eq_getElem hi
    exact ahd_neg O (h c hc a R[i] ha (by rw [hci]; exact hg)) (h i h0 R[i] b hg hb)
theorem inv_snoc {lt : ρ → ρ → Bool} {R : List (Rw κ ρ)} {x : Rw κ ρ} (h : HO lt R) : InvR lt (R ++ [x]) R.length := by
  have hl : ∀ j a, (R ++ [x])[j]? = some a → j ≠ R.length → R[j]? = some a := fun j a ha hj => by
    have := get_lt ha
    rw [List.length_append, List.length_singleton] at this
    rwa [List.getElem?_append_left (by omega)] at ha
  refine ⟨fun j hj hji hp a b ha hb => h j hj a b (hl _ _ ha hji) (hl _ _ hb hp), fun c a b _ _ hci ha _ => ?_⟩
  have := get_lt ha
  rw [List.length_append, List.length_singleton] at this
  omega
theorem inv_take {lt : ρ → ρ → Bool} (O : Ords lt) {R : List (Rw κ ρ)} {i : Nat} {x : Rw κ ρ} (h : HO lt R) (hi : i < R.length) : InvR lt (R.set i x).dropLast i := by
  have I := inv_set (x := x) O h hi
  have hl : ∀ j a, (R.set i x).dropLast[j]? = some a → (R.set i x)[j]? = some a := fun j a ha => by
    rw [List.getElem?_dropLast] at ha
    split at ha
    · exact ha
    · cases ha
  exact ⟨fun j hj hji hp a b ha hb => I.1 j hj hji hp a b (hl _ _ ha) (hl _ _ hb), fun c a b h0 hc hci ha hb => I.2 c a b h0 hc hci (hl _ _ ha) (hl _ _ hb)⟩
theorem ho_take {lt : ρ → ρ → Bool} {R : List (Rw κ ρ)} (h : HO lt R) : HO lt R.dropLast := by
  have hl : ∀ j a, R.dropLast[j]? = some a → R[j]? = some a := fun j a ha => by
    rw [List.getElem?_dropLast] at ha
    split at ha
    · exact ha
    · cases ha
  exact fun j hj a b ha hb => h j hj a b (hl _ _ ha) (hl _ _ hb)

/-- Where keys stand. -/
def Idx (R : List (Rw κ ρ)) (φ : κ → Option Nat) : Prop := (∀ i a, R[i]? = some a → φ a.k = some i) ∧ (∀ k i, φ k = some i → ∃ a, R[i]? = some a ∧ a.k = k)
def upd [DecidableEq κ] (φ : κ → Option Nat) (k : κ) (i : Option Nat) : κ → Option Nat := fun x => if x = k then i else φ x
theorem Idx.inj {R : List (Rw κ ρ)} {φ : κ → Option Nat} (h : Idx R φ) {i j : Nat} {a b : Rw κ ρ} (ha : R[i]? = some a) (hb : R[j]? = some b) (e : a.k = b.k) : i = j := by
  have h1 := h.1 i a ha
  have h2 := h.1 j b hb
  rw [e, h2, Option.some.injEq] at h1
  exact h1.symm
theorem Idx.inj' {R : List (Rw κ ρ)} {φ : κ → Option Nat} (h : Idx R φ) {a b : Rw κ ρ} (ha : a ∈ R) (hb : b ∈ R) (e : a.k = b.k) : a = b := by
  obtain ⟨i, hi⟩ := List.mem_iff_getElem?.1 ha
  obtain ⟨j, hj⟩ := List.mem_iff_getElem?.1 hb
  have := h.inj hi hj e
  subst this
  rw [hi, Option.some.injEq] at hj
  exact hj
theorem Idx.swap [DecidableEq κ] {R : List (Rw κ ρ)} {φ : κ → Option Nat} (h : Idx R φ) {i j : Nat} {a b : Rw κ ρ} (ha : R[i]? = some a) (hb : R[j]? = some b) (hne : i ≠ j) : Idx ((R.set i b).set j a) (upd (upd φ b.k (some i)) a.k (some j)) := by
  have G := fun k => get_swp (x := b) (y := a) ha hb k
  have hk : b.k ≠ a.k := fun e => hne (h.inj ha hb e.symm)
  refine ⟨fun q x hx => ?_, fun k q hq => ?_⟩
  · rw [G] at hx
    unfold upd
    by_cases e : q = j
    · rw [if_pos e, Option.some.injEq] at hx
      subst hx
      rw [if_pos rfl, e]
    · rw [if_neg e] at hx
      by_cases e2 : q = i
      · rw [if_pos e2, Option.some.injEq] at hx
        subst hx
        rw [if_neg hk, if_pos rfl, e2]
      · rw [if_neg e2] at hx
        rw [if_neg (fun e3 => e2 (h.inj hx ha e3)), if_neg (fun e3 => e (h.inj hx hb e3))]
        exact h.1 q x hx
  · unfold upd at hq
    by_cases e : k = a.k
    · rw [if_pos e, Option.some.injEq] at hq
      exact ⟨a, by rw [G, if_pos hq.symm], e.symm⟩
    · rw [if_neg e] at hq
      by_cases e2 : k = b.k
      · rw [if_pos e2, Option.some.injEq] at hq
        exact ⟨b, by rw [G, if_neg (by omega), if_pos hq.symm], e2.symm⟩
      · rw [if_neg e2] at hq
        obtain ⟨x, hx, hxk⟩ := h.2 k q hq
        refine ⟨x, ?_, hxk⟩
        rw [G, if_neg ?_, if_neg ?_, hx]
        · intro e3
          subst e3
          rw [ha, Option.some.injEq] at hx
          exact e (by rw [hx, hxk])
        · intro e3
          subst e3
          rw [hb, Option.some.injEq] at hx
          exact e2 (by rw [hx, hxk])
theorem mem_swap {R : List (Rw κ ρ)} {i j : Nat} {a b : Rw κ ρ} (ha : R[i]? = some a) (hb : R[j]? = some b) (hne : i ≠ j) (x : Rw κ ρ) : x ∈ (R.set i b).set j a ↔ x ∈ R := by
  have G := fun k => get_swp (x := b) (y := a) ha hb k
  rw [List.mem_iff_getElem?, List.mem_iff_getElem?]
  constructor
  · rintro ⟨q, hq⟩
    rw [G] at hq
    split at hq
    · exact ⟨i, by rw [ha, hq]⟩
    · split at hq
      · exact ⟨j, by rw [hb, hq]⟩
      · exact ⟨q, hq⟩
  · rintro ⟨q, hq⟩
    by_cases e : q = i
    · subst e
      exact ⟨j, by rw [G, if_pos rfl, ← ha, hq]⟩
    · by_cases e2 : q = j
      · subst e2
        exact ⟨i, by rw [G, if_neg hne, if_pos rfl, ← hb, hq]⟩
      · exact ⟨q, by rw [G, if_neg e2, if_neg e, hq]⟩
end Go.Proofs.Ytkfomjinilmjaaa
