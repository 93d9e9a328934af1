import Derived.Test.YtechocnednepiaaF1
/- Prefixes: halves, the half toward another one, the order. -/
namespace Go.Proofs.Ytechocnednepiaa

/-- A prefix: its address, its bits. -/
abbrev Pf := Int × Int
/-- A prefix that may be. -/
def Gd (p : Pf) : Prop := 0 ≤ p.1 ∧ p.1 ≤ 4294967295 ∧ 0 ≤ p.2 ∧ p.2 ≤ 32 ∧ Ad.cut p.1 p.2 = p.1
/-- One that contains another one. -/
def In (c p : Pf) : Prop := c.2 ≤ p.2 ∧ Ad.cut p.1 c.2 = c.1
def half (c : Pf) (h : Bool) : Pf := (if h then c.1 + Ad.sz (c.2 + 1) else c.1, c.2 + 1)
def side (c p : Pf) : Bool := !decide (Ad.cut p.1 (c.2 + 1) = c.1)
def Lt (x y : Pf) : Prop := x.1 < y.1 ∨ (x.1 = y.1 ∧ x.2 < y.2)

theorem Gd.may {p : Pf} (h : Gd p) : Ad.may p.1 p.2 = true := (Ad.may_iff _ _).2 ⟨h.2.2.1, h.2.2.2.1, h.2.2.2.2⟩
theorem gd_of {p : Pf} (h0 : 0 ≤ p.1) (h1 : p.1 ≤ 4294967295) (h : Ad.may p.1 p.2 = true) : Gd p := by
  obtain ⟨a, b, c⟩ := (Ad.may_iff _ _).1 h
  exact ⟨h0, h1, a, b, c⟩
theorem gd_root : Gd (0, 0) := ⟨by decide, by decide, by decide, by decide, by decide⟩
theorem in_root {p : Pf} (h : Gd p) : In (0, 0) p := ⟨h.2.2.1, Ad.cut_zero _ h.1 (by have := h.2.1; omega)⟩
theorem In.refl {p : Pf} (h : Gd p) : In p p := ⟨Int.le_refl _, h.2.2.2.2⟩
theorem In.trans {a b c : Pf} (h : In a b) (k : In b c) : In a c := by
  refine ⟨Int.le_trans h.1 k.1, ?_⟩
  have := Ad.cut_cut c.1 a.2 b.2 h.1
  rw [k.2] at this
  rw [← this]
  exact h.2
instance (c p : Pf) : Decidable (In c p) := by unfold In; exact inferInstance
theorem contains_iff {c p : Pf} (hc : Gd c) (hp : Gd p) : Ad.contains c.1 c.2 p.1 p.2 = true ↔ In c p := by
  unfold Ad.contains Ad.has
  rw [hc.may, hp.may]
  simp [In]
theorem contains_dec {c p : Pf} (hc : Gd c) (hp : Gd p) : Ad.contains c.1 c.2 p.1 p.2 = decide (In c p) := by
  have := contains_iff hc hp
  cases h : Ad.contains c.1 c.2 p.1 p.2
  · symm; rw [decide_eq_false_iff_not]; intro k; rw [this.2 k] at h; simp at h
  · symm; rw [decide_eq_true_eq]; exact this.1 h
theorem In.lt {c p : Pf} (h : In c p) (_hc : Gd c) (hp : Gd p) (hne : c ≠ p) : c.2 < p.2 := by
  obtain ⟨h1, h2⟩ := h
  rcases Int.lt_or_eq_of_le h1 with h | h
  · exact h
  · exfalso
    apply hne
    rw [h, hp.2.2.2.2] at h2
    exact Prod.ext h2.symm h
theorem In.range {c p : Pf} (h : In c p) : c.1 ≤ p.1 ∧ p.1 < c.1 + Ad.sz c.2 := by
  have h1 := Ad.cut_le p.1 c.2
  have h2 := Ad.cut_lt p.1 c.2
  rw [h.2] at h1 h2
  exact ⟨h1, h2⟩
theorem gd_half {c : Pf} (h : Gd c) (hl : c.2 ≤ 31) (s : Bool) : Gd (half c s) := by
  obtain ⟨h0, h1, h2, _, h4⟩ := h
  have hs := Ad.sz_half c.2 h2 hl
  have hp := Ad.sz_pos (c.2 + 1)
  have he := Ad.end_le c.1 c.2 h2 h1 h4
  cases s
  · exact ⟨h0, h1, by show 0 ≤ c.2 + 1; omega, by show c.2 + 1 ≤ 32; omega, Ad.low_may c.1 c.2 h2 hl h4⟩
  · exact ⟨by show 0 ≤ c.1 + Ad.sz (c.2 + 1); omega, by show c.1 + Ad.sz (c.2 + 1) ≤ 4294967295; omega, by show 0 ≤ c.2 + 1; omega, by show c.2 + 1 ≤ 32; omega, Ad.high_may c.1 c.2 h2 hl h4⟩
theorem in_half {c : Pf} (h : Gd c) (hl : c.2 ≤ 31) (s : Bool) : In c (half c s) := by
  obtain ⟨h0, h1, h2, _, h4⟩ := h
  have hs := Ad.sz_half c.2 h2 hl
  have hp := Ad.sz_pos (c.2 + 1)
  cases s
  · exact ⟨by show c.2 ≤ c.2 + 1; omega, h4⟩
  · exact ⟨by show c.2 ≤ c.2 + 1; omega, Ad.cut_add c.1 c.2 _ h4 (by omega) (by omega)⟩
/-- The half toward a prefix contains it. -/
theorem in_side {c p : Pf} (hc : Gd c) (hp : Gd p) (h : In c p) (hne : c ≠ p) : In (half c (side c p)) p := by
  have hlt := h.lt hc hp hne
  have hl : c.2 ≤ 31 := by have := hp.2.2.2.1; omega
  have hh := Ad.halves_has c.1 c.2 p.1 hc.2.2.1 hl hc.2.2.2.2
  rw [h.2] at hh
  refine ⟨by show c.2 + 1 ≤ p.2; omega, ?_⟩
  by_cases e : Ad.cut p.1 (c.2 + 1) = c.1
  · have : side c p = false := by simp [side, e]
    rw [this]
    exact e
  · have : side c p = true := by simp [side, e]
    rw [this]
    have e' : decide (Ad.cut p.1 (c.2 + 1) = c.1) = false := by simpa using e
    rw [e'] at hh
    simpa [half] using hh
/-- A prefix lies in one of the halves alone. -/
theorem side_of {c p : Pf} {s : Bool} (h : In (half c s) p) : side c p = s := by
  have h2 := h.2
  have hp := Ad.sz_pos (c.2 + 1)
  cases s
  · simp only [half, Bool.false_eq_true, if_false] at h2
    simp [side, h2]
  · simp only [half, if_true] at h2
    have : Ad.cut p.1 (c.2 + 1) ≠ c.1 := by rw [h2]; omega
    simp [side, this]
theorem half_ne {c p : Pf} {s : Bool} (h : In (half c s) p) : c ≠ p := by
  intro e
  have := h.1
  rw [← e] at this
  simp only [half] at this
  omega
theorem not_half {c p : Pf} {s : Bool} (h : side c p = s) : ¬ In (half c !s) p := by
  intro k
  have := side_of k
  rw [h] at this
  cases s <;> simp at this
theorem lt_self {c p : Pf} (h : In c p) (hne : c ≠ p) : Lt c p := by
  obtain ⟨h1, h2⟩ := h.range
  by_cases e : c.1 = p.1
  · right
    refine ⟨e, ?_⟩
    rcases Int.lt_or_eq_of_le h.1 with k | k
    · exact k
    · exact absurd (Prod.ext e k) hne
  · left; omega
theorem lt_halves {c x y : Pf} (hx : In (half c false) x) (hy : In (half c true) y) : Lt x y := by
  have h1 := hx.range
  have h2 := hy.range
  simp only [half, Bool.false_eq_true, if_false, if_true] at h1 h2
  left; omega
theorem Lt.irrefl {x : Pf} : ¬ Lt x x := by unfold Lt; omega
theorem Lt.trans {x y z : Pf} (h : Lt x y) (k : Lt y z) : Lt x z := by unfold Lt at *; omega
theorem Lt.ne {x y : Pf} (h : Lt x y) : x ≠ y := fun e => by subst e; exact Lt.irrefl h
theorem before_iff {x y : Pf} : (if x.1 = y.1 then decide (x.2 < y.2) else decide (x.1 < y.1)) = true ↔ Lt x y := by
  unfold Lt
  by_cases e : x.1 = y.1
  · rw [if_pos e]; simp; omega
  · rw [if_neg e]; simp; omega
theorem in_32 {c p : Pf} (hc : Gd c) (hp : Gd p) (h : In c p) (h32 : 32 ≤ c.2) : c = p := by
  apply Classical.byContradiction
  intro hne
  have := h.lt hc hp hne
  have := hp.2.2.2.1
  omega
theorem In.antisymm {c p : Pf} (hc : Gd c) (hp : Gd p) (h : In c p) (k : In p c) : c = p := by
  apply Classical.byContradiction
  intro hne
  have := h.lt hc hp hne
  have := k.1
  omega
/-- Both contain a third one: the one with fewer bits contains the other one. -/
theorem In.chain {a b c : Pf} (h : In a c) (k : In b c) (hl : a.2 ≤ b.2) : In a b := by
  refine ⟨hl, ?_⟩
  have := Ad.cut_cut c.1 a.2 b.2 hl
  rw [k.2] at this
  rw [this]
  exact h.2
theorem has_in {c : Pf} {x : Int} (hc : Gd c) : Ad.has c.1 c.2 x = decide (In c (x, 32)) := by
  have h := hc.2.2.2.1
  unfold Ad.has
  rw [hc.may]
  simp [In, h]
theorem gd_whole {x : Int} (h0 : 0 ≤ x) (h1 : x ≤ 4294967295) : Gd (x, 32) := ⟨h0, h1, by show (0 : Int) ≤ 32; decide, by show (32 : Int) ≤ 32; decide, by show Ad.cut x 32 = x; unfold Ad.cut; rw [Ad.sz_32]; omega⟩
end Go.Proofs.Ytechocnednepiaa
