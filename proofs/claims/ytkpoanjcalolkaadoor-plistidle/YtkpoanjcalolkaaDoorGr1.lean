import Derived.Test.YtkpoanjcalolkaaDoorPl4
import Derived.Test.YtkpoanjcalolkaaDoorM1
/- The grid of a list's edges: with as many bits, a prefix meets the rules that the column below it meets. -/
namespace Go.Proofs.YtkpoanjcalolkaaDoor

/-- A rule's end: behind its last address. -/
def Ad.rend (r : Ad.R) : Int := r.1 + Ad.sz r.2.1

theorem Ad.cut_mul (q b : Int) : Ad.cut (q * Ad.sz b) b = q * Ad.sz b := Ad.cut_eq _ b q (Int.le_refl _) (by have := Ad.sz_pos b; omega)

theorem Ad.cut_up (a b k : Int) (h : b ≤ k) (hc : Ad.cut a b = a) : Ad.cut a k = a := by
  obtain ⟨q, rfl⟩ := Ad.mul_cut a b hc
  obtain ⟨m, _, hm⟩ := Ad.sz_dvd b k h
  rw [hm, ← Int.mul_assoc]
  exact Ad.cut_mul _ k

theorem Ad.cut_end (a b k : Int) (h : b ≤ k) (hc : Ad.cut a b = a) : Ad.cut (a + Ad.sz b) k = a + Ad.sz b := by
  obtain ⟨q, rfl⟩ := Ad.mul_cut a b hc
  refine Ad.cut_up _ b k h ?_
  rw [show q * Ad.sz b + Ad.sz b = (q + 1) * Ad.sz b by rw [Int.add_mul, Int.one_mul]]
  exact Ad.cut_mul _ b

theorem Ad.has_in (a b x : Int) (hm : Ad.may a b = true) : Ad.has a b x = true ↔ a ≤ x ∧ x < a + Ad.sz b := by
  obtain ⟨_, _, hc⟩ := (Ad.may_iff _ _).1 hm
  unfold Ad.has
  rw [hm]
  simp only [Bool.true_and, decide_eq_true_eq]
  constructor
  · intro h
    have h1 := Ad.cut_le x b
    have h2 := Ad.cut_lt x b
    omega
  · rintro ⟨h1, h2⟩
    obtain ⟨q, hq⟩ := Ad.mul_cut a b hc
    rw [hq] at h1 h2 ⊢
    exact Ad.cut_eq x b q h1 h2

/-- A column of the grid. -/
def Ad.isCol (rs : List Ad.R) (c : Int) : Prop := c = 0 ∨ ∃ r ∈ rs, c = r.1 ∨ c = Ad.rend r

theorem Ad.col_below (x k : Int) (hx : 0 ≤ x) (hk0 : 0 ≤ k) (hk1 : k ≤ 32) : ∀ rs : List Ad.R, (∀ r ∈ rs, Ad.rmay r = true) →
    ∃ c, Ad.isCol rs c ∧ 0 ≤ c ∧ c ≤ x ∧ Ad.cut c k = c ∧ ∀ r ∈ rs, r.2.1 ≤ k → (r.1 ≤ x → r.1 ≤ c) ∧ (Ad.rend r ≤ x → Ad.rend r ≤ c)
  | [], _ => ⟨0, .inl rfl, Int.le_refl _, hx, by have := Ad.cut_mul 0 k; simpa using this, fun r hr => by cases hr⟩
  | r :: rs, hall => by
    obtain ⟨c0, hc0, hc1, hc2, hc3, hc4⟩ := Ad.col_below x k hx hk0 hk1 rs (fun s hs => hall s (List.mem_cons_of_mem _ hs))
    have lift : ∀ c, Ad.isCol rs c → Ad.isCol (r :: rs) c := fun c h => by
      rcases h with h | ⟨s, hs, h⟩
      · exact .inl h
      · exact .inr ⟨s, List.mem_cons_of_mem _ hs, h⟩
    obtain ⟨m1, _, _, _⟩ := (Ad.rmay_iff r).1 (hall r List.mem_cons_self)
    obtain ⟨_, _, hcr⟩ := (Ad.may_iff _ _).1 m1
    have hsz := Ad.sz_pos r.2.1
    have key : ∀ c, Ad.isCol (r :: rs) c → c0 ≤ c → c ≤ x → Ad.cut c k = c → (r.2.1 ≤ k → (r.1 ≤ x → r.1 ≤ c) ∧ (Ad.rend r ≤ x → Ad.rend r ≤ c)) →
        ∃ c, Ad.isCol (r :: rs) c ∧ 0 ≤ c ∧ c ≤ x ∧ Ad.cut c k = c ∧ ∀ s ∈ r :: rs, s.2.1 ≤ k → (s.1 ≤ x → s.1 ≤ c) ∧ (Ad.rend s ≤ x → Ad.rend s ≤ c) := by
      intro c h1 h2 h3 h4 h5
      refine ⟨c, h1, by omega, h3, h4, fun s hs hsk => ?_⟩
      rcases List.mem_cons.1 hs with rfl | hs
      · exact h5 hsk
      · have := hc4 s hs hsk
        exact ⟨fun h => Int.le_trans (this.1 h) h2, fun h => Int.le_trans (this.2 h) h2⟩
    by_cases hbk : r.2.1 ≤ k
    · by_cases he2 : Ad.rend r ≤ x ∧ c0 < Ad.rend r
      · exact key (Ad.rend r) (.inr ⟨r, List.mem_cons_self, .inr rfl⟩) (by omega) he2.1 (Ad.cut_end _ _ _ hbk hcr) fun _ => ⟨fun _ => by unfold Ad.rend; omega, fun _ => Int.le_refl _⟩
      · by_cases he1 : r.1 ≤ x ∧ c0 < r.1
        · refine key r.1 (.inr ⟨r, List.mem_cons_self, .inl rfl⟩) (by omega) he1.1 (Ad.cut_up _ _ _ hbk hcr) fun _ => ⟨fun _ => Int.le_refl _, fun h => ?_⟩
          have : c0 < Ad.rend r := by unfold Ad.rend; omega
          exact absurd ⟨h, this⟩ he2
        · exact key c0 (lift c0 hc0) (Int.le_refl _) hc2 hc3 fun _ => ⟨fun h => by omega, fun h => by omega⟩
    · exact key c0 (lift c0 hc0) (Int.le_refl _) hc2 hc3 fun h => absurd h hbk

theorem Ad.met_col (r : Ad.R) (x k c : Int) (hr : Ad.rmay r = true) (hx : Ad.may x k = true) (hc : Ad.may c k = true) (hcx : c ≤ x) (h : r.2.1 ≤ k → (r.1 ≤ x → r.1 ≤ c) ∧ (Ad.rend r ≤ x → Ad.rend r ≤ c)) : Ad.met r c k = Ad.met r x k := by
  obtain ⟨m1, h1, h2, h3⟩ := (Ad.rmay_iff r).1 hr
  by_cases hbk : r.2.1 ≤ k
  · have e : Ad.has r.1 r.2.1 c = Ad.has r.1 r.2.1 x := by
      rw [Bool.eq_iff_iff, Ad.has_in _ _ _ m1, Ad.has_in _ _ _ m1]
      have := h hbk
      unfold Ad.rend at this
      omega
    unfold Ad.met Ad.contains
    rw [e, hx, hc]
  · have hg : ¬ r.2.2.1 ≤ k := by omega
    unfold Ad.met
    simp [hg]

theorem Ad.first_col (l : List Ad.R) (x k c : Int) (h : ∀ r ∈ l, Ad.met r c k = Ad.met r x k) : Ad.first l c k = Ad.first l x k := by
  unfold Ad.first Lib.idxBy
  exact Ad.idx_congr _ _ _ l 0 h

/-- With as many bits, the column below a prefix meets what it meets. -/
theorem Ad.grid_col (rs : List Ad.R) (hall : ∀ r ∈ rs, Ad.rmay r = true) (x k : Int) (hx : 0 ≤ x) (hm : Ad.may x k = true) : ∃ c, Ad.isCol rs c ∧ 0 ≤ c ∧ c ≤ x ∧ Ad.may c k = true ∧ ∀ r ∈ rs, Ad.met r c k = Ad.met r x k := by
  obtain ⟨k0, k1, _⟩ := (Ad.may_iff _ _).1 hm
  obtain ⟨c, h1, h2, h3, h4, h5⟩ := Ad.col_below x k hx k0 k1 rs hall
  have hcm : Ad.may c k = true := (Ad.may_iff _ _).2 ⟨k0, k1, h4⟩
  exact ⟨c, h1, h2, h3, hcm, fun r hr => Ad.met_col r x k c (hall r hr) hm hcm h3 (h5 r hr)⟩
end Go.Proofs.YtkpoanjcalolkaaDoor
