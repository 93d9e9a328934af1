/- What Bare leaves of a list: the mathematics. -/
import Derived.Test.YtkpoanjcalolkaaDoorPc0
import Derived.Test.YtkpoanjcalolkaaDoorId1
namespace Go.Proofs.YtkpoanjcalolkaaDoor
open Go.RowKit

/-- What is left behind the first k rules. -/
def Ad.BareAt (l : List Ad.R) : Nat → List Ad.R → Prop
  | 0, b => b = []
  | k + 1, b => ∃ c, Ad.BareAt l k c ∧ ((Ad.Idle (c ++ [l[k]!]) c.length false ∧ b = c ++ [l[k]!]) ∨ (Ad.Idle (c ++ [l[k]!]) c.length true ∧ b = c))

/-- Is any rule met? -/
def Ad.anyMet (l : List Ad.R) (x d : Int) : Bool := l.any fun r => Ad.met r x d

theorem Ad.any_false (l : List Ad.R) (x d : Int) (h : Ad.anyMet l x d = false) (j : Nat) (hj : j < l.length) : Ad.met l[j]! x d = false := by
  unfold Ad.anyMet at h
  rw [List.any_eq_false] at h
  rw [Ad.get_bang l j hj]
  simpa using h l[j] (List.getElem_mem hj)

theorem Ad.first_any (l : List Ad.R) (x d : Int) : (Ad.anyMet l x d = false ∧ Ad.first l x d = -1) ∨ (Ad.anyMet l x d = true ∧ ∃ k : Nat, k < l.length ∧ Ad.first l x d = k ∧ Ad.met l[k]! x d = true ∧ ∀ j, j < k → Ad.met l[j]! x d = false) := by
  rcases Ad.first_cases l x d with ⟨h1, h2⟩ | ⟨k, hk, h1, h2, h3⟩
  · refine .inl ⟨?_, h1⟩
    unfold Ad.anyMet
    rw [List.any_eq_false]
    intro r hr
    obtain ⟨j, hj, rfl⟩ := List.getElem_of_mem hr
    have := h2 j hj
    rw [Ad.get_bang l j hj] at this
    simp [this]
  · refine .inr ⟨?_, k, hk, h1, h2, h3⟩
    unfold Ad.anyMet
    rw [List.any_eq_true]
    exact ⟨l[k], List.getElem_mem hk, by rw [Ad.get_bang l k hk] at h2; exact h2⟩

theorem Ad.any_snoc (l : List Ad.R) (r : Ad.R) (x d : Int) : Ad.anyMet (l ++ [r]) x d = (Ad.anyMet l x d || Ad.met r x d) := by simp [Ad.anyMet]

theorem Ad.snoc_at (l : List Ad.R) (r : Ad.R) : (l ++ [r])[l.length]! = r := by
  rw [Ad.get_right l [r] l.length (Nat.le_refl _) (by simp), Nat.sub_self]
  rfl

/-- The first rule of a list with one more. -/
theorem Ad.first_snoc (l : List Ad.R) (r : Ad.R) (x d : Int) : Ad.first (l ++ [r]) x d = if Ad.anyMet l x d = true then Ad.first l x d else if Ad.met r x d = true then (l.length : Int) else -1 := by
  rcases Ad.first_any l x d with ⟨h1, h2⟩ | ⟨h1, k, hk, h2, h3, h4⟩
  · rw [h1, if_neg (by decide)]
    cases hm : Ad.met r x d
    · rw [if_neg (by decide)]
      exact Ad.first_none l [r] x d (Ad.any_false l x d h1) fun j hj => by
        have : j = 0 := by simpa using hj
        subst this
        exact hm
    · rw [if_pos rfl]
      have := Ad.first_right l [r] x d 0 (Ad.any_false l x d h1) (by simp) hm (fun j hj => absurd hj (Nat.not_lt_zero _))
      simpa using this
  · rw [h1, if_pos rfl, h2]
    exact Ad.first_left l [r] x d k hk h3 h4

theorem Ad.ps_snoc (l : List Ad.R) (r : Ad.R) (x d : Int) : Ad.ps (l ++ [r]) x d = if Ad.anyMet l x d = true then Ad.ps l x d else (Ad.met r x d && r.2.2.2.2) := by
  unfold Ad.ps
  rw [Ad.first_snoc]
  rcases Ad.first_any l x d with ⟨h1, h2⟩ | ⟨h1, k, hk, h2, h3, h4⟩
  · simp only [h1, Bool.false_eq_true, if_false]
    cases hm : Ad.met r x d
    · rfl
    · rw [if_pos rfl]
      unfold Ad.pass
      rw [Int.toNat_natCast, Ad.snoc_at]
      simp
  · rw [h1, if_pos rfl, if_pos rfl, h2]
    exact Ad.pass_left l [r] k hk

theorem Ad.ps_none (l : List Ad.R) (x d : Int) (h : Ad.anyMet l x d = false) : Ad.ps l x d = false := by
  rcases Ad.first_any l x d with ⟨_, h2⟩ | ⟨h1, _⟩
  · unfold Ad.ps
    rw [h2]
    rfl
  · rw [h] at h1; cases h1

theorem Ad.idle_snoc (b : List Ad.R) (r : Ad.R) (h : Ad.Idle (b ++ [r]) b.length true) (x d : Int) (h0 : 0 ≤ x) (h1 : x ≤ 4294967295) (hm : Ad.met r x d = true) : Ad.anyMet b x d = true := by
  rcases h with ⟨_, h⟩ | ⟨h, _⟩
  · cases hmay : Ad.may x d
    · rw [Ad.met_may r x d hmay] at hm; cases hm
    · have := h x d h0 h1 hmay
      rw [Ad.first_snoc] at this
      cases ha : Ad.anyMet b x d
      · rw [ha, if_neg (by decide), if_pos hm] at this
        exact absurd rfl this
      · rfl
  · cases h

theorem Ad.takeR_snoc (l : List Ad.R) (k : Nat) (h : k < l.length) : l.take (k + 1) = l.take k ++ [l[k]!] := by
  rw [Ad.get_bang l k h]
  exact List.take_succ_eq_append_getElem h

/-- A list lets pass just what its bare one lets. -/
theorem Ad.bare_ps (l : List Ad.R) (x d : Int) (h0 : 0 ≤ x) (h1 : x ≤ 4294967295) : ∀ k b, k ≤ l.length → Ad.BareAt l k b → Ad.anyMet b x d = Ad.anyMet (l.take k) x d ∧ Ad.ps b x d = Ad.ps (l.take k) x d
  | 0, b, _, h => by
    obtain rfl : b = [] := h
    exact ⟨rfl, rfl⟩
  | k + 1, b, hk, h => by
    obtain ⟨c, hc, h⟩ := h
    obtain ⟨ih1, ih2⟩ := Ad.bare_ps l x d h0 h1 k c (by omega) hc
    rw [Ad.takeR_snoc l k (by omega), Ad.any_snoc, Ad.ps_snoc]
    rcases h with ⟨_, rfl⟩ | ⟨hi, rfl⟩
    · rw [Ad.any_snoc, Ad.ps_snoc, ih1, ih2]
      exact ⟨rfl, rfl⟩
    · have hid := Ad.idle_snoc b l[k]! hi x d h0 h1
      rw [← ih1, ← ih2]
      cases hm : Ad.met l[k]! x d
      · cases ha : Ad.anyMet b x d
        · exact ⟨rfl, by rw [if_neg (by decide)]; exact Ad.ps_none b x d ha⟩
        · exact ⟨rfl, by rw [if_pos rfl]⟩
      · rw [hid hm]
        exact ⟨rfl, by rw [if_pos rfl]⟩

theorem Ad.bare_sub (l : List Ad.R) : ∀ k b, k ≤ l.length → Ad.BareAt l k b → b.Sublist (l.take k)
  | 0, b, _, h => by
    obtain rfl : b = [] := h
    exact List.nil_sublist _
  | k + 1, b, hk, h => by
    obtain ⟨c, hc, h⟩ := h
    have ih := Ad.bare_sub l k c (by omega) hc
    rw [Ad.takeR_snoc l k (by omega)]
    rcases h with ⟨_, rfl⟩ | ⟨_, rfl⟩
    · exact ih.append (List.Sublist.refl _)
    · exact ih.trans (List.sublist_append_left _ _)

/-- Each rule that is left is met first by some prefix, of those up to it. -/
theorem Ad.bare_keeps (l : List Ad.R) : ∀ k b, Ad.BareAt l k b → ∀ i, i < b.length → Ad.Idle (b.take (i + 1)) i false
  | 0, b, h => by
    obtain rfl : b = [] := h
    intro i hi
    exact absurd hi (Nat.not_lt_zero _)
  | k + 1, b, h => by
    obtain ⟨c, hc, h⟩ := h
    have ih := Ad.bare_keeps l k c hc
    rcases h with ⟨hid, rfl⟩ | ⟨_, rfl⟩
    · intro i hi
      rw [List.length_append, List.length_singleton] at hi
      by_cases hic : i < c.length
      · rw [List.take_append_of_le_length (by omega)]
        exact ih i hic
      · have e : i = c.length := by omega
        subst e
        rw [List.take_of_length_le (by simp)]
        exact hid
    · exact ih

theorem Ad.idle_up (b : List Ad.R) (i : Nat) (hi : i < b.length) (h : Ad.Idle (b.take (i + 1)) i false) : Ad.Idle b i false := by
  rcases h with ⟨h, _⟩ | ⟨_, x, d, h0, h1, h2, h3⟩
  · cases h
  · refine .inr ⟨rfl, x, d, h0, h1, h2, ?_⟩
    have hl : (b.take (i + 1)).length = i + 1 := by rw [List.length_take]; omega
    rcases Ad.first_cases (b.take (i + 1)) x d with ⟨e, _⟩ | ⟨k, hk, e, hm, hn⟩
    · rw [e] at h3; omega
    · have hki : k = i := by rw [e] at h3; omega
      subst hki
      have hb : b.take (k + 1) ++ b.drop (k + 1) = b := List.take_append_drop _ _
      have := Ad.first_left (b.take (k + 1)) (b.drop (k + 1)) x d k (by omega) hm hn
      rw [hb] at this
      exact this

/-- What is bare stays as it is. -/
theorem Ad.bare_bare (b : List Ad.R) (hb : ∀ i, i < b.length → Ad.Idle (b.take (i + 1)) i false) : ∀ k c, k ≤ b.length → Ad.BareAt b k c → c = b.take k
  | 0, c, _, h => by
    obtain rfl : c = [] := h
    rfl
  | k + 1, c, hk, h => by
    obtain ⟨e, he, h⟩ := h
    have ih := Ad.bare_bare b hb k e (by omega) he
    subst ih
    have hl : (b.take k).length = k := by rw [List.length_take]; omega
    rw [Ad.takeR_snoc b k (by omega)]
    rcases h with ⟨_, rfl⟩ | ⟨hi, _⟩
    · rfl
    · have h1 := hb k (by omega)
      rw [Ad.takeR_snoc b k (by omega)] at h1
      rw [hl] at hi
      have := Ad.idle_one _ _ _ _ h1 hi
      cases this
end Go.Proofs.YtkpoanjcalolkaaDoor
