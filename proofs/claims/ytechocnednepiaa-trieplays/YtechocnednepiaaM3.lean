/- Plain mathematics: when two prefixes are the halves of what is above both; the stack on which they are joined. -/
import Derived.Test.YtechocnednepiaaM2
namespace Go.Proofs.Ytechocnednepiaa.Ad

/-- p and q are the halves of one, the lower one first. -/
def pair (p q : Int × Int) : Bool := decide (p.2 = q.2 ∧ 1 ≤ p.2 ∧ cut p.1 (p.2 - 1) = p.1 ∧ q.1 = p.1 + sz p.2)
/-- The one whose lower half p is. -/
def up (p : Int × Int) : Int × Int := (p.1, p.2 - 1)

theorem mul_cut (a b : Int) (h : cut a b = a) : ∃ q : Int, a = q * sz b := ⟨a / sz b, by unfold cut at h; omega⟩

/-- What stands just behind a multiple, less than a size away, is cut to it. -/
theorem cut_add (a b x : Int) (h : cut a b = a) (h0 : 0 ≤ x) (h1 : x < sz b) : cut (a + x) b = a := by
  obtain ⟨q, hq⟩ := mul_cut a b h
  have := cut_eq (a + x) b q (by omega) (by omega)
  omega

theorem pair_above (a b c d : Int) (k : Nat) (hb : 0 ≤ b) (hb2 : b ≤ 32) (ha : cut a b = a) (hc : cut c d = c) (hk : (k : Int) ≤ b) (he : cut a k = cut c k)
    (hs : (k : Int) = b ∨ (k : Int) = d ∨ cut a (k + 1) ≠ cut c (k + 1)) (hp : pair (a, b) (c, d) = true) : (k : Int) = b - 1 := by
  simp only [pair, decide_eq_true_eq] at hp
  obtain ⟨h1, h2, h3, h4⟩ := hp
  subst h1
  have hh := sz_half (b - 1) (by omega) (by omega)
  have hb1 : b - 1 + 1 = b := by omega
  rw [hb1] at hh
  have hz := sz_pos b
  have e1 : cut c (b - 1) = a := by rw [h4]; exact cut_add a (b - 1) (sz b) h3 (by omega) (by omega)
  rcases Int.lt_trichotomy (k : Int) (b - 1) with h | h | h
  · exfalso
    have hm := cut_mono a c ((k : Int) + 1) (b - 1) (by omega) (by rw [h3, e1])
    rcases hs with h5 | h5 | h5
    · omega
    · omega
    · exact h5 hm
  · exact h
  · exfalso
    have hkb : (k : Int) = b := by omega
    rw [hkb, ha, hc] at he
    omega

/-- If they are no pair, they are not the halves of what is above both. -/
theorem pair_not (a b c d : Int) (k : Nat) (h : pair (a, b) (c, d) = false) (h1 : a = cut a k) (h2 : b = k + 1) (h3 : c = cut a k + sz (k + 1)) (h4 : d = k + 1) : False := by
  have : pair (a, b) (c, d) = true := by
    simp only [pair, decide_eq_true_eq]
    have e : b - 1 = k := by omega
    refine ⟨by omega, by omega, by rw [e]; exact h1.symm, ?_⟩
    rw [h3, ← h1, h2]
  rw [this] at h
  cases h

/-- A pair's upper one may be. -/
theorem may_up (a b c d : Int) (hm : may a b = true) (hp : pair (a, b) (c, d) = true) : may a (b - 1) = true := by
  simp only [pair, decide_eq_true_eq] at hp
  rw [may_iff] at hm ⊢
  exact ⟨by omega, by omega, hp.2.2.1⟩

/-- The stack, its top first: as long as two that are a pair stand there, they are one. -/
def joinF : Nat → List (Int × Int) → List (Int × Int)
  | 0, s => s
  | f + 1, s =>
    match s with
    | q :: p :: r => if pair p q = true then joinF f (up p :: r) else q :: p :: r
    | s => s
def join (s : List (Int × Int)) : List (Int × Int) := joinF s.length s

theorem join_step (q p : Int × Int) (r : List (Int × Int)) (h : pair p q = true) : join (q :: p :: r) = join (up p :: r) := by
  simp [join, joinF, h]
theorem join_stop (q p : Int × Int) (r : List (Int × Int)) (h : pair p q = false) : join (q :: p :: r) = q :: p :: r := by
  simp [join, joinF, h]
theorem join_one (q : Int × Int) : join [q] = [q] := rfl
theorem join_nil : join [] = [] := rfl
end Go.Proofs.Ytechocnednepiaa.Ad
