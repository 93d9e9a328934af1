/- Plain lists of bytes: the document's way to parse a prefix, digits by digits, is the program's. -/
import Derived.Test.YtfkajefminopjaaDoorX3
namespace Go.Proofs.YtfkajefminopjaaDoor
open Go

/-- The numbers of a text, one behind another, with their marks. -/
def Ad.go : List UInt8 → List UInt8 → Option (List (List UInt8))
  | [], l => if Ad.isNum l = true then some [l] else none
  | m :: ms, l => match l.dropWhile Ad.dig with
    | [] => none
    | c :: r => if Ad.isNum (l.takeWhile Ad.dig) = true ∧ c = m then (Ad.go ms r).map fun ts => l.takeWhile Ad.dig :: ts else none

theorem Ad.tw_all (t r : List UInt8) (ht : Ad.digs t = true) (c : UInt8) (hc : Ad.dig c = false) : (t ++ c :: r).takeWhile Ad.dig = t ∧ (t ++ c :: r).dropWhile Ad.dig = c :: r := by
  induction t with
  | nil => simp [hc]
  | cons x t ih =>
    unfold Ad.digs at ht
    rw [List.all_cons, Bool.and_eq_true] at ht
    have hx : Ad.dig x = true := ht.1
    have := ih ht.2
    rw [List.cons_append, List.takeWhile_cons, List.dropWhile_cons, hx]
    simp [this]

theorem Ad.tw_digs (l : List UInt8) : Ad.digs (l.takeWhile Ad.dig) = true := by
  induction l with
  | nil => rfl
  | cons x l ih =>
    rw [List.takeWhile_cons]
    cases hx : Ad.dig x
    · rfl
    · show (Ad.dig x && Ad.digs (l.takeWhile Ad.dig)) = true
      rw [hx, ih]
      rfl

theorem Ad.go_step (m : UInt8) (ms t r : List UInt8) (hm : Ad.dig m = false) (ht : Ad.isNum t = true) : Ad.go (m :: ms) (t ++ m :: r) = (Ad.go ms r).map fun ts => t :: ts := by
  obtain ⟨h1, h2⟩ := Ad.tw_all t r (Ad.isNum_digs ht) m hm
  rw [Ad.go, h2, h1]
  simp only
  rw [if_pos ⟨ht, trivial⟩]

theorem Ad.go_some (m : UInt8) (ms l : List UInt8) (ts : List (List UInt8)) (h : Ad.go (m :: ms) l = some ts) : ∃ t r us, l = t ++ m :: r ∧ Ad.isNum t = true ∧ Ad.go ms r = some us ∧ ts = t :: us := by
  rw [Ad.go] at h
  cases hd : l.dropWhile Ad.dig with
  | nil => rw [hd] at h; simp at h
  | cons c r =>
    rw [hd] at h
    simp only at h
    split at h
    · rename_i hc
      obtain ⟨h1, rfl⟩ := hc
      cases hg : Ad.go ms r with
      | none => rw [hg] at h; simp at h
      | some us =>
        rw [hg] at h
        simp at h
        refine ⟨l.takeWhile Ad.dig, r, us, ?_, h1, hg, h.symm⟩
        rw [← hd, List.takeWhile_append_dropWhile]
    · simp at h

theorem Ad.parse_go (l t0 t1 t2 t3 t4 : List UInt8) (h : Ad.go [46, 46, 46, 47] l = some [t0, t1, t2, t3, t4]) :
    Ad.parse l = Ad.parseT t0 t1 t2 t3 t4 ∧ Ad.isNum t0 = true ∧ Ad.isNum t1 = true ∧ Ad.isNum t2 = true ∧ Ad.isNum t3 = true ∧ Ad.isNum t4 = true := by
  obtain ⟨a0, r0, u0, rfl, n0, g0, e0⟩ := Ad.go_some _ _ _ _ h
  obtain ⟨a1, r1, u1, rfl, n1, g1, e1⟩ := Ad.go_some _ _ _ _ g0
  obtain ⟨a2, r2, u2, rfl, n2, g2, e2⟩ := Ad.go_some _ _ _ _ g1
  obtain ⟨a3, r3, u3, rfl, n3, g3, e3⟩ := Ad.go_some _ _ _ _ g2
  rw [Ad.go] at g3
  split at g3
  · rename_i n4
    have g4 := (Option.some.inj g3).symm
    subst g4
    subst e3
    subst e2
    subst e1
    simp only [List.cons.injEq, and_true] at e0
    obtain ⟨rfl, rfl, rfl, rfl, rfl⟩ := e0
    refine ⟨?_, n0, n1, n2, n3, n4⟩
    unfold Ad.parse
    rw [Ad.marks_text _ _ _ _ _ (Ad.isNum_digs n0) (Ad.isNum_digs n1) (Ad.isNum_digs n2) (Ad.isNum_digs n3)]
    simp only [n0, n1, n2, n3, n4, Bool.and_self, if_true]
  · simp at g3

theorem Ad.parse_none (l : List UInt8) (h : Ad.go [46, 46, 46, 47] l = none) : Ad.parse l = (0, 0, 4) := by
  unfold Ad.parse
  cases hm : Ad.marks5 l with
  | none => rfl
  | some q =>
    obtain ⟨a, b, c, d, e⟩ := q
    simp only
    split
    · rename_i hn
      exfalso
      simp only [Bool.and_eq_true] at hn
      obtain ⟨⟨⟨⟨n0, n1⟩, n2⟩, n3⟩, n4⟩ := hn
      rw [Ad.marks_some _ _ _ _ _ _ hm, Ad.go_step _ _ _ _ (by decide) n0, Ad.go_step _ _ _ _ (by decide) n1, Ad.go_step _ _ _ _ (by decide) n2, Ad.go_step _ _ _ _ (by decide) n3, Ad.go, if_pos n4] at h
      simp at h
    · rfl

/-- What dgs tells: no number stands ahead. -/
theorem Ad.dgs_zero (l : List UInt8) (x : Int) (h : Ad.dgs l = (0, x)) : Ad.isNum (l.takeWhile Ad.dig) = false := by
  unfold Ad.dgs at h
  unfold Ad.isNum
  split at h
  · rename_i hz
    rw [hz]
    simp
  · simp only [Prod.mk.injEq] at h
    have h1 : (l.takeWhile Ad.dig).length = 0 := by have := h.1; omega
    rw [List.eq_nil_of_length_eq_zero h1]
    rfl

/-- .. or one does. -/
theorem Ad.dgs_pos (l : List UInt8) (k : Nat) (x : Int) (hk : 0 < k) (h : Ad.dgs l = ((k : Int), x)) :
    Ad.isNum (l.takeWhile Ad.dig) = true ∧ x = Ad.clamp (Ad.num (l.takeWhile Ad.dig)) ∧ l.takeWhile Ad.dig = l.take k ∧ l.dropWhile Ad.dig = l.drop k ∧ k ≤ l.length := by
  unfold Ad.dgs at h
  split at h
  · simp only [Prod.mk.injEq] at h
    omega
  · rename_i hz
    simp only [Prod.mk.injEq] at h
    have hl : (l.takeWhile Ad.dig).length = k := by have := h.1; omega
    have hp : l = l.takeWhile Ad.dig ++ l.dropWhile Ad.dig := List.takeWhile_append_dropWhile.symm
    refine ⟨?_, ?_, ?_, ?_, ?_⟩
    · unfold Ad.isNum
      rw [Ad.tw_digs, (Bool.not_eq_true _).mp hz]
      cases hc : l.takeWhile Ad.dig with
      | nil => rw [hc] at hl; simp at hl; omega
      | cons _ _ => rfl
    · rw [← h.2, Ad.numC_eq _ (Ad.tw_digs l)]
    · conv => rhs; rw [hp]
      rw [List.take_append_of_le_length (by omega), List.take_of_length_le (by omega)]
    · conv => rhs; rw [hp]
      rw [List.drop_append_of_le_length (by omega), List.drop_of_length_le (by omega), List.nil_append]
    · have := congrArg List.length hp
      rw [List.length_append] at this
      omega

/-- A stage that fails: no number. -/
theorem Ad.go_fail (ms l : List UInt8) (h : Ad.isNum (l.takeWhile Ad.dig) = false) : Ad.go ms l = none := by
  cases ms with
  | nil =>
    rw [Ad.go, if_neg]
    intro hn
    have hd := Ad.isNum_digs hn
    have e : l.takeWhile Ad.dig = l := by
      have := Ad.take_while l l.length (by rw [List.take_length]; exact hd) (fun h => absurd h (Nat.lt_irrefl _))
      rw [this, List.take_length]
    rw [e, hn] at h
    cases h
  | cons m ms =>
    rw [Ad.go]
    split
    · rfl
    · rw [if_neg (by rw [h]; simp)]

/-- .. the text is at its end. -/
theorem Ad.go_end (m : UInt8) (ms l : List UInt8) (h : l.dropWhile Ad.dig = []) : Ad.go (m :: ms) l = none := by
  rw [Ad.go, h]

/-- .. another mark. -/
theorem Ad.go_other (m c : UInt8) (ms l r : List UInt8) (h : l.dropWhile Ad.dig = c :: r) (hc : c ≠ m) : Ad.go (m :: ms) l = none := by
  rw [Ad.go, h]
  simp only
  rw [if_neg (fun h => hc h.2)]

/-- A stage that does not. -/
theorem Ad.go_next (m : UInt8) (ms l r : List UInt8) (h : l.dropWhile Ad.dig = m :: r) (hn : Ad.isNum (l.takeWhile Ad.dig) = true) : Ad.go (m :: ms) l = (Ad.go ms r).map fun ts => l.takeWhile Ad.dig :: ts := by
  rw [Ad.go, h]
  simp only
  rw [if_pos ⟨hn, trivial⟩]

theorem Ad.go_last (l : List UInt8) (h : l.dropWhile Ad.dig = []) (hn : Ad.isNum (l.takeWhile Ad.dig) = true) : Ad.go [] l = some [l.takeWhile Ad.dig] := by
  have e : l = l.takeWhile Ad.dig := by
    have := List.takeWhile_append_dropWhile (p := Ad.dig) (l := l)
    rw [h, List.append_nil] at this
    exact this.symm
  rw [Ad.go]
  rw [← e] at hn ⊢
  rw [if_pos hn]

theorem Ad.go_rest (l : List UInt8) (h : l.dropWhile Ad.dig ≠ []) : Ad.go [] l = none := by
  rw [Ad.go, if_neg]
  intro hn
  apply h
  have := Ad.take_while l l.length (by rw [List.take_length]; exact Ad.isNum_digs hn) (fun h => absurd h (Nat.lt_irrefl _))
  rw [List.take_length] at this
  have e := List.takeWhile_append_dropWhile (p := Ad.dig) (l := l)
  rw [this] at e
  have := congrArg List.length e
  rw [List.length_append] at this
  exact List.eq_nil_of_length_eq_zero (by omega)

theorem Ad.bad_clamp (t : List UInt8) (m : Int) (hn : Ad.isNum t = true) (hm : m < 1000) : Ad.bad t m = decide (m < Ad.clamp (Ad.num t)) := by
  have h0 := (Ad.num_bd t (Ad.isNum_digs hn)).1
  unfold Ad.bad
  have key : (3 < t.length ∨ m < Ad.num t) ↔ m < Ad.clamp (Ad.num t) := by
    constructor
    · rintro (h | h)
      · have : ¬ Ad.num t < 1000 := by
          intro hlt
          have := Ad.itoa_len3 _ h0 hlt
          rw [Ad.itoa_num t hn] at this
          omega
        unfold Ad.clamp
        split <;> omega
      · unfold Ad.clamp
        split <;> omega
    · intro h
      right
      unfold Ad.clamp at h
      split at h <;> omega
  exact decide_eq_decide.2 key
end Go.Proofs.YtfkajefminopjaaDoor
