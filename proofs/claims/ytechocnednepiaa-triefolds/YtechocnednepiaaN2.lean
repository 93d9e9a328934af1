import Derived.Test.YtechocnednepiaaN1
import Derived.WalkKit
/- Trees of prefixes: what they have in order, the way to a prefix, what lies below one. -/
namespace Go.Proofs.Ytechocnednepiaa

/-- A tree: its block, its halves, its value. -/
inductive Nt where
  | nil
  | nd (b : Nat) (lo hi : Nt) (v : Value) (is : Bool)
/-- A value, if it is one. -/
def one (is : Bool) (c : Pf) (v : Value) : List (Pf × Value) := if is then [(c, v)] else []
def Nt.list : Nt → Pf → List (Pf × Value)
  | .nil, _ => []
  | .nd _ lo hi v is, c => one is c v ++ (lo.list (half c false) ++ hi.list (half c true))
def Nt.own : Nt → List Nat
  | .nil => []
  | .nd b lo hi _ _ => b :: (lo.own ++ hi.own)
def Nt.kid : Nt → Bool → Nt
  | .nil, _ => .nil
  | .nd _ lo hi _ _, s => if s then hi else lo
/-- With another half. -/
def Nt.put : Nt → Bool → Nt → Nt
  | .nil, _, _ => .nil
  | .nd b lo hi v is, s, x => if s then .nd b lo x v is else .nd b x hi v is
/-- No deeper than d, no empty ends, zeros where there is no value. -/
def Nt.wf (z : Value) : Nt → Nat → Prop
  | .nil, _ => True
  | .nd _ lo hi v is, d => (is = true ∨ lo ≠ .nil ∨ hi ≠ .nil) ∧ (is = false → v = z) ∧ (d = 0 → lo = .nil ∧ hi = .nil) ∧ lo.wf z (d - 1) ∧ hi.wf z (d - 1)
/-- The nodes on the way to a prefix. -/
def Nt.path : Nt → Pf → Pf → List (Pf × Nt)
  | .nil, _, _ => []
  | .nd b lo hi v is, c, p => (c, .nd b lo hi v is) :: (if c = p then [] else if side c p then hi.path (half c true) p else lo.path (half c false) p)
/-- The tree at a prefix. -/
def Nt.sub : Nt → Pf → Pf → Nt
  | .nil, _, _ => .nil
  | .nd b lo hi v is, c, p => if c = p then .nd b lo hi v is else if side c p then hi.sub (half c true) p else lo.sub (half c false) p
/-- What a node has itself. -/
def Nt.mine : Pf × Nt → List (Pf × Value)
  | (_, .nil) => []
  | (c, .nd _ _ _ v is) => one is c v

theorem mem_one {is : Bool} {c : Pf} {v : Value} {x : Pf × Value} : x ∈ one is c v ↔ is = true ∧ x = (c, v) := by
  unfold one; cases is <;> simp
theorem one_length {is : Bool} {c : Pf} {v : Value} : (one is c v).length = if is then 1 else 0 := by unfold one; cases is <;> rfl

/-- The depth that is left below a prefix. -/
def left (c : Pf) : Nat := (32 - c.2).toNat
theorem left_half {c : Pf} (s : Bool) : left (half c s) = left c - 1 := by unfold left half; simp only; omega
theorem left_root : left (0, 0) = 32 := by decide

theorem Nt.kids_nil {z : Value} {b : Nat} {lo hi : Nt} {v : Value} {is : Bool} {c : Pf} (h : (Nt.nd b lo hi v is).wf z (left c)) (hc : ¬ c.2 ≤ 31) : lo = .nil ∧ hi = .nil := h.2.2.1 (by unfold left; omega)

/-- All of a tree lies below its prefix, and may be. -/
theorem Nt.list_in {z : Value} : ∀ (t : Nt) (c : Pf), Gd c → t.wf z (left c) → ∀ x ∈ t.list c, Gd x.1 ∧ In c x.1
  | .nil, _, _, _, x, hx => by simp [Nt.list] at hx
  | .nd b lo hi v is, c, hc, hw, x, hx => by
    simp only [Nt.list, List.mem_append] at hx
    rcases hx with hx | hx
    · obtain ⟨_, rfl⟩ := mem_one.1 hx
      exact ⟨hc, In.refl hc⟩
    · by_cases hl : c.2 ≤ 31
      · rcases hx with hx | hx
        · have := Nt.list_in lo (half c false) (gd_half hc hl _) (by rw [left_half]; exact hw.2.2.2.1) x hx
          exact ⟨this.1, (in_half hc hl false).trans this.2⟩
        · have := Nt.list_in hi (half c true) (gd_half hc hl _) (by rw [left_half]; exact hw.2.2.2.2) x hx
          exact ⟨this.1, (in_half hc hl true).trans this.2⟩
      · obtain ⟨rfl, rfl⟩ := Nt.kids_nil hw hl
        simp [Nt.list] at hx
theorem Nt.list_kid {z : Value} {b : Nat} {lo hi : Nt} {v : Value} {is : Bool} {c : Pf} (hc : Gd c) (hw : (Nt.nd b lo hi v is).wf z (left c)) : (∀ x ∈ lo.list (half c false), Gd x.1 ∧ In (half c false) x.1) ∧ (∀ x ∈ hi.list (half c true), Gd x.1 ∧ In (half c true) x.1) := by
  by_cases hl : c.2 ≤ 31
  · exact ⟨Nt.list_in lo _ (gd_half hc hl _) (by rw [left_half]; exact hw.2.2.2.1), Nt.list_in hi _ (gd_half hc hl _) (by rw [left_half]; exact hw.2.2.2.2)⟩
  · obtain ⟨rfl, rfl⟩ := Nt.kids_nil hw hl
    exact ⟨fun x hx => by simp [Nt.list] at hx, fun x hx => by simp [Nt.list] at hx⟩
/-- A list in order, each prefix once. -/
def Sorted (l : List (Pf × Value)) : Prop := l.Pairwise fun x y => Lt x.1 y.1
theorem Nt.sorted {z : Value} : ∀ (t : Nt) (c : Pf), Gd c → t.wf z (left c) → Sorted (t.list c)
  | .nil, _, _, _ => List.Pairwise.nil
  | .nd b lo hi v is, c, hc, hw => by
    obtain ⟨k1, k2⟩ := Nt.list_kid hc hw
    have e : Sorted (lo.list (half c false) ++ hi.list (half c true)) := by
      by_cases hl : c.2 ≤ 31
      · refine List.pairwise_append.2 ⟨Nt.sorted lo _ (gd_half hc hl _) (by rw [left_half]; exact hw.2.2.2.1), Nt.sorted hi _ (gd_half hc hl _) (by rw [left_half]; exact hw.2.2.2.2), fun x hx y hy => lt_halves (k1 x hx).2 (k2 y hy).2⟩
      · obtain ⟨rfl, rfl⟩ := Nt.kids_nil hw hl
        exact List.Pairwise.nil
    refine List.pairwise_append.2 ⟨by unfold one; cases is <;> simp, e, fun x hx y hy => ?_⟩
    obtain ⟨_, rfl⟩ := mem_one.1 hx
    rcases List.mem_append.1 hy with hy | hy
    · exact lt_self ((in_half hc (by
        apply Classical.byContradiction; intro hl
        obtain ⟨rfl, rfl⟩ := Nt.kids_nil hw hl
        simp [Nt.list] at hy) false).trans (k1 y hy).2) (half_ne (k1 y hy).2)
    · exact lt_self ((in_half hc (by
        apply Classical.byContradiction; intro hl
        obtain ⟨rfl, rfl⟩ := Nt.kids_nil hw hl
        simp [Nt.list] at hy) true).trans (k2 y hy).2) (half_ne (k2 y hy).2)

/-- What is on the way to a prefix is what contains it. -/
theorem Nt.path_filter {z : Value} : ∀ (t : Nt) (c p : Pf), Gd c → Gd p → In c p → t.wf z (left c) → (t.path c p).flatMap Nt.mine = (t.list c).filter fun x => decide (In x.1 p)
  | .nil, _, _, _, _, _, _ => rfl
  | .nd b lo hi v is, c, p, hc, hp, hi', hw => by
    obtain ⟨k1, k2⟩ := Nt.list_kid hc hw
    have e1 : (one is c v).filter (fun x => decide (In x.1 p)) = one is c v := by
      unfold one; cases is <;> simp [hi']
    simp only [Nt.path, Nt.list, List.flatMap_cons, List.filter_append, e1]
    show one is c v ++ _ = _
    congr 1
    by_cases he : c = p
    · subst he
      rw [if_pos rfl]
      have a1 : (lo.list (half c false)).filter (fun x => decide (In x.1 c)) = [] := List.filter_eq_nil_iff.2 fun x hx => by
        have h1 := (k1 x hx).2.1
        simp only [decide_eq_true_eq]
        intro k
        have := k.1
        simp only [half] at h1
        omega
      have a2 : (hi.list (half c true)).filter (fun x => decide (In x.1 c)) = [] := List.filter_eq_nil_iff.2 fun x hx => by
        have h1 := (k2 x hx).2.1
        simp only [decide_eq_true_eq]
        intro k
        have := k.1
        simp only [half] at h1
        omega
      rw [a1, a2]
      rfl
    · rw [if_neg he]
      have hlt := hi'.lt hc hp he
      have hl : c.2 ≤ 31 := by have := hp.2.2.2.1; omega
      have hs := in_side hc hp hi' he
      cases hsd : side c p
      · rw [hsd] at hs
        have a2 : (hi.list (half c true)).filter (fun x => decide (In x.1 p)) = [] := List.filter_eq_nil_iff.2 fun x hx => by
          simp only [decide_eq_true_eq]
          intro k
          have h1 := (k2 x hx).2.trans k
          have := side_of h1
          rw [hsd] at this
          simp at this
        rw [a2, List.append_nil]
        simp only [Bool.false_eq_true, if_false]
        exact Nt.path_filter lo _ p (gd_half hc hl _) hp hs (by rw [left_half]; exact hw.2.2.2.1)
      · rw [hsd] at hs
        have a1 : (lo.list (half c false)).filter (fun x => decide (In x.1 p)) = [] := List.filter_eq_nil_iff.2 fun x hx => by
          simp only [decide_eq_true_eq]
          intro k
          have h1 := (k1 x hx).2.trans k
          have := side_of h1
          rw [hsd] at this
          simp at this
        rw [a1, List.nil_append]
        simp only [if_true]
        exact Nt.path_filter hi _ p (gd_half hc hl _) hp hs (by rw [left_half]; exact hw.2.2.2.2)
/-- What lies below a prefix is what the tree there has. -/
theorem Nt.sub_filter {z : Value} : ∀ (t : Nt) (c p : Pf), Gd c → Gd p → In c p → t.wf z (left c) → (t.sub c p).list p = (t.list c).filter fun x => decide (In p x.1)
  | .nil, _, _, _, _, _, _ => rfl
  | .nd b lo hi v is, c, p, hc, hp, hi', hw => by
    obtain ⟨k1, k2⟩ := Nt.list_kid hc hw
    by_cases he : c = p
    · subst he
      simp only [Nt.sub, if_true]
      symm
      rw [List.filter_eq_self]
      intro x hx
      simpa using (Nt.list_in _ _ hc hw x hx).2
    · have hlt := hi'.lt hc hp he
      have hl : c.2 ≤ 31 := by have := hp.2.2.2.1; omega
      have hs := in_side hc hp hi' he
      have e1 : (one is c v).filter (fun x => decide (In p x.1)) = [] := List.filter_eq_nil_iff.2 fun x hx => by
        obtain ⟨_, rfl⟩ := mem_one.1 hx
        simp only [decide_eq_true_eq]
        intro k
        have := k.1
        omega
      simp only [Nt.sub, Nt.list, List.filter_append, e1, List.nil_append, if_neg he]
      cases hsd : side c p
      · rw [hsd] at hs
        have a2 : (hi.list (half c true)).filter (fun x => decide (In p x.1)) = [] := List.filter_eq_nil_iff.2 fun x hx => by
          simp only [decide_eq_true_eq]
          intro k
          have h1 := side_of (k2 x hx).2
          have h2 := side_of (hs.trans k)
          rw [h1] at h2
          simp at h2
        rw [a2, List.append_nil]
        simp only [Bool.false_eq_true, if_false]
        exact Nt.sub_filter lo _ p (gd_half hc hl _) hp hs (by rw [left_half]; exact hw.2.2.2.1)
      · rw [hsd] at hs
        have a1 : (lo.list (half c false)).filter (fun x => decide (In p x.1)) = [] := List.filter_eq_nil_iff.2 fun x hx => by
          simp only [decide_eq_true_eq]
          intro k
          have h1 := side_of (k1 x hx).2
          have h2 := side_of (hs.trans k)
          rw [h1] at h2
          simp at h2
        rw [a1, List.nil_append]
        simp only [if_true]
        exact Nt.sub_filter hi _ p (gd_half hc hl _) hp hs (by rw [left_half]; exact hw.2.2.2.2)
theorem Nt.sub_wf {z : Value} : ∀ (t : Nt) (c p : Pf), Gd c → Gd p → In c p → t.wf z (left c) → (t.sub c p).wf z (left p)
  | .nil, _, _, _, _, _, _ => trivial
  | .nd b lo hi v is, c, p, hc, hp, hi', hw => by
    by_cases he : c = p
    · subst he
      simp only [Nt.sub, if_true]
      exact hw
    · have hlt := hi'.lt hc hp he
      have hl : c.2 ≤ 31 := by have := hp.2.2.2.1; omega
      have hs := in_side hc hp hi' he
      simp only [Nt.sub, if_neg he]
      cases hsd : side c p
      · rw [hsd] at hs
        simp only [Bool.false_eq_true, if_false]
        exact Nt.sub_wf lo _ p (gd_half hc hl _) hp hs (by rw [left_half]; exact hw.2.2.2.1)
      · rw [hsd] at hs
        simp only [if_true]
        exact Nt.sub_wf hi _ p (gd_half hc hl _) hp hs (by rw [left_half]; exact hw.2.2.2.2)
/-- What a prefix has. -/
def look (l : List (Pf × Value)) (p : Pf) : Option Value := (l.find? fun x => decide (x.1 = p)).map Prod.snd
theorem Nt.sub_look {z : Value} (t : Nt) (c p : Pf) (hc : Gd c) (hp : Gd p) (hi : In c p) (hw : t.wf z (left c)) :
    look (t.list c) p = match t.sub c p with | .nil => none | .nd _ _ _ v is => if is then some v else none := by
  have h1 := Nt.sub_filter t c p hc hp hi hw
  have h2 := Nt.sub_wf t c p hc hp hi hw
  have h3 : look (t.list c) p = look ((t.list c).filter fun x => decide (In p x.1)) p := by
    unfold look
    rw [List.find?_filter]
    congr 2
    funext x
    by_cases e : x.1 = p
    · simp [e, In.refl hp]
    · simp [e]
  rw [h3, ← h1]
  cases hs : t.sub c p with
  | nil => rfl
  | nd b lo hi v is =>
    rw [hs] at h2
    obtain ⟨k1, k2⟩ := Nt.list_kid hp h2
    cases is
    · have : look ((Nt.nd b lo hi v false).list p) p = none := by
        unfold look
        rw [Option.map_eq_none_iff, List.find?_eq_none]
        intro x hx
        simp only [decide_eq_true_eq]
        simp only [Nt.list, one, Bool.false_eq_true, if_false, List.nil_append, List.mem_append] at hx
        rcases hx with hx | hx
        · exact fun e => half_ne (k1 x hx).2 e.symm
        · exact fun e => half_ne (k2 x hx).2 e.symm
      rw [this]
      rfl
    · simp [look, Nt.list, one]
/-- The node of a prefix among nodes. -/
def fnd (p : Pf) (l : List (Pf × Nt)) : Nt := l.foldl (fun n x => if x.1 = p then x.2 else n) .nil
theorem fnd_snoc (p : Pf) (l : List (Pf × Nt)) (x : Pf × Nt) : fnd p (l ++ [x]) = if x.1 = p then x.2 else fnd p l := by simp [fnd]
theorem Nt.fnd_path : ∀ (t : Nt) (c p : Pf), (t.path c p).foldl (fun n x => if x.1 = p then x.2 else n) Nt.nil = t.sub c p
  | .nil, _, _ => rfl
  | .nd b lo hi v is, c, p => by
    by_cases he : c = p
    · simp [Nt.path, Nt.sub, he]
    · cases hs : side c p
      · simp only [Nt.path, Nt.sub, if_neg he, hs, List.foldl_cons, Bool.false_eq_true, if_false]
        exact Nt.fnd_path lo _ p
      · simp only [Nt.path, Nt.sub, if_neg he, hs, List.foldl_cons, if_true]
        exact Nt.fnd_path hi _ p
end Go.Proofs.Ytechocnednepiaa
