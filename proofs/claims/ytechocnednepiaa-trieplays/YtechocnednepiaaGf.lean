import Derived.Test.YtechocnednepiaaGe
import Derived.Test.YtechocnednepiaaGa
import Derived.Test.YtechocnednepiaaGb
/- What a trie finds, by the plain list's place. -/
namespace Go.Proofs.Ytechocnednepiaa

theorem look_cons (x : Pf × Value) (l : List (Pf × Value)) (p : Pf) : look (x :: l) p = if x.1 = p then some x.2 else look l p := by
  unfold look
  by_cases h : x.1 = p
  · rw [List.find?_cons_of_pos (by simpa using h), if_pos h]; rfl
  · rw [List.find?_cons_of_neg (by simpa using h), if_neg h]
theorem look_ahead {l : Prs} {p : Pf} (h : ∀ x ∈ l, x.1 ≠ p) : look (l.map em) p = none := by
  unfold look
  rw [Option.map_eq_none_iff, List.find?_eq_none]
  intro x hx
  obtain ⟨y, hy, rfl⟩ := List.mem_map.1 hx
  have := h y hy
  rw [decide_eq_true_eq]
  exact this
theorem look_place {p : Pf} : ∀ {l : Prs}, SortedP l → look (l.map em) p = if (place l p).2 then (l[(place l p).1]?).map (fun x => Value.int .i64 x.2) else none
  | [], _ => by simp [look, place]
  | x :: l, hs => by
    have h := List.pairwise_cons.1 hs
    have ih := look_place (p := p) (l := l) h.2
    rw [List.map_cons, look_cons]
    by_cases h1 : x.1 = p
    · have e : place (x :: l) p = (0, true) := by rw [place, if_pos h1]
      rw [e, if_pos (show (em x).1 = p from h1)]
      simp [em]
    · rw [if_neg (show ¬ (em x).1 = p from h1)]
      by_cases h2 : ahead p x.1 = true
      · have e : place (x :: l) p = (0, false) := by rw [place, if_neg h1, if_pos h2]
        rw [e]
        simp only [Bool.false_eq_true, if_false]
        exact look_ahead fun y hy e => Lt.irrefl ((ahead_iff.1 h2).trans (e ▸ h.1 y hy))
      · have e : place (x :: l) p = ((place l p).1 + 1, (place l p).2) := by rw [place, if_neg h1, if_neg h2]
        rw [e, ih]
        simp

end Go.Proofs.Ytechocnednepiaa

/- What the trie's lists are, by the plain list. -/
namespace Go.Proofs.Ytechocnednepiaa

theorem filter_em (f : Pf → Bool) (l : Prs) : (l.map em).filter (fun x => f x.1) = (l.filter fun x => f x.1).map em := by
  rw [List.filter_map]; rfl
theorem ups_eq {l : Prs} (hg : ∀ x ∈ l, Gd x.1) {p : Pf} (hp : Gd p) : ((l.map em).filter fun x => decide (In x.1 p)).map Prod.fst = refUpL l p := by
  rw [filter_em (fun q => decide (In q p)), List.map_map, refUpL]
  rw [List.filter_congr (q := fun x => Ad.contains x.1.1 x.1.2 p.1 p.2) fun x hx => (contains_dec (hg x hx) hp).symm]
  rfl
theorem dns_eq {l : Prs} (hg : ∀ x ∈ l, Gd x.1) {p : Pf} (hp : Gd p) : ((l.map em).filter fun x => decide (In p x.1)).map Prod.fst = refDnL l p := by
  rw [filter_em (fun q => decide (In p q)), List.map_map, refDnL]
  rw [List.filter_congr (q := fun x => Ad.contains p.1 p.2 x.1.1 x.1.2) fun x hx => (contains_dec hp (hg x hx)).symm]
  rfl
theorem ups_bad {l : Prs} {p : Pf} (hm : Ad.may p.1 p.2 = false) : refUpL l p = [] := by
  unfold refUpL
  rw [List.map_eq_nil_iff, List.filter_eq_nil_iff]
  intro x _
  simp [Ad.contains_may2 _ _ _ _ hm]
theorem dns_bad {l : Prs} {p : Pf} (hm : Ad.may p.1 p.2 = false) : refDnL l p = [] := by
  unfold refDnL
  rw [List.map_eq_nil_iff, List.filter_eq_nil_iff]
  intro x _
  simp [Ad.contains_may _ _ _ _ hm]
theorem long_eq {l : Prs} (hg : ∀ x ∈ l, Gd x.1) (a : Int) : ((l.map em).filter fun x => decide (In x.1 (a, 32))).getLast? = ((lastAt (fun x => Ad.has x.1.1 x.1.2 a) l l.length).bind fun j => l[j]?).map em := by
  have h := lastAt_filter (fun x => Ad.has x.1.1 x.1.2 a) l l.length (Nat.le_refl _)
  rw [List.take_length] at h
  rw [← h, filter_em (fun q => decide (In q (a, 32))), List.getLast?_map]
  rw [List.filter_congr (q := fun x => Ad.has x.1.1 x.1.2 a) fun x hx => (has_in (hg x hx)).symm]

end Go.Proofs.Ytechocnednepiaa

