/- What the trie's lists are, by the plain list. -/
import Derived.Test.YtechocnednepiaaGa
import Derived.Test.YtechocnednepiaaGb
import Derived.Test.YtechocnednepiaaGf
namespace Go.Proofs.Ytechocnednepiaa

theorem filter_em (f : Pf → Bool) (l : Prs) : (l.map em).filter (fun x => f x.1) = (l.filter fun x => f x.1).map em := by
  rw [List.filter_map]; rfl
theorem ups_eq {l : Prs} (hg : ∀ x ∈ l, Gd x.1) {p : Pf} (hp : Gd p) : ((l.map em).filter fun x => decide (In x.1 p)).map Prod.fst = refUpL l p := by
  rw [filter_em (fun q => decide (In q p)), List.map_map, refUpL]
  rw [List.filter_congr (q := fun x => Ad.contains x.1.1 x.1.2 p.1 p.2) fun x hx => (contains_dec (hg x hx) hp).symm]
  rfl
theorem dns_eq {l : Prs} (hg : ∀ x ∈ l, Gd x.1) {p : Pf} (hp : Gd p) : ((l.map em).filter fun x => decide (In p x.1)).map Prod.fst = refDnL l p := by
  rw [filter_em (fun q => decide (In p q)), List.map_map, refDnL]
  rw [List.filter_congr (q := fun x => Ad.contains p.1 p.2 x.1.1 x.1.2) fun x hx => (contains_dec hp (hg x hx)).symm]
  rfl
theorem ups_bad {l : Prs} {p : Pf} (hm : Ad.may p.1 p.2 = false) : refUpL l p = [] := by
  unfold refUpL
  rw [List.map_eq_nil_iff, List.filter_eq_nil_iff]
  intro x _
  simp [Ad.contains_may2 _ _ _ _ hm]
theorem dns_bad {l : Prs} {p : Pf} (hm : Ad.may p.1 p.2 = false) : refDnL l p = [] := by
  unfold refDnL
  rw [List.map_eq_nil_iff, List.filter_eq_nil_iff]
  intro x _
  simp [Ad.contains_may _ _ _ _ hm]
theorem long_eq {l : Prs} (hg : ∀ x ∈ l, Gd x.1) (a : Int) : ((l.map em).filter fun x => decide (In x.1 (a, 32))).getLast? = ((lastAt (fun x => Ad.has x.1.1 x.1.2 a) l l.length).bind fun j => l[j]?).map em := by
  have h := lastAt_filter (fun x => Ad.has x.1.1 x.1.2 a) l l.length (Nat.le_refl _)
  rw [List.take_length] at h
  rw [← h, filter_em (fun q => decide (In q (a, 32))), List.getLast?_map]
  rw [List.filter_congr (q := fun x => Ad.has x.1.1 x.1.2 a) fun x hx => (has_in (hg x hx)).symm]

end Go.Proofs.Ytechocnednepiaa
