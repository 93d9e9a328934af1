/- The law CommBack: what was added is there, what was deleted isn't: the mathematics. -/
import Derived.Test.YtgebfgjeckdngaaDoorY4
import Derived.Test.YtgebfgjeckdngaaDoorO2
import Derived.Test.YtgebfgjeckdngaaDoorV1
namespace Go.Proofs.YtgebfgjeckdngaaDoor
open Go.RowKit Go.Sort Go.Lib

theorem Co.set_rises {x : List Co.C} (hr : Co.rises x) (hm : ∀ c ∈ x, Co.may c = true) (h8 : x.length ≤ 8) : Co.set x = true := by
  refine Co.set_ok x h8 fun j hj => ?_
  rcases Nat.eq_zero_or_pos j with h0 | h0
  · subst h0
    rw [Co.ok_zero x hj]
    exact hm _ (List.getElem_mem hj)
  · obtain ⟨i, rfl⟩ : ∃ i, j = i + 1 := ⟨j - 1, by omega⟩
    rw [Co.ok_succ x i hj, hm _ (List.getElem_mem hj), Bool.true_and]
    have := List.pairwise_iff_getElem.1 hr i (i + 1) (by omega) hj (by omega)
    exact this
theorem Co.may_all {l m x : List Co.C} (h : Co.uni l m x) (hs : Co.set l = true) (hm : (m.any fun x => !Co.may x) = false) : ∀ c ∈ x, Co.may c = true := by
  intro c hc
  rcases (h.2 c).1 hc with h1 | h1
  · obtain ⟨j, hj, rfl⟩ := List.getElem_of_mem h1
    have := ((Co.set_iff l).1 hs).2 j hj
    unfold Co.okAt at this
    rw [Co.bang l j hj, Bool.and_eq_true] at this
    exact this.1
  · rw [List.any_eq_false] at hm
    have := hm c h1
    simpa using this
theorem Co.any_rev {m : List Co.C} (hm : (m.any fun x => !Co.may x) = false) : (m.reverse.any fun x => !Co.may x) = false := by rw [List.any_reverse]; exact hm
theorem Co.uni_back {l m x y : List Co.C} (h : Co.uni l m x) (h2 : Co.uni x m.reverse y) : y = x := by
  refine Co.rises_eq y x h2.1 h.1 fun c => ?_
  rw [h2.2, List.mem_reverse]
  constructor
  · rintro (h1 | h1)
    · exact h1
    · exact (h.2 c).2 (.inr h1)
  · exact fun h1 => .inl h1
theorem Co.inL_uni {l m x : List Co.C} (h : Co.uni l m x) (c : Co.C) : Co.inL x c = (Co.inL m c || Co.inL l c) := by
  rw [Bool.eq_iff_iff, Bool.or_eq_true, Co.inL_iff, Co.inL_iff, Co.inL_iff, h.2]
  exact Or.comm
theorem Co.inL_filt (x m : List Co.C) (c : Co.C) : Co.inL (x.filter fun c => !Co.inL m c) c = (!Co.inL m c && Co.inL x c) := by
  rw [Bool.eq_iff_iff, Bool.and_eq_true, Co.inL_iff, Co.inL_iff, List.mem_filter]
  exact And.comm
theorem Co.rises_filt {x : List Co.C} (p : Co.C → Bool) (h : Co.rises x) : Co.rises (x.filter p) := List.Pairwise.filter p h
theorem Co.rev_take (m : List Co.C) (k j : Nat) (h : m.length = k + 1 + j) : m.reverse.take (k + 1) = m.reverse.take k ++ [m[j]'(by omega)] := by
  rw [List.take_succ_eq_append_getElem (by rw [List.length_reverse]; omega)]
  congr 2
  rw [List.getElem_reverse]
  congr 1
  omega
end Go.Proofs.YtgebfgjeckdngaaDoor
