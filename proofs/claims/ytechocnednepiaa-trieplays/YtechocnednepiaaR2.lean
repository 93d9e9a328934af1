import Derived.Test.YtechocnednepiaaC1
import Derived.Test.YtechocnednepiaaE1
import Derived.Test.YtechocnednepiaaF1
/- The contract of the document's Same. -/
namespace Go.Proofs.Ytechocnednepiaa
open Go.RowKit

/-- A slice at which a list lies: none need lie at an empty one. -/
def Ad.rowAt (w : World) (ao : Option Addr) (l : List (Int × Int)) : Prop := l = [] ∨ ∃ b off, ao = some ⟨b, off, none⟩ ∧ Ad.reads w b off l

theorem Ad.rowAt_below {w w' : World} {ao : Option Addr} {l : List (Int × Int)} (h : Ad.rowAt w ao l) (hb : Below w.heap.size w w') : Ad.rowAt w' ao l := by
  rcases h with h | ⟨b, off, h, hr⟩
  · exact .inl h
  · exact .inr ⟨b, off, h, Ad.reads_below hr hb⟩

theorem Ad.rowAt_own {w : World} {B n cap : Nat} {ao : Option Addr} {l : List (Int × Int)} (h : w.ownsRow B 30 2 (.slice ao n cap) n (Ad.cells l)) : Ad.rowAt w ao l := by
  rcases h.2 with ⟨hv, h0⟩ | ⟨g, cap', cur, hv, _⟩
  · left
    have := h.1
    rw [Ad.cells_length, h0] at this
    exact List.length_eq_zero_iff.1 (by omega)
  · right
    simp only [Value.slice.injEq] at hv
    refine ⟨g, 0, hv.1, fun j u hu => ?_⟩
    have hj : j < n * 2 := by have := (List.getElem?_eq_some_iff.1 hu).1; have := h.1; omega
    rw [hv.1] at h
    rw [Nat.zero_add, h.cellAt j hj]
    exact hu

set_option maxHeartbeats 1000000 in
theorem same_len (a1 a2 : Option Addr) (n1 n2 c1 c2 : Nat) (w : World) (h : n1 ≠ n2) :
    Calls Try.prog 32 #[.slice a1 n1 c1, .slice a2 n2 c2] w fun e w' => e = .returned (.bool false) ∧ Below w.heap.size w w' := by
  have hne : ((n1 : Int) != (n2 : Int)) = true := by simp; omega
  go_enter Try.func32, Try.ntmps32
  go_wp2_with fail
  go_ret
  exact ⟨rfl, brefl w⟩

set_option maxHeartbeats 1000000 in
set_option maxRecDepth 100000 in
theorem same_any (a1 a2 : Option Addr) (c1 c2 : Nat) (l1 l2 : List (Int × Int)) (w : World) (hlen : l2.length = l1.length) (hm : l1.length ≤ 1000000) (h1 : Ad.rowAt w a1 l1) (h2 : Ad.rowAt w a2 l2) :
    Calls Try.prog 32 #[.slice a1 l1.length c1, .slice a2 l1.length c2] w fun e w' => e = .returned (.bool (decide (l1 = l2))) ∧ Below w.heap.size w w' := by
  have hne : ((l1.length : Int) != (l1.length : Int)) = false := by simp
  have H1 := hide h1
  have H2 := hide h2
  have HL := hide hlen
  clear h1 h2 hlen
  go_enter Try.func32, Try.ntmps32
  go_wp2_with fail
  go_loopw [5] (fun i wr => ∃ k : Nat, k ≤ l1.length ∧ i = .int .i64 k ∧ (∀ j (h : j < l1.length) (h' : j < l2.length), j < k → l1[j] = l2[j]) ∧ Below w.heap.size w wr) (fun i _ => l1.length - (intOf i).toNat)
  case atStart => exact ⟨0, Nat.zero_le _, rfl, fun j _ _ hj => absurd hj (Nat.not_lt_zero _), brefl w⟩
  case round =>
    obtain ⟨k, hk, rfl, hall, hbr⟩ := hrel
    have HALL := hide hall
    clear hall
    by_cases hlt : k < l1.length
    · have hlt2 : k < l2.length := by have := HL.out; omega
      obtain ⟨b1, o1, rfl, r1⟩ : ∃ b off, a1 = some ⟨b, off, none⟩ ∧ Ad.reads wr b off l1 := by
        rcases Ad.rowAt_below H1.out hbr with h | h
        · rw [h] at hlt; simp at hlt
        · exact h
      obtain ⟨b2, o2, rfl, r2⟩ : ∃ b off, a2 = some ⟨b, off, none⟩ ∧ Ad.reads wr b off l2 := by
        rcases Ad.rowAt_below H2.out hbr with h | h
        · rw [h] at hlt2; simp at hlt2
        · exact h
      obtain ⟨e0, e1⟩ := Ad.reads_at r1 k hlt
      obtain ⟨g0, g1⟩ := Ad.reads_at r2 k hlt2
      clear r1 r2
      generalize hx : l1[k] = x at *
      generalize hy : l2[k] = y at *
      have HX := hide hx
      have HY := hide hy
      clear hx hy
      obtain ⟨a, b⟩ := x
      obtain ⟨c, d⟩ := y
      cases hq : (a == c && b == d)
      · have hq1 : ∀ w, (binOp .neq 30 (.agg #[.int .u32 a, .int .i64 b]) (.agg #[.int .u32 c, .int .i64 d])).run Try.prog w = .ok (.bool true) w := by
          intro w; rw [neqP, hq]; rfl
        have HQ := hide hq
        clear hq
        have hgd := guardP
        go_wp2_with fail
        go_quiet (fail)
        go_wp2_with fail
        go_ret
        refine ⟨ret_bool ?_, below_drewN hbr _⟩
        symm
        rw [decide_eq_false_iff_not]
        intro he
        subst he
        have := HX.out.symm.trans HY.out
        simp only [Prod.mk.injEq] at this
        have hq := HQ.out
        rw [this.1, this.2] at hq
        simp at hq
      · have hq1 : ∀ w, (binOp .neq 30 (.agg #[.int .u32 a, .int .i64 b]) (.agg #[.int .u32 c, .int .i64 d])).run Try.prog w = .ok (.bool false) w := by
          intro w; rw [neqP, hq]; rfl
        have HQ := hide hq
        clear hq
        have hgd := guardP
        go_wp2_with fail
        go_quiet (fail)
        go_wp2_with fail
        refine ⟨⟨k + 1, by omega, by go_num, fun j hj hj' hjk => ?_, below_drewN hbr _⟩, by simp [intOf]; omega⟩
        rcases Nat.lt_succ_iff_lt_or_eq.1 hjk with h1 | rfl
        · exact HALL.out j hj hj' h1
        · rw [HX.out, HY.out]
          have hq := HQ.out
          rw [Bool.and_eq_true, beq_iff_eq, beq_iff_eq] at hq
          rw [hq.1, hq.2]
    · go_wp2_with fail
      go_ret
      refine ⟨ret_bool ?_, hbr⟩
      symm
      rw [decide_eq_true_eq]
      exact List.ext_getElem HL.out.symm fun j hj hj' => HALL.out j hj hj' (by omega)
end Go.Proofs.Ytechocnednepiaa
