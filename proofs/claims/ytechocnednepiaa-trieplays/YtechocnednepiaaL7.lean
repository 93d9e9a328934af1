/- The law's lives. -/
import Derived.Test.YtechocnednepiaaL5
namespace Go.Proofs.Ytechocnednepiaa
open Go.RowKit

theorem gd_a : Gd (167772160, 8) := gd_of (by decide) (by decide) (by decide +kernel)
theorem gd_b : Gd (167837696, 16) := gd_of (by decide) (by decide) (by decide +kernel)
theorem in_a : In (167772160, 8) (167838211, 32) := by decide +kernel
theorem in_b : In (167837696, 16) (167838211, 32) := by decide +kernel
theorem lt_ab : Lt (167772160, 8) (167837696, 16) := .inl (by decide)
theorem put_one {yT y : Nat} {z : Value} {w w' : World} {T : Nat} {t' : Nt} {p : Pf} {v : Value} {is : Bool} {pre o post : List (Pf × Value)} (h : PutTo yT y z w T .nil p v is w' t' pre o post) : t'.list (0, 0) = [(p, v)] := by
  have hw := h.was
  simp only [Nt.list] at hw
  have h1 := congrArg List.length hw
  simp only [List.length_nil, List.length_append] at h1
  have a : pre = [] := List.length_eq_zero_iff.1 (by omega)
  have b : post = [] := List.length_eq_zero_iff.1 (by omega)
  rw [h.now, a, b]
  rfl
theorem put_two {yT y : Nat} {z : Value} {w w' : World} {T : Nat} {t t' : Nt} {p q : Pf} {u v : Value} {is : Bool} {pre o post : List (Pf × Value)} (ht : t.list (0, 0) = [(q, u)]) (hl : Lt q p) (h : PutTo yT y z w T t p v is w' t' pre o post) : t'.list (0, 0) = [(q, u), (p, v)] := by
  have hw := h.was
  rw [ht] at hw
  have hs := Nt.sorted t' (0, 0) gd_root h.tri.wf
  have hn := h.now
  rw [hn] at hs
  rcases h.one with ⟨_, rfl⟩ | ⟨_, x, rfl⟩
  · cases pre with
    | nil =>
      simp only [List.nil_append, List.append_nil] at hw hs
      rw [← hw] at hs
      have := (List.pairwise_cons.1 hs).1 (q, u) (by simp)
      exact absurd (hl.trans this) Lt.irrefl
    | cons y pre =>
      have h1 := congrArg List.length hw
      simp only [List.length_cons, List.length_nil, List.length_append, List.append_nil] at h1
      have a : pre = [] := List.length_eq_zero_iff.1 (by omega)
      have b : post = [] := List.length_eq_zero_iff.1 (by omega)
      subst a b
      simp only [List.append_nil, List.cons.injEq, and_true] at hw
      rw [hn, ← hw]
      rfl
  · exfalso
    have h1 := congrArg List.length hw
    simp only [List.length_cons, List.length_nil, List.length_append] at h1
    have a : pre = [] := List.length_eq_zero_iff.1 (by omega)
    have b : post = [] := List.length_eq_zero_iff.1 (by omega)
    subst a b
    simp only [List.nil_append, List.append_nil, List.cons.injEq, Prod.mk.injEq, and_true] at hw
    rw [hw.1] at hl
    exact Lt.irrefl hl
set_option maxHeartbeats 4000000 in
set_option maxRecDepth 100000 in
theorem lives_is (w : World) : Calls Try.prog 13 #[] w fun e w' => e = .returned (.bool true) ∧ Below w.heap.size w w' := by
  go_enter Try.func13, Try.ntmps13
  go_wp2_with fail
  refine (new_is w).mono ?_
  rintro e w1 ⟨rfl, hw1⟩
  have H1 := hide (tri_new 75 89 (.int .i64 0) w)
  have B1 := hide (balloc (brefl w) (.cells #[.pointer none, .int .i64 0] 75))
  rw [← hw1] at H1 B1
  clear hw1
  generalize hT : w.heap.size = T at *
  have HTe := hide hT
  clear hT
  have CP := hide (put_is H1.out gd_a 1 (by simp [Nt.list]))
  unfold pv at CP
  go_wp2_with fail
  refine CP.out.mono ?_
  rintro e w2 ⟨is, t2, pre, o, post, rfl, hP⟩
  have HL2 := hide (put_one hP)
  have B2 : Hid (Below T w w2) := hP.keep.below' B1.out (fun k hk => by simp [Nt.own] at hk; omega) (by have := B1.out.size; have := HTe.out; omega)
  have O2 : Hid (∀ k ∈ T :: t2.own, T ≤ k) := fun k hk => by
    rcases List.mem_cons.1 hk with rfl | hk
    · exact Nat.le_refl _
    · rcases hP.own k hk with e | e
      · simp [Nt.own] at e
      · have := B1.out.size; have := HTe.out; omega
  have H2 := hide hP.tri
  clear hP CP
  have CP := hide (put_is H2.out gd_b 2 (by rw [HL2.out]; simp))
  unfold pv at CP
  go_wp2_with fail
  refine CP.out.mono ?_
  rintro e w3 ⟨is3, t3, pre3, o3, post3, rfl, hP⟩
  have HL3 := hide (put_two HL2.out lt_ab hP)
  have B3 : Hid (Below T w w3) := hP.keep.below' B2.out O2.out (by have := B2.out.size; have := HTe.out; omega)
  have H3 := hide hP.tri
  clear hP CP
  have HI : Hid t3.ints := ints_of ⟨0, rfl⟩ t3 (0, 0) 32 H3.out.wf fun x hx => by
    rw [HL3.out] at hx
    simp only [List.mem_cons, List.not_mem_nil, or_false] at hx
    rcases hx with rfl | rfl
    · exact ⟨1, rfl⟩
    · exact ⟨2, rfl⟩
  have CL := hide (longest_is H3.out HI.out (a := 167838211) (by decide) (by decide))
  have e4 : longs ((t3.list (0, 0)).filter fun x => decide (In x.1 (167838211, 32))).getLast? = .tuple #[.agg #[.int .u32 167837696, .int .i64 16], .int .i64 2, .bool true] := by
    rw [HL3.out]
    simp [in_a, in_b, longs, pv]
  rw [e4] at CL
  clear e4
  have hgd := guardP
  have heq := eq_eq 167837696 16
  go_wp2_with fail
  refine CL.out.mono ?_
  rintro e w4 ⟨rfl, hb4⟩
  have B4 : Hid (Below T w w4) := by
    have h1 := B3.out
    have h2 := HTe.out
    subst h2
    exact bthen h1 hb4
  clear hb4 CL
  go_wp2_with fail
  go_ret
  refine ⟨rfl, ?_⟩
  have h1 := B4.out
  have h2 := HTe.out
  subst h2
  exact balloc h1 _
end Go.Proofs.Ytechocnednepiaa
