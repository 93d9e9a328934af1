import Derived.Test.YtechocnednepiaaL5
/- The law's made and lives. -/
namespace Go.Proofs.Ytechocnednepiaa
open Go.RowKit

/-- A step: its kind, its number, its prefix, its address. -/
abbrev Opn := Int × Int × Pf × Int
def Opn.enc (x : Opn) : List Value := [.int .i64 x.1, .int .i64 x.2.1, .int .u32 x.2.2.1.1, .int .i64 x.2.2.1.2, .int .u32 x.2.2.2]
def Opn.reads (w : World) (b off : Nat) (l : List Opn) : Prop := ∀ i (h : i < l.length), w.cell? ⟨b, off + i * 5, none⟩ = some (.int .i64 l[i].1) ∧ w.cell? ⟨b, off + i * 5 + 1, none⟩ = some (.int .i64 l[i].2.1) ∧ w.cell? ⟨b, off + i * 5 + 2, none⟩ = some (.int .u32 l[i].2.2.1.1) ∧ w.cell? ⟨b, off + i * 5 + 3, none⟩ = some (.int .i64 l[i].2.2.1.2) ∧ w.cell? ⟨b, off + i * 5 + 4, none⟩ = some (.int .u32 l[i].2.2.2)
def Opn.rowAt (w : World) (ao : Option Addr) (l : List Opn) : Prop := l = [] ∨ ∃ b off, ao = some ⟨b, off, none⟩ ∧ b < w.heap.size ∧ Opn.reads w b off l
def Opn.fits (l : List Opn) : Prop := ∀ x ∈ l, (0 ≤ x.2.2.1.1 ∧ x.2.2.1.1 ≤ 4294967295) ∧ (0 ≤ x.2.2.2 ∧ x.2.2.2 ≤ 4294967295)
theorem Opn.reads_below {w w' : World} {b off : Nat} {l : List Opn} (h : Opn.reads w b off l) (hl : b < w.heap.size) (hb : Below w.heap.size w w') : Opn.reads w' b off l := by
  intro i hi
  obtain ⟨h0, h1, h2, h3, h4⟩ := h i hi
  exact ⟨(hb.cell (p := ⟨b, off + i * 5, none⟩) hl).trans h0, (hb.cell (p := ⟨b, off + i * 5 + 1, none⟩) hl).trans h1, (hb.cell (p := ⟨b, off + i * 5 + 2, none⟩) hl).trans h2, (hb.cell (p := ⟨b, off + i * 5 + 3, none⟩) hl).trans h3, (hb.cell (p := ⟨b, off + i * 5 + 4, none⟩) hl).trans h4⟩
theorem rowAt_belowO {w w' : World} {ao : Option Addr} {l : List Opn} (h : Opn.rowAt w ao l) (hb : Below w.heap.size w w') : Opn.rowAt w' ao l := by
  rcases h with h | ⟨b, off, h, hl, hr⟩
  · exact .inl h
  · exact .inr ⟨b, off, h, Nat.lt_of_lt_of_le hl hb.size, Opn.reads_below hr hl hb⟩
/-- What made hands back. -/
def Made (w : World) (e : Ending) (w' : World) : Prop :=
  ∃ (T : Nat) (t : Nt) (ao : Option Addr) (cap : Nat) (l : Prs), e = .returned (.tuple #[.pointer (some ⟨T, 0, none⟩), .slice ao l.length cap]) ∧ St w w' T t ao cap l ∧ l.length ≤ 40
theorem st_new (w : World) : St w (w.alloc (.cells #[.pointer none, .int .i64 0] 75)) w.heap.size .nil none 0 [] :=
  ⟨tri_new 75 89 _ w, ⟨.inl rfl, ⟨fun _ => rfl, fun ad e => (by cases e)⟩, Nat.le_refl _⟩, rfl, fun a e => (by cases e), fun k hk => (by simp [Nt.own] at hk; omega), balloc (brefl w) _, by simp⟩
set_option maxHeartbeats 4000000 in
set_option maxRecDepth 100000 in
theorem made_is (ao : Option Addr) (cap : Nat) (os : List Opn) (w : World) (hR : Opn.rowAt w ao os) (hf : Opn.fits os) :
    Calls Try.prog 14 #[.slice ao os.length cap] w (Made w) := by
  have HR := hide hR
  have HF := hide hf
  have HS := hide (st_new w)
  clear hR hf
  go_enter Try.func14, Try.ntmps14
  go_wp2_with fail
  refine (new_is w).mono ?_
  rintro e w1 ⟨rfl, hw1⟩
  rw [← hw1] at HS
  clear hw1
  generalize w.heap.size = T at HS ⊢
  go_wp2_with fail
  go_loopw [5, 6] (fun v5 v6 wr => ∃ (t : Nt) (ao' : Option Addr) (cap' k : Nat) (l : Prs), v5 = .slice ao' l.length cap' ∧ v6 = .int .i64 k ∧ k ≤ os.length ∧ k ≤ 30 ∧ l.length ≤ k ∧ Hid (St w wr T t ao' cap' l)) (fun _ v6 _ => os.length - (intOf v6).toNat)
  case atStart => exact ⟨.nil, none, 0, 0, [], rfl, rfl, Nat.zero_le _, Nat.zero_le _, Nat.zero_le _, HS⟩
  case round =>
    obtain ⟨t, ao', cap', k, l, rfl, rfl, hk, hk3, hl, ST⟩ := hrel
    clear HS
    by_cases hlt : k < os.length
    · by_cases h30 : k < 30
      · have hlt' : (k : Int) < (os.length : Int) := by omega
        have h30' : (k : Int) < 30 := by omega
        obtain ⟨b, off, rfl, hbl, hr⟩ : ∃ b off, ao = some ⟨b, off, none⟩ ∧ b < w.heap.size ∧ Opn.reads w b off os := by
          rcases HR.out with h | h
          · rw [h] at hlt; simp at hlt
          · exact h
        obtain ⟨e0, e1, e2, e3, e4⟩ := Opn.reads_below hr hbl ST.out.below k hlt
        have HFk := hide (HF.out os[k] (List.getElem_mem hlt))
        generalize os[k] = x at *
        obtain ⟨x0, x1, ⟨x2, x3⟩, x4⟩ := x
        have CS := hide (step_is ST.out x0 x1 x4 (x2, x3) HFk.out.1.1 HFk.out.1.2 (by omega))
        clear hr hbl
        go_wp2_with fail
        refine CS.out.mono ?_
        rintro e w2 ⟨t2, ao2, cap2, l2, rfl, hst, hl2⟩
        have HST := hide hst
        clear hst
        go_wp2_with fail
        exact ⟨⟨t2, ao2, cap2, k + 1, l2, rfl, by go_num, by omega, by omega, by omega, HST⟩, by simp [intOf]; omega⟩
      · go_wp2_with fail
        go_ret2
        exact ⟨T, t, ao', cap', l, rfl, ST.out, by omega⟩
    · go_wp2_with fail
      go_ret2
      exact ⟨T, t, ao', cap', l, rfl, ST.out, by omega⟩
end Go.Proofs.Ytechocnednepiaa

/- The law's lives. -/
namespace Go.Proofs.Ytechocnednepiaa
open Go.RowKit

theorem gd_a : Gd (167772160, 8) := gd_of (by decide) (by decide) (by decide +kernel)
theorem gd_b : Gd (167837696, 16) := gd_of (by decide) (by decide) (by decide +kernel)
theorem in_a : In (167772160, 8) (167838211, 32) := by decide +kernel
theorem in_b : In (167837696, 16) (167838211, 32) := by decide +kernel
theorem lt_ab : Lt (167772160, 8) (167837696, 16) := .inl (by decide)
theorem put_one {yT y : Nat} {z : Value} {w w' : World} {T : Nat} {t' : Nt} {p : Pf} {v : Value} {is : Bool} {pre o post : List (Pf × Value)} (h : PutTo yT y z w T .nil p v is w' t' pre o post) : t'.list (0, 0) = [(p, v)] := by
  have hw := h.was
  simp only [Nt.list] at hw
  have h1 := congrArg List.length hw
  simp only [List.length_nil, List.length_append] at h1
  have a : pre = [] := List.length_eq_zero_iff.1 (by omega)
  have b : post = [] := List.length_eq_zero_iff.1 (by omega)
  rw [h.now, a, b]
  rfl
theorem put_two {yT y : Nat} {z : Value} {w w' : World} {T : Nat} {t t' : Nt} {p q : Pf} {u v : Value} {is : Bool} {pre o post : List (Pf × Value)} (ht : t.list (0, 0) = [(q, u)]) (hl : Lt q p) (h : PutTo yT y z w T t p v is w' t' pre o post) : t'.list (0, 0) = [(q, u), (p, v)] := by
  have hw := h.was
  rw [ht] at hw
  have hs := Nt.sorted t' (0, 0) gd_root h.tri.wf
  have hn := h.now
  rw [hn] at hs
  rcases h.one with ⟨_, rfl⟩ | ⟨_, x, rfl⟩
  · cases pre with
    | nil =>
      simp only [List.nil_append, List.append_nil] at hw hs
      rw [← hw] at hs
      have := (List.pairwise_cons.1 hs).1 (q, u) (by simp)
      exact absurd (hl.trans this) Lt.irrefl
    | cons y pre =>
      have h1 := congrArg List.length hw
      simp only [List.length_cons, List.length_nil, List.length_append, List.append_nil] at h1
      have a : pre = [] := List.length_eq_zero_iff.1 (by omega)
      have b : post = [] := List.length_eq_zero_iff.1 (by omega)
      subst a b
      simp only [List.append_nil, List.cons.injEq, and_true] at hw
      rw [hn, ← hw]
      rfl
  · exfalso
    have h1 := congrArg List.length hw
    simp only [List.length_cons, List.length_nil, List.length_append] at h1
    have a : pre = [] := List.length_eq_zero_iff.1 (by omega)
    have b : post = [] := List.length_eq_zero_iff.1 (by omega)
    subst a b
    simp only [List.nil_append, List.append_nil, List.cons.injEq, Prod.mk.injEq, and_true] at hw
    rw [hw.1] at hl
    exact Lt.irrefl hl
set_option maxHeartbeats 4000000 in
set_option maxRecDepth 100000 in
theorem lives_is (w : World) : Calls Try.prog 13 #[] w fun e w' => e = .returned (.bool true) ∧ Below w.heap.size w w' := by
  go_enter Try.func13, Try.ntmps13
  go_wp2_with fail
  refine (new_is w).mono ?_
  rintro e w1 ⟨rfl, hw1⟩
  have H1 := hide (tri_new 75 89 (.int .i64 0) w)
  have B1 := hide (balloc (brefl w) (.cells #[.pointer none, .int .i64 0] 75))
  rw [← hw1] at H1 B1
  clear hw1
  generalize hT : w.heap.size = T at *
  have HTe := hide hT
  clear hT
  have CP := hide (put_is H1.out gd_a 1 (by simp [Nt.list]))
  unfold pv at CP
  go_wp2_with fail
  refine CP.out.mono ?_
  rintro e w2 ⟨is, t2, pre, o, post, rfl, hP⟩
  have HL2 := hide (put_one hP)
  have B2 : Hid (Below T w w2) := hP.keep.below' B1.out (fun k hk => by simp [Nt.own] at hk; omega) (by have := B1.out.size; have := HTe.out; omega)
  have O2 : Hid (∀ k ∈ T :: t2.own, T ≤ k) := fun k hk => by
    rcases List.mem_cons.1 hk with rfl | hk
    · exact Nat.le_refl _
    · rcases hP.own k hk with e | e
      · simp [Nt.own] at e
      · have := B1.out.size; have := HTe.out; omega
  have H2 := hide hP.tri
  clear hP CP
  have CP := hide (put_is H2.out gd_b 2 (by rw [HL2.out]; simp))
  unfold pv at CP
  go_wp2_with fail
  refine CP.out.mono ?_
  rintro e w3 ⟨is3, t3, pre3, o3, post3, rfl, hP⟩
  have HL3 := hide (put_two HL2.out lt_ab hP)
  have B3 : Hid (Below T w w3) := hP.keep.below' B2.out O2.out (by have := B2.out.size; have := HTe.out; omega)
  have H3 := hide hP.tri
  clear hP CP
  have HI : Hid t3.ints := ints_of ⟨0, rfl⟩ t3 (0, 0) 32 H3.out.wf fun x hx => by
    rw [HL3.out] at hx
    simp only [List.mem_cons, List.not_mem_nil, or_false] at hx
    rcases hx with rfl | rfl
    · exact ⟨1, rfl⟩
    · exact ⟨2, rfl⟩
  have CL := hide (longest_is H3.out HI.out (a := 167838211) (by decide) (by decide))
  have e4 : longs ((t3.list (0, 0)).filter fun x => decide (In x.1 (167838211, 32))).getLast? = .tuple #[.agg #[.int .u32 167837696, .int .i64 16], .int .i64 2, .bool true] := by
    rw [HL3.out]
    simp [in_a, in_b, longs, pv]
  rw [e4] at CL
  clear e4
  have hgd := guardP
  have heq := eq_eq 167837696 16
  go_wp2_with fail
  refine CL.out.mono ?_
  rintro e w4 ⟨rfl, hb4⟩
  have B4 : Hid (Below T w w4) := by
    have h1 := B3.out
    have h2 := HTe.out
    subst h2
    exact bthen h1 hb4
  clear hb4 CL
  go_wp2_with fail
  go_ret
  refine ⟨rfl, ?_⟩
  have h1 := B4.out
  have h2 := HTe.out
  subst h2
  exact balloc h1 _
end Go.Proofs.Ytechocnednepiaa

