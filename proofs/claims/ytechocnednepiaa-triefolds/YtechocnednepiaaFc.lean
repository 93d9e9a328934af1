import Derived.Test.YtechocnednepiaaFb
import Derived.Test.YtechocnednepiaaL6
/- The law TrieCounts. -/
namespace Go.Proofs.Ytechocnednepiaa
open Go.RowKit

theorem fold_is : ∀ (t : Nt) (c : Pf) (w : World), t ≠ .nil → t.At 89 w → t.ints → (t.list c).length ≤ 1000 →
    Calls Try.prog 47 #[t.ptr, .func (.func 19) #[] #[]] w fun e w' => e = .returned (.int .i64 ((t.list c).length : Nat)) ∧ Below w.heap.size w w' := by
  intro t
  induction t with
  | nil => intro c w h; exact absurd rfl h
  | nd b lo hi v is ih1 ih2 =>
    intro c w _ hl hi' hlen
    obtain ⟨⟨n, rfl⟩, i1, i2⟩ := hi'
    have e : ((Nt.nd b lo hi (.int .i64 n) is).list c).length = (if is then 1 else 0) + ((lo.list (half c false)).length + (hi.list (half c true)).length) := by
      simp only [Nt.list, List.length_append, one_length]
    refine fold_nd (n1 := (lo.list (half c false)).length) (n2 := (hi.list (half c true)).length) hl (by omega) (by omega) (fun h => by rw [h]; rfl) (fun h => by rw [h]; rfl) ?_ (fun hne W hW => ih1 _ W hne (hl.2.1.below hW) i1 (by omega)) (fun hne W hW => ih2 _ W hne (hl.2.2.below hW) i2 (by omega))
    rw [e]
    cases is <;> simp <;> omega
theorem count2_is (v : Value) (is : Bool) (W : World) : Calls Try.prog 23 #[.slice none 0 0, v, .bool is] W fun e w' => e = .returned (.int .i64 1) ∧ w' = W := by
  go_enter Try.func23, Try.ntmps23
  go_wp2_with fail
  refine wp_loop_rounds 1 ?_
  rw [rounds_succ]
  go_wp2_with fail
  go_ret
  exact ⟨rfl, rfl⟩
set_option maxRecDepth 100000 in
theorem foldT_is {z : Value} {w : World} {T : Nat} {t : Nt} (hT : Tri 75 89 z w T t) (hi : t.ints) (hlen : (t.list (0, 0)).length ≤ 1000) :
    Calls Try.prog 20 #[.pointer (some ⟨T, 0, none⟩), .func (.func 19) #[] #[]] w fun e w' => e = .returned (.int .i64 ((t.list (0, 0)).length : Nat)) ∧ Below w.heap.size w w' := by
  obtain ⟨c0, c1, _⟩ := top_cells hT.top
  have hfn := fun w => fn_eql w 45 _ _ _ (.func 19) #[] #[] Try.underlying45
  cases t with
  | nil =>
    simp only [ptr_none] at c0
    have CC := hide (fun W => count_is none 0 [] (.int .i64 0) false W (.inl rfl) (by simp) (fun k => by simp [tot]))
    simp only [Bool.false_eq_true, if_false, List.length_nil] at CC
    clear hT hlen
    go_enter Try.func20, Try.ntmps20
    go_wp2_with fail
    refine (CC.out _).mono ?_
    rintro e w2 ⟨rfl, rfl⟩
    go_wp2_with fail
    go_ret
    exact ⟨by simp [tot, Nt.list], brefl _⟩
  | nd b lo hi v is =>
    have CF := hide (fold_is _ (0, 0) w (by simp) hT.lies hi hlen)
    simp only [ptr_nd] at c0 CF
    clear hT hlen hi
    generalize ((Nt.nd b lo _ v is).list (0, 0)).length = n at *
    go_enter Try.func20, Try.ntmps20
    go_wp2_with fail
    refine CF.out.mono ?_
    rintro e w2 ⟨rfl, hb⟩
    go_wp2_with fail
    go_ret
    exact ⟨rfl, hb⟩
set_option maxRecDepth 100000 in
theorem foldN_is {z : Value} {w : World} {T : Nat} (hT : Tri 75 89 z w T .nil) :
    Calls Try.prog 20 #[.pointer (some ⟨T, 0, none⟩), .func (.func 23) #[] #[]] w fun e w' => e = .returned (.int .i64 1) ∧ w' = w := by
  obtain ⟨c0, c1, _⟩ := top_cells hT.top
  have hfn := fun w => fn_eql w 45 _ _ _ (.func 23) #[] #[] Try.underlying45
  simp only [ptr_none] at c0
  have CC := hide (fun W => count2_is (.int .i64 0) false W)
  clear hT
  go_enter Try.func20, Try.ntmps20
  go_wp2_with fail
  refine (CC.out _).mono ?_
  rintro e w2 ⟨rfl, rfl⟩
  go_wp2_with fail
  go_ret
  exact ⟨rfl, rfl⟩
theorem nil_of {z : Value} : ∀ (t : Nt) (c : Pf) (d : Nat), t.wf z d → t.list c = [] → t = .nil
  | .nil, _, _, _, _ => rfl
  | .nd b lo hi v is, c, d, hw, hl => by
    exfalso
    simp only [Nt.list, List.append_eq_nil_iff] at hl
    have h1 := nil_of lo _ _ hw.2.2.2.1 hl.2.1
    have h2 := nil_of hi _ _ hw.2.2.2.2 hl.2.2
    rcases hw.1 with h | h | h
    · subst h; simp [one] at hl
    · exact h h1
    · exact h h2
/-- While the list's prefixes are dropped, one after the other. -/
structure Dr (w0 w : World) (T : Nat) (t : Nt) (ao : Option Addr) (cap : Nat) (l : Prs) (k : Nat) : Prop where
  tri : Tri 75 89 (.int .i64 0) w T t
  good : Pr.Good w ao cap l
  same : t.list (0, 0) = (l.drop k).map em
  off : ∀ a, ao = some a → a.block ∉ T :: t.own
  base : ∀ k ∈ T :: t.own, w0.heap.size ≤ k
  below : Below w0.heap.size w0 w
theorem Dr.next {w0 w w' : World} {T : Nat} {t : Nt} {ao : Option Addr} {cap : Nat} {l : Prs} {k : Nat} (h : Dr w0 w T t ao cap l k) (hb : Below w.heap.size w w') : Dr w0 w' T t ao cap l k :=
  ⟨h.tri.below hb, h.good.below hb, h.same, h.off, h.base, bthen h.below hb⟩
theorem Dr.drop {w0 w w' : World} {T : Nat} {t t' : Nt} {ao : Option Addr} {cap : Nat} {l : Prs} {k : Nat} (h : Dr w0 w T t ao cap l k) (hk : k < l.length) (hP : DropTo 75 89 (.int .i64 0) w T t l[k].1 w' t') : Dr w0 w' T t' ao cap l (k + 1) ∧ look (t'.list (0, 0)) l[k].1 = none := by
  obtain ⟨v, pre, post, l1, l2⟩ := hP.list
  have hs := Nt.sorted t (0, 0) gd_root h.tri.wf
  have hd : (l.drop k).map em = em l[k] :: (l.drop (k + 1)).map em := by rw [List.drop_eq_getElem_cons hk]; rfl
  rw [l1] at hs
  have hl1 := l1
  rw [h.same, hd] at hl1
  have hpre : pre = [] := by
    cases pre with
    | nil => rfl
    | cons x pre =>
      exfalso
      simp only [List.cons_append, List.cons.injEq] at hl1
      have := (List.pairwise_cons.1 hs).1 (l[k].1, v) (by simp)
      rw [← hl1.1] at this
      exact Lt.irrefl this
  subst hpre
  simp only [List.nil_append, List.cons.injEq] at hl1 l2
  have e2 : t'.list (0, 0) = (l.drop (k + 1)).map em := by rw [l2, hl1.2]
  refine ⟨⟨hP.tri, h.good.kept hP.keep (fun a e => h.off a e), e2, fun a e hm => h.off a e ?_, fun x hx => ?_, hP.keep.below' h.below (fun x hx => h.base x hx) h.below.size⟩, ?_⟩
  · rcases List.mem_cons.1 hm with e3 | e3
    · simp [e3]
    · simp [hP.own _ e3]
  · rcases List.mem_cons.1 hx with rfl | hx
    · exact h.base _ (by simp)
    · exact h.base _ (by simp [hP.own x hx])
  · unfold look
    rw [Option.map_eq_none_iff, List.find?_eq_none]
    intro x hx
    rw [l2] at hx
    have := (List.pairwise_cons.1 hs).1 x hx
    simp only [decide_eq_true_eq]
    exact fun e => Lt.ne this e.symm
set_option maxHeartbeats 8000000 in
set_option maxRecDepth 100000 in
theorem law_counts (ao : Option Addr) (cap : Nat) (os : List Opn) (w : World) (hR : Opn.rowAt w ao os) (hf : Opn.fits os) :
    Calls Try.prog 5 #[.slice ao os.length cap] w fun e w' => e = .returned (.bool true) ∧ Below w.heap.size w w' := by
  have CM := hide (made_is ao cap os w hR hf)
  have CV := hide (fun W => lives_is W)
  clear hR hf
  go_enter Try.func5, Try.ntmps5
  go_wp2_with fail
  refine CM.out.mono ?_
  rintro e w1 ⟨T, t, ao1, cap1, l, rfl, hst, hl⟩
  have HSO := hide hst.sorted
  have D0 : Hid (Dr w w1 T t ao1 cap1 l 0) := ⟨hst.tri, hst.good, by rw [hst.same]; rfl, fun a e => (hst.off a e).1, hst.base, hst.below⟩
  have CF := hide (foldT_is hst.tri hst.ints (by rw [hst.len]; omega))
  have CL := hide (fun W (hW : Below w1.heap.size w1 W) => len_is (hst.next hW).tri)
  rw [hst.len] at CF CL
  clear hst CM
  go_wp2_with fail
  refine CF.out.mono ?_
  rintro e w2 ⟨rfl, hb2⟩
  have B2 := hide hb2
  clear hb2 CF
  go_wp2_with fail
  refine (CL.out _ B2.out).mono ?_
  rintro e w3 ⟨rfl, hw3⟩
  have hw3' := hw3.symm
  clear hw3
  subst hw3'
  go_wp2_with fail
  refine (CL.out _ B2.out).mono ?_
  rintro e w4 ⟨rfl, hw4⟩
  have hw4' := hw4.symm
  clear hw4
  subst hw4'
  have D2 := hide (D0.out.next B2.out)
  clear D0 CL B2
  go_wp2_with fail
  go_loopw [6] (fun v6 wr => ∃ (k : Nat) (t : Nt), k ≤ l.length ∧ v6 = .int .i64 k ∧ Hid (Dr w wr T t ao1 cap1 l k)) (fun v6 _ => l.length - (intOf v6).toNat)
  case atStart => exact ⟨0, t, Nat.zero_le _, rfl, D2⟩
  case round =>
    obtain ⟨k, t, hk, rfl, DK⟩ := hrel
    clear D2
    by_cases hlt : k < l.length
    · have hlt' : (k : Int) < (l.length : Int) := by omega
      obtain ⟨b, off, rfl, r1⟩ : ∃ b off, ao1 = some ⟨b, off, none⟩ ∧ Pr.reads wr b off l := by
        rcases DK.out.good.row with h | h
        · rw [h] at hlt; simp at hlt
        · exact h
      obtain ⟨e0, e1, _⟩ := Pr.reads_at r1 k hlt
      have HGk := hide (HSO.out.2 l[k] (List.getElem_mem hlt))
      have hlook : look (t.list (0, 0)) l[k].1 = some (.int .i64 l[k].2) := by
        rw [DK.out.same, List.drop_eq_getElem_cons hlt, List.map_cons]
        unfold look
        rw [List.find?_cons_of_pos (by simp [em])]
        rfl
      have CD := hide (drop_is DK.out.tri HGk.out hlook (by rw [DK.out.same]; simp; omega))
      have HD := hide (fun w' t' => DK.out.drop (w' := w') (t' := t') hlt)
      have HRD : Hid (∀ w' t', Dr w w' T t' (some ⟨b, off, none⟩) cap1 l (k + 1) → w'.cell? ⟨b, off + k * 3, none⟩ = some (.int .u32 l[k].1.1) ∧ w'.cell? ⟨b, off + k * 3 + 1, none⟩ = some (.int .i64 l[k].1.2)) := fun w' t' h => by
        rcases h.good.row with h | ⟨b', off', h, hr⟩
        · rw [h] at hlt; simp at hlt
        · simp only [Option.some.injEq, Addr.mk.injEq, and_true] at h
          obtain ⟨rfl, rfl⟩ := h
          exact ⟨(Pr.reads_at hr k hlt).1, (Pr.reads_at hr k hlt).2.1⟩
      clear r1 hlook
      unfold pv at CD
      generalize l[k].1 = x at *
      obtain ⟨x0, x1⟩ := x
      go_wp2_with fail
      refine CD.out.mono ?_
      rintro e w5 ⟨rfl, t5, hP⟩
      obtain ⟨hd, hno⟩ := HD.out w5 t5 hP
      have D5 := hide hd
      obtain ⟨e0, e1⟩ := HRD.out w5 t5 hd
      have CN : Hid (Calls Try.prog 22 #[.pointer (some ⟨T, 0, none⟩), .agg #[.int .u32 x0, .int .i64 x1]] w5 fun e w' => e = .returned (.bool false) ∧ Below w5.heap.size w5 w') := by
        refine drop_no (p := (x0, x1)) fun W hW => ?_
        have := get_is (hd.tri.below hW) HGk.out
        rw [hno] at this
        exact this
      clear hP hd hno CD HD HRD
      go_wp2_with fail
      refine CN.out.mono ?_
      rintro e w6 ⟨rfl, hb6⟩
      have D6 := hide (D5.out.next hb6)
      clear hb6 CN D5
      go_wp2_with fail
      exact ⟨⟨k + 1, t5, by omega, by go_num, D6⟩, by simp [intOf]; omega⟩
    · obtain rfl : k = l.length := by omega
      have hnil : t = .nil := nil_of t (0, 0) 32 DK.out.tri.wf (by rw [DK.out.same]; simp)
      subst hnil
      have CN := hide (foldN_is DK.out.tri)
      have CL := hide (len_is DK.out.tri)
      simp only [Nt.list, List.length_nil] at CL
      go_wp2_with fail
      refine CN.out.mono ?_
      rintro e w5 ⟨rfl, hw5⟩
      have hw5' := hw5.symm
      clear hw5
      subst hw5'
      go_wp2_with fail
      refine CL.out.mono ?_
      rintro e w6 ⟨rfl, hw6⟩
      have hw6' := hw6.symm
      clear hw6
      subst hw6'
      go_wp2_with fail
      refine (CV.out _).mono ?_
      rintro e w7 ⟨rfl, hb7⟩
      have B7 := hide (bthen DK.out.below hb7)
      clear hb7
      go_wp2_with fail
      go_ret
      exact ⟨rfl, B7.out⟩
end Go.Proofs.Ytechocnednepiaa
