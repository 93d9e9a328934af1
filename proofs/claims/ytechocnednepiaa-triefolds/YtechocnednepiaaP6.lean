import Derived.Test.YtechocnednepiaaP5
/- The contract of a trie's Put. -/
namespace Go.Proofs.Ytechocnednepiaa
open Go.RowKit

/-- A prefix's value is put: what lies ahead, what it had, what lies behind. -/
structure PutTo (yT y : Nat) (z : Value) (w : World) (T : Nat) (t : Nt) (p : Pf) (v : Value) (is : Bool) (w' : World) (t' : Nt) (pre o post : List (Pf × Value)) : Prop where
  was : t.list (0, 0) = pre ++ o ++ post
  one : (is = false ∧ o = []) ∨ (is = true ∧ ∃ x, o = [(p, x)])
  now : t'.list (0, 0) = pre ++ (p, v) :: post
  tri : Tri yT y z w' T t'
  keep : Keep (fun k => k ∈ T :: t.own) w w'
  own : ∀ k ∈ t'.own, k ∈ t.own ∨ w.heap.size ≤ k
theorem Gr.put {yT y : Nat} {z : Value} {w : World} {T : Nat} {t t0 : Nt} {P A : Nat} {p : Pf} {wr : World} {b : Nat} {lo hi : Nt} {v0 : Value} {is : Bool} {cx : List Nat} {pre post : List (Pf × Value)} (hTr : T ∉ t.own) (h : Gr yT y z w T t t0 P A p wr (.nd b lo hi v0 is) p p cx pre post (kidsOk z (left p) (.nd b lo hi v0 is))) (v : Value) (w2 : World) (n : Int)
    (hk : ∀ k, k ≠ b → k ≠ T → k < wr.heap.size → w2.heap[k]? = wr.heap[k]?) (hb : w2.heap[b]? = some (.cells #[lo.ptr, hi.ptr, v, .bool true] y (0, 0))) (ht : w2.heap[T]? = some (.cells #[t0.ptr, .int .i64 n] yT (0, 0))) (hn : n = ((t.list (0, 0)).length : Nat) + (if is then 0 else 1)) (hkp : Keep (fun k => k = b ∨ k = T) wr w2) :
    ∃ (t' : Nt) (pre o post : List (Pf × Value)), PutTo yT y z w T t p v is w2 t' pre o post := by
  have hnd := h.nod
  simp only [Nt.own, List.nodup_cons, List.mem_append, List.nodup_append] at hnd
  obtain ⟨k1, k2, k3, k4⟩ := h.kids
  have hob := h.old b (.inl (by simp [Nt.own]))
  obtain ⟨t', q1, q2, q3, q4, q5, q6⟩ := h.wand (.nd b lo hi v true) w2 ⟨hb, h.lies.2.1.keep fun k hm => hk k (fun e => hnd.1 (.inl (e ▸ hm))) (h.old k (.inl (by simp [Nt.own, hm]))).2.2.2.2 (h.lies.2.1.lt k hm), h.lies.2.2.keep fun k hm => hk k (fun e => hnd.1 (.inr (e ▸ hm))) (h.old k (.inl (by simp [Nt.own, hm]))).2.2.2.2 (h.lies.2.2.lt k hm)⟩ rfl h.nod (fun k hm => h.off k hm) ⟨.inl rfl, by simp, k2, k3, k4⟩ (fun k hm => hk k (fun e => h.off b (by simp [Nt.own]) (e ▸ hm)) (h.old k (.inr hm)).2.2.2.2 (h.old k (.inr hm)).2.1)
  have hown : ∀ k ∈ t'.own, (k ∈ t.own ∨ w.heap.size ≤ k) ∧ k ≠ T := fun k hm => by
    rcases q4 k hm with e | e
    · exact ⟨(h.old k (.inr e)).1, (h.old k (.inr e)).2.2.2.2⟩
    · have := h.old k (.inl e)
      exact ⟨this.1, this.2.2.2.2⟩
  have hl := h.list
  refine ⟨t', pre, Go.Proofs.Ytechocnednepiaa.one is p v0, (lo.list (half p false) ++ hi.list (half p true)) ++ post, by rw [hl]; simp [Nt.list], ?_, by rw [q6]; simp [Nt.list, Go.Proofs.Ytechocnednepiaa.one], ⟨?_, q1, ?_, q5⟩, ?_, fun k hm => (hown k hm).1⟩
  · cases is
    · exact .inl ⟨rfl, rfl⟩
    · exact .inr ⟨rfl, v0, rfl⟩
  · rw [ht, q2]
    congr 4
    rw [hn, hl, q6]
    cases is <;> simp [Nt.list, Go.Proofs.Ytechocnednepiaa.one] <;> omega
  · rw [List.nodup_cons]
    exact ⟨fun e => (hown T e).2 rfl, q3⟩
  · refine h.keep.trans' hkp fun i hi => ?_
    rcases hi with rfl | rfl
    · rcases hob.1 with e | e
      · exact .inl (by simp [e])
      · exact .inr e
    · exact .inl (by simp)
theorem PutTo.back {yT y : Nat} {z : Value} {w w1 : World} {T : Nat} {t : Nt} {p : Pf} {v : Value} {is : Bool} {w' : World} {t' : Nt} {pre o post : List (Pf × Value)} (h : PutTo yT y z w1 T t p v is w' t' pre o post) (hb : Below w.heap.size w w1) : PutTo yT y z w T t p v is w' t' pre o post :=
  ⟨h.was, h.one, h.now, h.tri, (Keep.of hb).trans h.keep, fun k hk => by
    rcases h.own k hk with e | e
    · exact .inl e
    · exact .inr (Nat.le_trans hb.size e)⟩
theorem put_nil (p : Pf) (v : Int) (w : World) : Calls Try.prog 33 #[.pointer none, pv p, .int .i64 v] w fun e w' => e = .returned (.tuple #[.bool false, .int .i64 1]) ∧ Below w.heap.size w w' := by
  obtain ⟨p0, p1⟩ := p
  unfold pv
  go_enter Try.func33, Try.ntmps33
  go_wp2_with fail
  go_ret2
  exact ⟨rfl, balloc (brefl w) _⟩
theorem put_bad (T : Nat) (p : Pf) (v : Int) (w : World) (h0 : 0 ≤ p.1) (h1 : p.1 ≤ 4294967295) (hm : Ad.may p.1 p.2 = false) : Calls Try.prog 33 #[.pointer (some ⟨T, 0, none⟩), pv p, .int .i64 v] w fun e w' => e = .returned (.tuple #[.bool false, .int .i64 1]) ∧ Below w.heap.size w w' := by
  obtain ⟨p0, p1⟩ := p
  unfold pv
  go_enter Try.func33, Try.ntmps33
  go_wp2_with fail
  refine (may_is p0 p1 false hm _ h0 h1).mono ?_
  rintro e w1 ⟨rfl, hb1⟩
  go_wp2_with fail
  go_ret2
  exact ⟨rfl, bthen (balloc (brefl w) _) hb1⟩
set_option maxHeartbeats 4000000 in
theorem put_is {w : World} {T : Nat} {t : Nt} (hT : Tri 75 89 (.int .i64 0) w T t) {p : Pf} (hp : Gd p) (v : Int) (hlen : (t.list (0, 0)).length ≤ 1000000) :
    Calls Try.prog 33 #[.pointer (some ⟨T, 0, none⟩), pv p, .int .i64 v] w fun e w' => ∃ (is : Bool) (t' : Nt) (pre o post : List (Pf × Value)), e = .returned (.tuple #[.bool is, .int .i64 0]) ∧ PutTo 75 89 (.int .i64 0) w T t p (.int .i64 v) is w' t' pre o post := by
  have HT := hide hT
  have HP := hide hp
  clear hT hp
  obtain ⟨p0, p1⟩ := p
  unfold pv
  go_enter Try.func33, Try.ntmps33
  go_wp2_with fail
  refine (may_is p0 p1 true HP.out.may _ HP.out.1 HP.out.2.1).mono ?_
  rintro e w1 ⟨rfl, hb1⟩
  have B1 := hide (bthen (balloc (brefl w) _) hb1)
  have T1 := hide ((two_new w (p0, p1)).below hb1)
  obtain ⟨d0, d1, _, _⟩ := T1.out.cells
  have CG := hide (grow_is (HT.out.below B1.out) HP.out)
  clear hb1
  go_wp2_with fail
  refine CG.out.mono ?_
  rintro e w2 ⟨t0, s, P, A, cx, pre, post, rfl, hG⟩
  cases s with
  | nil => exact absurd hG.kids id
  | nd b lo hi v0 is =>
    have HG := hide hG
    obtain ⟨n0, n1, n2, n3, nf⟩ := node_cells hG.lies.1
    obtain ⟨c0, c1, cf⟩ := top_cells hG.top
    have nf2 := nf 2
    have nf3 := nf 3
    have cf1 := cf 1
    have hbT : b ≠ T := (hG.old b (.inl (by simp [Nt.own]))).2.2.2.2
    have hTb : T ≠ b := fun e => hbT e.symm
    obtain ⟨len, hl⟩ : ∃ len, len = (t.list (0, 0)).length := ⟨_, rfl⟩
    rw [← hl] at c1 hlen
    have HL := hide hl
    have HNod := hide (List.nodup_cons.1 HT.out.apart).1
    clear hl
    clear hG nf cf c0 n0 n1 d0 d1 T1
    simp only [ptr_nd]
    cases is
    · go_wp2_with fail
      go_ret2
      obtain ⟨t', a1, a2, a3, h⟩ := HG.out.put HNod.out (.int .i64 v) (((w2.setCell ⟨T, 1, none⟩ (.int .i64 ((len : Int) + 1))).setCell ⟨b, 2, none⟩ (.int .i64 v)).setCell ⟨b, 3, none⟩ (.bool true)) ((len : Int) + 1)
        (fun k h1 h2 h3 => by rw [heap_setCell_other _ _ _ _ h1, heap_setCell_other _ _ _ _ h1, heap_setCell_other _ _ _ _ h2])
        (node_set3 (node_set2 ((heap_setCell_other _ _ _ _ hbT).trans HG.out.lies.1) _) _)
        (by rw [heap_setCell_other _ _ _ _ hTb, heap_setCell_other _ _ _ _ hTb]; exact heap_setCell_same w2 T 1 _ 75 _ HG.out.top)
        (by rw [← HL.out]; simp) ((((Keep.refl (fun k => k = b ∨ k = T) w2).setCell (p := ⟨T, 1, none⟩) (.inl (.inr rfl)) _).setCell (p := ⟨b, 2, none⟩) (.inl (.inl rfl)) _).setCell (p := ⟨b, 3, none⟩) (.inl (.inl rfl)) _)
      exact ⟨false, t', a1, a2, a3, rfl, h.back B1.out⟩
    · go_wp2_with fail
      go_ret2
      obtain ⟨t', a1, a2, a3, h⟩ := HG.out.put HNod.out (.int .i64 v) ((w2.setCell ⟨b, 2, none⟩ (.int .i64 v)).setCell ⟨b, 3, none⟩ (.bool true)) (len : Int)
        (fun k h1 h2 h3 => by rw [heap_setCell_other _ _ _ _ h1, heap_setCell_other _ _ _ _ h1])
        (node_set3 (node_set2 HG.out.lies.1 _) _)
        (by rw [heap_setCell_other _ _ _ _ hTb, heap_setCell_other _ _ _ _ hTb, HL.out]; exact HG.out.top)
        (by rw [← HL.out]; simp) (((Keep.refl (fun k => k = b ∨ k = T) w2).setCell (p := ⟨b, 2, none⟩) (.inl (.inl rfl)) _).setCell (p := ⟨b, 3, none⟩) (.inl (.inl rfl)) _)
      exact ⟨true, t', a1, a2, a3, rfl, h.back B1.out⟩
end Go.Proofs.Ytechocnednepiaa
