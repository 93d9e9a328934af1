import Derived.Test.YtechocnednepiaaP8
/- The contract of a node's without, put together; of a trie's Drop. -/
namespace Go.Proofs.Ytechocnednepiaa
open Go.RowKit

theorem ptr_some (x : Nt) : ∃ xo, x.ptr = .pointer xo := by cases x <;> exact ⟨_, rfl⟩
theorem without_is : ∀ (t : Nt) (c p : Pf) (w : World), t.At 89 w → t.own.Nodup → t.wf (.int .i64 0) (left c) → Gd c → Gd p → In c p → (∃ b lo hi v, t.sub c p = .nd b lo hi v true) →
    Calls Try.prog 48 #[t.ptr, pv c, pv p] w fun e w' => ∃ t' : Nt, e = .returned t'.ptr ∧ Left 89 (.int .i64 0) w t c p w' t' := by
  intro t
  induction t with
  | nil => rintro c p w _ _ _ _ _ _ ⟨b, lo, hi, v, h⟩; simp [Nt.sub] at h
  | nd b lo hi v is ih1 ih2 =>
    rintro c p w hl hn hw hc hp hi' ⟨b', lo', hi'', v', hsub⟩
    have hbl := lt_of_block hl.1
    have hnd := hn
    simp only [Nt.own, List.nodup_cons, List.mem_append, List.nodup_append] at hnd
    by_cases he : c = p
    · subst he
      simp only [Nt.sub, if_true, Nt.nd.injEq] at hsub
      obtain ⟨_, _, _, _, rfl⟩ := hsub
      refine Calls.mono (without_here hl) ?_
      rintro e w' ⟨rfl, rfl⟩
      have hbb : ((((w.setCell ⟨b, 2, none⟩ (.int .i64 0)).setCell ⟨b, 3, none⟩ (.bool false)).alloc (.cells #[.int .u32 c.1, .int .i64 c.2] 30)).alloc (.cells #[.int .u32 c.1, .int .i64 c.2] 30)).heap[b]? = some (.cells #[lo.ptr, hi.ptr, .int .i64 0, .bool false] 89 (0, 0)) := by
        rw [heap_alloc_lt _ _ _ (by rw [size_alloc, size_setCell, size_setCell]; omega), heap_alloc_lt _ _ _ (by rw [size_setCell, size_setCell]; omega)]
        exact node_set3 (node_set2 hl.1 _) _
      obtain ⟨t', h1, h2⟩ := left_here (z := .int .i64 0) hl hn hw (((((Keep.refl _ w).setCell (p := ⟨b, 2, none⟩) (.inl (by simp [Nt.own])) _).setCell (p := ⟨b, 3, none⟩) (.inl (by simp [Nt.own])) _).alloc _).alloc _) (fun k h1 h2 => by
        rw [heap_alloc_lt _ _ _ (by rw [size_alloc, size_setCell, size_setCell]; omega), heap_alloc_lt _ _ _ (by rw [size_setCell, size_setCell]; omega), heap_setCell_other _ _ _ _ h1, heap_setCell_other _ _ _ _ h1]) hbb
      exact ⟨t', by rw [h1], h2⟩
    · have hlt := hi'.lt hc hp he
      have hl31 : c.2 ≤ 31 := by have := hp.2.2.2.1; omega
      have h0 : left c ≠ 0 := by unfold left; omega
      have hs := in_side hc hp hi' he
      simp only [Nt.sub, if_neg he] at hsub
      cases hsd : side c p
      · rw [hsd] at hs hsub
        simp only [Bool.false_eq_true, if_false] at hsub
        refine without_low hl hn hw h0 hc hp hi' he hsd fun W hW => Calls.mono (ih1 (half c false) p W (hl.2.1.below hW) hnd.2.1 (by rw [left_half]; exact hw.2.2.2.1) (gd_half hc hl31 _) hp hs ⟨_, _, _, _, hsub⟩) ?_
        rintro e w' ⟨x, rfl, hx⟩
        obtain ⟨xo, hxo⟩ := ptr_some x
        exact ⟨x, xo, by rw [hxo], hxo, hx, ((hx.keep.block b (fun e => hnd.1 (.inl e)) (Nat.lt_of_lt_of_le hbl hW.size)).trans (hW.block b hbl)).trans hl.1⟩
      · rw [hsd] at hs hsub
        simp only [if_true] at hsub
        refine without_high hl hn hw h0 hc hp hi' he hsd fun W hW => Calls.mono (ih2 (half c true) p W (hl.2.2.below hW) hnd.2.2.1 (by rw [left_half]; exact hw.2.2.2.2) (gd_half hc hl31 _) hp hs ⟨_, _, _, _, hsub⟩) ?_
        rintro e w' ⟨x, rfl, hx⟩
        obtain ⟨xo, hxo⟩ := ptr_some x
        exact ⟨x, xo, by rw [hxo], hxo, hx, ((hx.keep.block b (fun e => hnd.1 (.inr e)) (Nat.lt_of_lt_of_le hbl hW.size)).trans (hW.block b hbl)).trans hl.1⟩

theorem drop_no {T : Nat} {p : Pf} {w : World} (CG : ∀ W, Below w.heap.size w W → Calls Try.prog 27 #[.pointer (some ⟨T, 0, none⟩), pv p] W fun e w' => e = .returned (gets (.int .i64 0) none) ∧ Below W.heap.size W w') :
    Calls Try.prog 22 #[.pointer (some ⟨T, 0, none⟩), pv p] w fun e w' => e = .returned (.bool false) ∧ Below w.heap.size w w' := by
  have HG := hide CG
  clear CG
  obtain ⟨p0, p1⟩ := p
  unfold pv gets at *
  go_enter Try.func22, Try.ntmps22
  go_wp2_with fail
  refine (HG.out _ (balloc (brefl w) _)).mono ?_
  rintro e w1 ⟨rfl, hb⟩
  simp only [Option.getD_none, Option.isSome_none]
  go_wp2_with fail
  go_ret
  exact ⟨rfl, bthen (balloc (brefl w) _) hb⟩
theorem drop_nil (p : Pf) (w : World) : Calls Try.prog 22 #[.pointer none, pv p] w fun e w' => e = .returned (.bool false) ∧ Below w.heap.size w w' := by
  have HG := hide (fun W => get_nil p W)
  obtain ⟨p0, p1⟩ := p
  unfold pv gets at *
  go_enter Try.func22, Try.ntmps22
  go_wp2_with fail
  refine (HG.out _).mono ?_
  rintro e w1 ⟨rfl, hb⟩
  simp only [Option.getD_none, Option.isSome_none]
  go_wp2_with fail
  go_ret
  exact ⟨rfl, bthen (balloc (brefl w) _) hb⟩
/-- A prefix's value is taken away. -/
structure DropTo (yT y : Nat) (z : Value) (w : World) (T : Nat) (t : Nt) (p : Pf) (w' : World) (t' : Nt) : Prop where
  list : ∃ (v : Value) (pre post : List (Pf × Value)), t.list (0, 0) = pre ++ (p, v) :: post ∧ t'.list (0, 0) = pre ++ post
  tri : Tri yT y z w' T t'
  keep : Keep (fun k => k ∈ T :: t.own) w w'
  own : ∀ k ∈ t'.own, k ∈ t.own
theorem drop_to {yT y : Nat} {z : Value} {w w1 w2 : World} {T : Nat} {t x : Nt} {p : Pf} {n : Int} (hT : Tri yT y z w T t) (hb : Below w.heap.size w w1) (hL : Left y z w1 t (0, 0) p w2 x) (hn : n = ((t.list (0, 0)).length : Int) - 1) :
    DropTo yT y z w T t p ((w2.setCell ⟨T, 0, none⟩ x.ptr).setCell ⟨T, 1, none⟩ (.int .i64 n)) x := by
  have hTl := hT.lt T (by simp)
  obtain ⟨hnd, hnd2⟩ := List.nodup_cons.1 hT.apart
  have hTx : T ∉ x.own := fun e => hnd (hL.own T e)
  have htop : w2.heap[T]? = _ := ((hL.keep.block T hnd (Nat.lt_of_lt_of_le hTl hb.size)).trans (hb.block T hTl)).trans hT.top
  obtain ⟨v, pre, post, l1, l2⟩ := hL.list
  have s1 := heap_setCell_same w2 T 0 _ yT x.ptr htop
  have s2 := heap_setCell_same _ T 1 _ yT (.int .i64 n) s1
  refine ⟨⟨v, pre, post, l1, l2⟩, ⟨?_, hL.lies.keep fun k hk => ?_, List.nodup_cons.2 ⟨hTx, hL.nod⟩, hL.wf⟩, ?_, hL.own⟩
  · rw [s2, l2]
    have : n = ((pre ++ post).length : Nat) := by rw [hn, l1]; simp; omega
    rw [this]
    rfl
  · have hne : k ≠ T := fun e => hTx (e ▸ hk)
    rw [heap_setCell_other _ _ _ _ hne, heap_setCell_other _ _ _ _ hne]
  · exact (((Keep.of hb).trans (hL.keep.mono fun k hk => by simp [hk])).setCell (p := ⟨T, 0, none⟩) (.inl (by simp)) _).setCell (p := ⟨T, 1, none⟩) (.inl (by simp)) _
theorem drop_top {yT y : Nat} {z : Value} {w w1 w2 : World} {T : Nat} {t x : Nt} {p : Pf} (hT : Tri yT y z w T t) (hb : Below w.heap.size w w1) (hL : Left y z w1 t (0, 0) p w2 x) : w2.heap[T]? = some (.cells #[t.ptr, .int .i64 ((t.list (0, 0)).length : Nat)] yT (0, 0)) :=
  ((hL.keep.block T (List.nodup_cons.1 hT.apart).1 (Nat.lt_of_lt_of_le (hT.lt T (by simp)) hb.size)).trans (hb.block T (hT.lt T (by simp)))).trans hT.top
set_option maxHeartbeats 8000000 in
set_option maxRecDepth 100000 in
theorem drop_is {w : World} {T : Nat} {t : Nt} (hT : Tri 75 89 (.int .i64 0) w T t) {p : Pf} (hp : Gd p) {v : Value} (hv : look (t.list (0, 0)) p = some v) (hlen : (t.list (0, 0)).length ≤ 1000000) :
    Calls Try.prog 22 #[.pointer (some ⟨T, 0, none⟩), pv p] w fun e w' => e = .returned (.bool true) ∧ ∃ t', DropTo 75 89 (.int .i64 0) w T t p w' t' := by
  have CG := hide (fun W (hW : Below w.heap.size w W) => get_is (hT.below hW) hp)
  rw [hv] at CG
  have hsub := Nt.sub_look t (0, 0) p gd_root hp (in_root hp) hT.wf
  rw [hv] at hsub
  have HS : Hid (∃ b lo hi v, t.sub (0, 0) p = .nd b lo hi v true) := by
    show ∃ b lo hi v, t.sub (0, 0) p = .nd b lo hi v true
    cases hs : t.sub (0, 0) p with
    | nil => rw [hs] at hsub; simp at hsub
    | nd b lo hi u is =>
      rw [hs] at hsub
      cases is
      · simp at hsub
      · exact ⟨b, lo, hi, u, rfl⟩
  have HT := hide hT
  have CW := hide (fun W (hW : Below w.heap.size w W) => without_is t (0, 0) p W (hT.lies.below hW) (List.nodup_cons.1 hT.apart).2 hT.wf gd_root hp (in_root hp) HS.out)
  obtain ⟨len, hl⟩ : ∃ len, len = (t.list (0, 0)).length := ⟨_, rfl⟩
  rw [← hl] at hlen
  have HL := hide hl
  have FIN := hide (fun w1 w2 x n (hb : Below w.heap.size w w1) hL hn => drop_to (x := x) (w1 := w1) (w2 := w2) (p := p) (n := n) hT hb hL hn)
  have HTO := hide (List.nodup_cons.1 hT.apart).1
  have hTl := hT.lt T (by simp)
  cases t with
  | nil => simp [Nt.list, look] at hv
  | nd b lo hi u is =>
    clear hT hp hv hl hsub
    obtain ⟨p0, p1⟩ := p
    unfold pv gets at *
    simp only [Option.getD_some, Option.isSome_some, ptr_nd] at CG CW
    go_enter Try.func22, Try.ntmps22
    go_wp2_with fail
    refine (CG.out _ (balloc (brefl w) _)).mono ?_
    rintro e w1 ⟨rfl, hb⟩
    have HB := hide (bthen (balloc (brefl w) _) hb)
    obtain ⟨d0, d1, _, _⟩ := ((two_new w (p0, p1)).below hb).cells
    have htop := HT.out.top
    rw [← HL.out] at htop
    obtain ⟨t0, t1, tf⟩ := top_cells ((HB.out.block T hTl).trans htop)
    simp only [ptr_nd] at t0
    clear hb CG tf htop
    go_wp2_with fail
    go_region_with (go_at_call 48; refine (CW.out _ HB.out.drew).mono ?_; rintro e w3 ⟨x, he, hLx⟩; obtain ⟨xo, hxo⟩ := ptr_some x; rw [hxo] at he; subst he; have HXO := hide hxo; have HLx := hide hLx; obtain ⟨m0, m1, mf⟩ := top_cells (drop_top HT.out HB.out.drew hLx); have mf0 := mf 0; have mf1 := mf 1; rw [← HL.out] at m1; clear hLx mf hxo)
    all_goals go_wp2_with fail
    all_goals go_ret
    all_goals
      have h := FIN.out _ _ x ((len : Int) - 1) HB.out.drew HLx.out (by rw [← HL.out])
      rw [HXO.out] at h
      exact ⟨rfl, x, h⟩
end Go.Proofs.Ytechocnednepiaa
