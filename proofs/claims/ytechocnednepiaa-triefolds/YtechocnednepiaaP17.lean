import Derived.Test.YtechocnednepiaaP16
/- The contract of a trie's Longest. -/
namespace Go.Proofs.Ytechocnednepiaa
open Go.RowKit

/-- What Longest's closure has come by: three variables. -/
structure LongI (L V F : Nat) (m : Option (Pf × Value)) (W : World) : Prop where
  two : Two W L ((m.map Prod.fst).getD (0, 0))
  val : W.heap[V]? = some (.cells #[(m.map Prod.snd).getD (.int .i64 0)] 3 (0, 0))
  fnd : W.heap[F]? = some (.cells #[.bool m.isSome] 4 (0, 0))
  ne : L ≠ V ∧ L ≠ F ∧ V ≠ F
  int : ∀ x, m = some x → ∃ n, x.2 = .int .i64 n
theorem LongI.set {L V F : Nat} {m : Option (Pf × Value)} {W : World} (h : LongI L V F m W) (q : Pf) (n : Int) :
    LongI L V F (some (q, .int .i64 n)) (((((W.setCell ⟨L, 0, none⟩ (.int .u32 q.1)).setCell ⟨L, 1, none⟩ (.int .i64 q.2)).setCell ⟨V, 0, none⟩ (.int .i64 n)).setCell ⟨F, 0, none⟩ (.bool true)).alloc (.cells #[.int .u32 q.1, .int .i64 q.2] 30)).drew ∧
    Keep (fun k => k = L ∨ k = V ∨ k = F) W (((((W.setCell ⟨L, 0, none⟩ (.int .u32 q.1)).setCell ⟨L, 1, none⟩ (.int .i64 q.2)).setCell ⟨V, 0, none⟩ (.int .i64 n)).setCell ⟨F, 0, none⟩ (.bool true)).alloc (.cells #[.int .u32 q.1, .int .i64 q.2] 30)).drew := by
  obtain ⟨ne1, ne2, ne3⟩ := h.ne
  have hL : Two (((W.setCell ⟨L, 0, none⟩ (.int .u32 q.1)).setCell ⟨L, 1, none⟩ (.int .i64 q.2)).setCell ⟨V, 0, none⟩ (.int .i64 n)) L q := (h.two.set q).other (a := ⟨V, 0, none⟩) ne1 _
  have hb : Below _ (((W.setCell ⟨L, 0, none⟩ (.int .u32 q.1)).setCell ⟨L, 1, none⟩ (.int .i64 q.2)).setCell ⟨V, 0, none⟩ (.int .i64 n) |>.setCell ⟨F, 0, none⟩ (.bool true)) _ := (balloc (brefl _) (.cells #[.int .u32 q.1, .int .i64 q.2] 30)).drew
  have hV : (((W.setCell ⟨L, 0, none⟩ (.int .u32 q.1)).setCell ⟨L, 1, none⟩ (.int .i64 q.2)).setCell ⟨V, 0, none⟩ (.int .i64 n)).heap[V]? = some (.cells #[.int .i64 n] 3 (0, 0)) := one_setCell (((heap_setCell_other _ ⟨L, 1, none⟩ V _ (fun e => ne1 e.symm)).trans (heap_setCell_other _ ⟨L, 0, none⟩ V _ (fun e => ne1 e.symm))).trans h.val)
  have hV2 := (heap_setCell_other _ ⟨F, 0, none⟩ V (.bool true) ne3).trans hV
  have hF : (((W.setCell ⟨L, 0, none⟩ (.int .u32 q.1)).setCell ⟨L, 1, none⟩ (.int .i64 q.2)).setCell ⟨V, 0, none⟩ (.int .i64 n)).heap[F]? = W.heap[F]? := by
    rw [heap_setCell_other _ _ _ _ (fun e => ne3 e.symm), heap_setCell_other _ _ _ _ (fun e => ne2 e.symm), heap_setCell_other _ _ _ _ (fun e => ne2 e.symm)]
  have hF2 := one_setCell (u := .bool true) (hF.trans h.fnd)
  refine ⟨⟨(hL.other (a := ⟨F, 0, none⟩) ne2 _).below hb, (hb.block V (lt_of_block hV2)).trans hV2, (hb.block F (lt_of_block hF2)).trans hF2, h.ne, fun x hx => ?_⟩, ?_⟩
  · simp only [Option.some.injEq] at hx
    subst hx
    exact ⟨n, rfl⟩
  · exact ((((((Keep.refl (fun k => k = L ∨ k = V ∨ k = F) W).setCell (p := ⟨L, 0, none⟩) (.inl (.inl rfl)) _).setCell (p := ⟨L, 1, none⟩) (.inl (.inl rfl)) _).setCell (p := ⟨V, 0, none⟩) (.inl (.inr (.inl rfl))) _).setCell (p := ⟨F, 0, none⟩) (.inl (.inr (.inr rfl))) _).alloc _).drew
set_option maxHeartbeats 4000000 in
set_option maxRecDepth 100000 in
theorem longest1_yes {L V F : Nat} {m : Option (Pf × Value)} {W : World} (h : LongI L V F m W) {b : Nat} {lo hi : Nt} {n : Int} (q : Pf) (hb : (Nt.nd b lo hi (.int .i64 n) true).At 89 W) (hbn : b ≠ L ∧ b ≠ V ∧ b ≠ F) :
    Calls Try.prog 51 #[pv q, .pointer (some ⟨b, 0, none⟩), .pointer (some ⟨L, 0, none⟩), .pointer (some ⟨V, 0, none⟩), .pointer (some ⟨F, 0, none⟩)] W fun e w' => e = .returned (.tuple #[]) ∧ LongI L V F (some (q, .int .i64 n)) w' ∧ Keep (fun k => k = L ∨ k = V ∨ k = F) W w' := by
  have H := hide h
  obtain ⟨l0, l1, lf0, lf1⟩ := h.two.cells
  have v0 := cell_of_one h.val
  have v1 := free_of_one h.val
  have f0 := cell_of_one h.fnd
  have f1 := free_of_one h.fnd
  obtain ⟨ne1, ne2, ne3⟩ := h.ne
  have hLl := h.two.lt
  have hVl := lt_of_block h.val
  have hFl := lt_of_block h.fnd
  obtain ⟨n0, n1, n2, n3, nf⟩ := node_cells hb.1
  have hbl := lt_of_block hb.1
  have hbn1 := hbn.1
  have hbn2 := hbn.2.1
  have hbn3 := hbn.2.2
  clear nf n0 n1 hb h hbn
  obtain ⟨q0, q1⟩ := q
  unfold pv
  go_enter Try.func51, Try.ntmps51
  go_wp2_with fail
  go_region
  go_wp2_with fail
  exact bodyPost_end (results_none Try.results51 _ _ _) rfl ⟨rfl, H.out.set (q0, q1) n⟩
theorem longest1_no {u v x : Value} {W : World} {b : Nat} {lo hi : Nt} {y : Value} (q : Pf) (hb : (Nt.nd b lo hi y false).At 89 W) :
    Calls Try.prog 51 #[pv q, .pointer (some ⟨b, 0, none⟩), u, v, x] W fun e w' => e = .returned (.tuple #[]) ∧ Below W.heap.size W w' := by
  obtain ⟨n0, n1, n2, n3, nf⟩ := node_cells hb.1
  have hbl := lt_of_block hb.1
  clear nf n0 n1 n2 hb
  obtain ⟨q0, q1⟩ := q
  unfold pv
  go_enter Try.func51, Try.ntmps51
  go_wp2_with fail
  exact bodyPost_end (results_none Try.results51 _ _ _) rfl ⟨rfl, balloc (brefl W) _⟩
theorem enter51 : ∀ args w, (callFunc 51 args).run Try.prog w = .ok (.enter 51 args) w := by intro args w; go_simp
/-- The last of those that have a value. -/
def lastOf (pre : List (Pf × Nt)) : Option (Pf × Value) := (pre.flatMap Nt.mine).getLast?
/-- Whole numbers alone. -/
def Nt.ints : Nt → Prop
  | .nil => True
  | .nd _ lo hi v _ => (∃ n, v = .int .i64 n) ∧ lo.ints ∧ hi.ints
def LongN (L V F : Nat) (pre : List (Pf × Nt)) (S : Nat → Prop) (W : World) : Prop := (∀ k, S k ↔ k = L ∨ k = V ∨ k = F) ∧ LongI L V F (lastOf pre) W
theorem longest1_nodes (L V F : Nat) : Nodes 89 51 #[.pointer (some ⟨L, 0, none⟩), .pointer (some ⟨V, 0, none⟩), .pointer (some ⟨F, 0, none⟩)] Nt.ints (LongN L V F) where
  call := by
    rintro pre S W ⟨q, n⟩ ⟨hS, hL⟩ hlen hg hn hat hok hs
    cases n with
    | nil => exact absurd rfl hn
    | nd b lo hi u is =>
      cases is
      · refine Calls.mono (longest1_no q hat) ?_
        rintro e w' ⟨rfl, hb⟩
        have e1 : lastOf (pre ++ [(q, Nt.nd b lo hi u false)]) = lastOf pre := by simp [lastOf, Nt.mine, one]
        refine ⟨rfl, S, ⟨hS, ?_⟩, Keep.of hb, fun k hk => .inl hk⟩
        rw [e1]
        exact ⟨hL.two.below hb, (hb.block V (lt_of_block hL.val)).trans hL.val, (hb.block F (lt_of_block hL.fnd)).trans hL.fnd, hL.ne, hL.int⟩
      · obtain ⟨⟨n, rfl⟩, _⟩ := hok
        have hb : ¬ S b := hs b (by simp [Nt.own])
        rw [hS] at hb
        refine Calls.mono (longest1_yes hL q hat ⟨fun e => hb (.inl e), fun e => hb (.inr (.inl e)), fun e => hb (.inr (.inr e))⟩) ?_
        rintro e w' ⟨rfl, h1, h2⟩
        have e1 : lastOf (pre ++ [(q, Nt.nd b lo hi (.int .i64 n) true)]) = some (q, .int .i64 n) := by simp [lastOf, Nt.mine, one]
        refine ⟨rfl, S, ⟨hS, ?_⟩, h2.mono fun k hk => (hS k).2 hk, fun k hk => .inl hk⟩
        rw [e1]
        exact h1
  keep := by
    rintro pre S W W' ⟨hS, hL⟩ hk
    exact ⟨hS, (hk L ((hS L).2 (.inl rfl))).trans hL.two, (hk V ((hS V).2 (.inr (.inl rfl)))).trans hL.val, (hk F ((hS F).2 (.inr (.inr rfl)))).trans hL.fnd, hL.ne, hL.int⟩
  lt := by
    rintro pre S W k ⟨hS, hL⟩ hk
    rcases (hS k).1 hk with rfl | rfl | rfl
    · exact hL.two.lt
    · exact lt_of_block hL.val
    · exact lt_of_block hL.fnd
  hered := fun _ _ _ _ _ h => h.2
/-- What Longest answers. -/
def longs (m : Option (Pf × Value)) : Value := .tuple #[pv ((m.map Prod.fst).getD (0, 0)), (m.map Prod.snd).getD (.int .i64 0), .bool m.isSome]
theorem longI_start (w : World) : LongI (w.heap.size + 1) (w.heap.size + 1 + 1) (w.heap.size + 1 + 1 + 1) none ((((w.alloc (.cells #[.int .u32 0, .int .i64 0] 30)).alloc (.cells #[.int .u32 0, .int .i64 0] 30)).alloc (.cells #[.int .i64 0] 3)).alloc (.cells #[.bool false] 4)) := by
  refine ⟨(two_next w _ (0, 0)).below (balloc (balloc (brefl _) _) _), ?_, ?_, by omega, by simp⟩
  · have := heap_alloc_new ((w.alloc (.cells #[.int .u32 0, .int .i64 0] 30)).alloc (.cells #[.int .u32 0, .int .i64 0] 30)) (.cells #[.int .i64 0] 3)
    rw [size_alloc, size_alloc] at this
    rw [heap_alloc_lt _ _ _ (by simp only [size_alloc]; omega)]
    exact this
  · have := heap_alloc_new (((w.alloc (.cells #[.int .u32 0, .int .i64 0] 30)).alloc (.cells #[.int .u32 0, .int .i64 0] 30)).alloc (.cells #[.int .i64 0] 3)) (.cells #[.bool false] 4)
    rw [size_alloc, size_alloc, size_alloc] at this
    exact this
set_option maxHeartbeats 4000000 in
set_option maxRecDepth 100000 in
theorem longest_by {TV : Value} {a : Int} {m : Option (Pf × Value)} {w : World} (CD0 : ∀ W, Below w.heap.size w W → LongI (w.heap.size + 1) (w.heap.size + 1 + 1) (w.heap.size + 1 + 1 + 1) none W → Calls Try.prog 49 #[TV, .agg #[.int .u32 a, .int .i64 32], .func (.func 51) #[] #[.pointer (some ⟨w.heap.size + 1, 0, none⟩), .pointer (some ⟨w.heap.size + 1 + 1, 0, none⟩), .pointer (some ⟨w.heap.size + 1 + 1 + 1, 0, none⟩)]] W fun e w' => e = .returned (.tuple #[]) ∧ LongI (w.heap.size + 1) (w.heap.size + 1 + 1) (w.heap.size + 1 + 1 + 1) m w' ∧ Keep (fun k => k = w.heap.size + 1 ∨ k = w.heap.size + 1 + 1 ∨ k = w.heap.size + 1 + 1 + 1) W w') :
    Calls Try.prog 25 #[TV, .int .u32 a] w fun e w' => e = .returned (longs m) ∧ Below w.heap.size w w' := by
  have CD := hide CD0
  have HS := hide (longI_start w)
  have HB := hide (balloc (balloc (balloc (balloc (brefl w) (.cells #[.int .u32 0, .int .i64 0] 30)) (.cells #[.int .u32 0, .int .i64 0] 30)) (.cells #[.int .i64 0] 3)) (.cells #[.bool false] 4))
  have HT := hide ((two_new w (0, 0)).below (balloc (balloc (balloc (brefl _) (.cells #[.int .u32 0, .int .i64 0] 30)) (.cells #[.int .i64 0] 3)) (.cells #[.bool false] 4)))
  clear CD0
  obtain ⟨x, hx⟩ : ∃ x : Pf, (m.map Prod.fst).getD (0, 0) = x := ⟨_, rfl⟩
  obtain ⟨x2, hx2⟩ : ∃ x2 : Value, (m.map Prod.snd).getD (.int .i64 0) = x2 := ⟨_, rfl⟩
  obtain ⟨x3, hx3⟩ : ∃ x3 : Bool, m.isSome = x3 := ⟨_, rfl⟩
  have HLO : longs m = .tuple #[.agg #[.int .u32 x.1, .int .i64 x.2], x2, .bool x3] := by unfold longs; rw [hx, hx2, hx3]; rfl
  rw [HLO]
  have HX := hide hx
  have HX2 := hide hx2
  have HX3 := hide hx3
  clear hx hx2 hx3 HLO
  obtain ⟨x0, x1⟩ := x
  go_enter Try.func25, Try.ntmps25
  go_wp2_with fail
  generalize (((w.alloc (.cells #[.int .u32 0, .int .i64 0] 30)).alloc (.cells #[.int .u32 0, .int .i64 0] 30)).alloc (.cells #[.int .i64 0] 3)).alloc (.cells #[.bool false] 4) = W at *
  refine (CD.out _ HB.out HS.out).mono ?_
  rintro e w2 ⟨rfl, hL, hk⟩
  have HB2 := hide (hk.below' HB.out (fun k hk => by omega) HB.out.size)
  have HT2 := hide (HT.out.kept hk (by omega))
  obtain ⟨t0, t1, tf0, tf1⟩ := HT2.out.cells
  obtain ⟨l0, l1, _, _⟩ := hL.two.cells
  have v0 := cell_of_one hL.val
  have f0 := cell_of_one hL.fnd
  rw [HX.out] at l0 l1
  rw [HX2.out] at v0
  rw [HX3.out] at f0
  clear hk hL HS HT HB CD
  go_wp2_with fail
  go_region
  all_goals go_wp2_with fail
  all_goals refine bodyPost_ret (v := .tuple #[.agg #[.int .u32 x0, .int .i64 x1], x2, .bool x3]) (by simp [results, Try.results25, go_sem, t0, t1]) rfl ⟨rfl, ?_⟩
  all_goals exact Below.drew (Below.setCell (Below.setCell HB2.out (p := ⟨w.heap.size, 0, none⟩) (Nat.le_refl _) _) (p := ⟨w.heap.size, 1, none⟩) (Nat.le_refl _) _)
theorem longN_start {L V F : Nat} {W : World} (h : LongI L V F none W) : LongN L V F [] (fun k => k = L ∨ k = V ∨ k = F) W := ⟨fun _ => Iff.rfl, h⟩
theorem longest_is {z : Value} {w : World} {T : Nat} {t : Nt} (hT : Tri 75 89 z w T t) (hok : t.ints) {a : Int} (h0 : 0 ≤ a) (h1 : a ≤ 4294967295) :
    Calls Try.prog 25 #[.pointer (some ⟨T, 0, none⟩), .int .u32 a] w fun e w' => e = .returned (longs ((t.list (0, 0)).filter fun x => decide (In x.1 (a, 32))).getLast?) ∧ Below w.heap.size w w' := by
  have hp := gd_whole h0 h1
  refine longest_by fun W hW hL => ?_
  have hI := longN_start hL
  have hs : ∀ k ∈ T :: t.own, ¬ (k = w.heap.size + 1 ∨ k = w.heap.size + 1 + 1 ∨ k = w.heap.size + 1 + 1 + 1) := fun k hk e => by have := hT.lt k hk; omega
  generalize w.heap.size + 1 = L at *
  generalize L + 1 = V at *
  generalize V + 1 = F at *
  have hd := down_is enter51 (longest1_nodes L V F) (hT.below hW) hI hs hok hp
  unfold pv at hd
  refine Calls.mono hd ?_
  rintro e w' ⟨rfl, S', ⟨_, hL'⟩, hk, _⟩
  refine ⟨rfl, ?_, hk⟩
  have := Nt.path_filter t (0, 0) (a, 32) gd_root hp (in_root hp) hT.wf
  unfold lastOf at hL'
  rw [this] at hL'
  exact hL'
theorem longest_nil (a : Int) (w : World) : Calls Try.prog 25 #[.pointer none, .int .u32 a] w fun e w' => e = .returned (longs none) ∧ Below w.heap.size w w' := by
  refine longest_by fun W hW hL => ?_
  have hd := fun lb => down_nil (a, 32) 51 lb W
  unfold pv at hd
  refine Calls.mono (hd _) ?_
  rintro e w' ⟨rfl, hb⟩
  exact ⟨rfl, ⟨hL.two.below hb, (hb.block _ (lt_of_block hL.val)).trans hL.val, (hb.block _ (lt_of_block hL.fnd)).trans hL.fnd, hL.ne, hL.int⟩, Keep.of hb⟩
end Go.Proofs.Ytechocnednepiaa
