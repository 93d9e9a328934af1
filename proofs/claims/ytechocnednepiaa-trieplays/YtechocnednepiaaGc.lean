import Derived.Test.YtechocnednepiaaL10
/- The law's same. -/
namespace Go.Proofs.Ytechocnednepiaa
open Go.RowKit

/-- What same's closure has come by: all is right so far; how many; the list. -/
structure Sm (K J L : Nat) (b off cap : Nat) (l : Prs) (n : Nat) (W : World) : Prop where
  ok : W.heap[K]? = some (.cells #[.bool true] 4 (0, 0))
  cnt : W.heap[J]? = some (.cells #[.int .i64 (n : Nat)] 3 (0, 0))
  lst : W.heap[L]? = some (.cells #[.slice (some ⟨b, off, none⟩) l.length cap] 25 (0, 0))
  row : Pr.reads W b off l
  hb : b < W.heap.size
  ne : K ≠ J ∧ K ≠ L ∧ J ≠ L ∧ K ≠ b ∧ J ≠ b ∧ L ≠ b
theorem Sm.keep {K J L b off cap : Nat} {l : Prs} {n : Nat} {W W' : World} (h : Sm K J L b off cap l n W) (hk : ∀ k, k = K ∨ k = J ∨ k = L ∨ k = b → W'.heap[k]? = W.heap[k]?) : Sm K J L b off cap l n W' := by
  have hbb := hk b (.inr (.inr (.inr rfl)))
  have hl : b < W'.heap.size := by
    rcases Nat.lt_or_ge b W'.heap.size with h' | h'
    · exact h'
    · rw [Array.getElem?_eq_none h', Array.getElem?_eq_getElem h.hb] at hbb
      cases hbb
  exact ⟨(hk K (.inl rfl)).trans h.ok, (hk J (.inr (.inl rfl))).trans h.cnt, (hk L (.inr (.inr (.inl rfl)))).trans h.lst, fun j u hu => (World.cell?_of_block (a := ⟨b, off + j, none⟩) hbb).trans (h.row j u hu), hl, h.ne⟩
theorem Sm.setK {K J L b off cap : Nat} {l : Prs} {n : Nat} {W : World} (h : Sm K J L b off cap l n W) : Sm K J L b off cap l n (W.setCell ⟨K, 0, none⟩ (.bool true)) := by
  obtain ⟨e1, e2, _, e4, _, _⟩ := h.ne
  refine ⟨one_setCell h.ok, (heap_setCell_other _ ⟨K, 0, none⟩ J _ e1.symm).trans h.cnt, (heap_setCell_other _ ⟨K, 0, none⟩ L _ e2.symm).trans h.lst, fun j u hu => ?_, by rw [size_setCell]; exact h.hb, h.ne⟩
  exact (World.cell?_of_block (a := ⟨b, off + j, none⟩) (heap_setCell_other _ ⟨K, 0, none⟩ b _ e4.symm)).trans (h.row j u hu)
theorem Sm.setJ {K J L b off cap : Nat} {l : Prs} {n : Nat} {W : World} (h : Sm K J L b off cap l n W) : Sm K J L b off cap l (n + 1) (W.setCell ⟨J, 0, none⟩ (.int .i64 ((n : Int) + 1))) := by
  obtain ⟨e1, _, e3, _, e5, _⟩ := h.ne
  refine ⟨(heap_setCell_other _ ⟨J, 0, none⟩ K _ e1).trans h.ok, ?_, (heap_setCell_other _ ⟨J, 0, none⟩ L _ e3.symm).trans h.lst, fun j u hu => ?_, by rw [size_setCell]; exact h.hb, h.ne⟩
  · have := one_setCell (u := .int .i64 ((n : Int) + 1)) h.cnt
    rw [this]
    simp
  · exact (World.cell?_of_block (a := ⟨b, off + j, none⟩) (heap_setCell_other _ ⟨J, 0, none⟩ b _ e5.symm)).trans (h.row j u hu)
theorem Sm.held {K J L b off cap : Nat} {l : Prs} {n : Nat} {W : World} {P : Nat} {x : Pf} {u : Int} (h : Sm K J L b off cap l n W) (hn : n < l.length) (hx : l[n] = (x, u)) (ht : Two W P x) :
    (W.cell? ⟨K, 0, none⟩ = some (.bool true) ∧ W.cell? ⟨J, 0, none⟩ = some (.int .i64 n) ∧ W.cell? ⟨L, 0, none⟩ = some (.slice (some ⟨b, off, none⟩) l.length cap)) ∧ (W.cell? ⟨b, off + n * 3, none⟩ = some (.int .u32 x.1) ∧ W.cell? ⟨b, off + n * 3 + 1, none⟩ = some (.int .i64 x.2) ∧ W.cell? ⟨b, off + n * 3 + 2, none⟩ = some (.int .i64 u)) ∧ (W.cell? ⟨P, 0, none⟩ = some (.int .u32 x.1) ∧ W.cell? ⟨P, 1, none⟩ = some (.int .i64 x.2)) := by
  have hr := Pr.reads_at h.row n hn
  rw [hx] at hr
  exact ⟨⟨cell_of_one h.ok, cell_of_one h.cnt, cell_of_one h.lst⟩, hr, ⟨ht.cells.1, ht.cells.2.1⟩⟩
set_option maxHeartbeats 8000000 in
set_option maxRecDepth 100000 in
theorem same1_is {K J L b off cap : Nat} {l : Prs} {n : Nat} {W : World} (h : Sm K J L b off cap l n W) (hn : n < l.length) {x : Pf} {u : Int} (hx : l[n] = (x, u)) (hlen : l.length ≤ 1000) :
    Calls Try.prog 41 #[pv x, .int .i64 u, .pointer (some ⟨K, 0, none⟩), .pointer (some ⟨J, 0, none⟩), .pointer (some ⟨L, 0, none⟩)] W fun e w' => e = .returned (.bool true) ∧ Sm K J L b off cap l (n + 1) w' ∧ Keep (fun k => k = K ∨ k = J) W w' := by
  have T0 := hide (two_new W x)
  have hbl := balloc (brefl W) (.cells #[.int .u32 x.1, .int .i64 x.2] 30)
  have H0 : Hid (Sm K J L b off cap l n (W.alloc (.cells #[.int .u32 x.1, .int .i64 x.2] 30))) := h.keep fun k hk => hbl.block k (by
    rcases hk with rfl | rfl | rfl | rfl
    · exact lt_of_block h.ok
    · exact lt_of_block h.cnt
    · exact lt_of_block h.lst
    · exact h.hb)
  have HK0 : Hid (Keep (fun k => k = K ∨ k = J) W (W.alloc (.cells #[.int .u32 x.1, .int .i64 x.2] 30))) := Keep.of hbl
  have HPK : Hid (K ≠ W.heap.size) := by show K ≠ _; have := lt_of_block h.ok; omega
  have HPJ : Hid (J ≠ W.heap.size) := by show J ≠ _; have := lt_of_block h.cnt; omega
  have hnl : (n : Int) < (l.length : Int) := by omega
  clear h hbl
  obtain ⟨x0, x1⟩ := x
  unfold pv
  go_enter Try.func41, Try.ntmps41
  go_wp2_with fail
  generalize W.alloc (.cells #[.int .u32 x0, .int .i64 x1] 30) = W1 at *
  generalize W.heap.size = P at T0 HPK HPJ ⊢
  have HH := hide (H0.out.held hn hx T0.out)
  have HH2 := hide (Sm.held (W := W1.drew.setCell ⟨K, 0, none⟩ (.bool true)) (Sm.setK (W := W1.drew) (H0.out.keep fun _ _ => rfl)) hn hx ((T0.out.below (Below.drew (brefl _))).other (a := ⟨K, 0, none⟩) (fun e => HPK.out e.symm) _))
  have H2 := hide (H0.out.setK.keep (W' := (W1.setCell ⟨K, 0, none⟩ (.bool true)).drew) fun _ _ => rfl)
  have hgd := guardP
  have heq := eq_eq x0 x1
  have fz : W1.frozen? ⟨K, 0, none⟩ = false := free_of_one H0.out.ok
  clear hx
  refine wp_region_held_drew (S := fun w' => (w'.cell? ⟨K, 0, none⟩ = some (.bool true) ∧ w'.cell? ⟨J, 0, none⟩ = some (.int .i64 n) ∧ w'.cell? ⟨L, 0, none⟩ = some (.slice (some ⟨b, off, none⟩) l.length cap)) ∧ (w'.cell? ⟨b, off + n * 3, none⟩ = some (.int .u32 x0) ∧ w'.cell? ⟨b, off + n * 3 + 1, none⟩ = some (.int .i64 x1) ∧ w'.cell? ⟨b, off + n * 3 + 2, none⟩ = some (.int .i64 u)) ∧ (w'.cell? ⟨P, 0, none⟩ = some (.int .u32 x0) ∧ w'.cell? ⟨P, 1, none⟩ = some (.int .i64 x1))) (by kernel_rfl) HH.out (fun hHeld => ?_)
  refine wpAnyH_take (i := 0) (v := .bool true) rfl (by kernel_rfl) (by kernel_rfl) (by kernel_rfl) (fun _ _ _ h => h) (Or.inl ⟨by rfl, fun w hSw => by dsimp only at hSw; go_simp⟩) hHeld ?_
  simp only [Act.put, List.getElem_toArray, List.getElem_cons_zero, List.setIfInBounds_toArray, List.set_cons_zero, List.set_cons_succ]
  refine wpAnyH_take (i := 1) (v := .bool true) rfl (by kernel_rfl) (by kernel_rfl) (by kernel_rfl) (fun _ _ _ h => h) (Or.inl ⟨by rfl, fun w hSw => by dsimp only at hSw; go_simp⟩) hHeld ?_
  simp only [Act.put, List.getElem_toArray, List.getElem_cons_zero, List.getElem_cons_succ, List.setIfInBounds_toArray, List.set_cons_zero, List.set_cons_succ]
  refine wpAnyH_take (i := 2) (v := .int .i64 n) rfl (by kernel_rfl) (by kernel_rfl) (by kernel_rfl) (fun _ _ _ h => h) (Or.inl ⟨by rfl, fun w hSw => by dsimp only at hSw; go_simp⟩) hHeld ?_
  simp only [Act.put, List.getElem_toArray, List.getElem_cons_zero, List.getElem_cons_succ, List.setIfInBounds_toArray, List.set_cons_zero, List.set_cons_succ]
  refine wpAnyH_take (i := 3) (v := .slice (some ⟨b, off, none⟩) l.length cap) rfl (by kernel_rfl) (by kernel_rfl) (by kernel_rfl) (fun _ _ _ h => h) (Or.inl ⟨by rfl, fun w hSw => by dsimp only at hSw; go_simp⟩) hHeld ?_
  simp only [Act.put, List.getElem_toArray, List.getElem_cons_zero, List.getElem_cons_succ, List.setIfInBounds_toArray, List.set_cons_zero, List.set_cons_succ]
  refine wpAnyH_take (i := 4) (v := .int .i64 l.length) rfl (by kernel_rfl) (by kernel_rfl) (by kernel_rfl) (fun _ _ _ h => h) (Or.inl ⟨by rfl, fun w hSw => by dsimp only at hSw; go_simp⟩) hHeld ?_
  simp only [Act.put, List.getElem_toArray, List.getElem_cons_zero, List.getElem_cons_succ, List.setIfInBounds_toArray, List.set_cons_zero, List.set_cons_succ]
  refine wpAnyH_take (i := 5) (v := .bool true) rfl (by kernel_rfl) (by kernel_rfl) (by kernel_rfl) (fun _ _ _ h => h) (Or.inl ⟨by rfl, fun w hSw => by dsimp only at hSw; go_simp⟩) hHeld ?_
  simp only [Act.put, List.getElem_toArray, List.getElem_cons_zero, List.getElem_cons_succ, List.setIfInBounds_toArray, List.set_cons_zero, List.set_cons_succ]
  refine wpAnyH_take (i := 6) (v := .bool true) rfl (by kernel_rfl) (by kernel_rfl) (by kernel_rfl) (fun _ _ _ h => h) (Or.inl ⟨by rfl, fun w hSw => by dsimp only at hSw; go_simp⟩) hHeld ?_
  simp only [Act.put, List.getElem_toArray, List.getElem_cons_zero, List.getElem_cons_succ, List.setIfInBounds_toArray, List.set_cons_zero, List.set_cons_succ]
  refine wpAnyH_take (i := 7) (v := .bool true) rfl (by kernel_rfl) (by kernel_rfl) (by kernel_rfl) (fun _ _ _ h => h) (Or.inl ⟨by rfl, fun w hSw => by dsimp only at hSw; go_simp⟩) hHeld ?_
  simp only [Act.put, List.getElem_toArray, List.getElem_cons_zero, List.getElem_cons_succ, List.setIfInBounds_toArray, List.set_cons_zero, List.set_cons_succ]
  refine wpAnyH_take (i := 8) (v := .slice (some ⟨b, off, none⟩) l.length cap) rfl (by kernel_rfl) (by kernel_rfl) (by kernel_rfl) (fun _ _ _ h => h) (Or.inl ⟨by rfl, fun w hSw => by dsimp only at hSw; go_simp⟩) hHeld ?_
  simp only [Act.put, List.getElem_toArray, List.getElem_cons_zero, List.getElem_cons_succ, List.setIfInBounds_toArray, List.set_cons_zero, List.set_cons_succ]
  refine wpAnyH_take (i := 9) (v := .int .i64 n) rfl (by kernel_rfl) (by kernel_rfl) (by kernel_rfl) (fun _ _ _ h => h) (Or.inl ⟨by rfl, fun w hSw => by dsimp only at hSw; go_simp⟩) hHeld ?_
  simp only [Act.put, List.getElem_toArray, List.getElem_cons_zero, List.getElem_cons_succ, List.setIfInBounds_toArray, List.set_cons_zero, List.set_cons_succ]
  refine wpAnyH_take (i := 10) (v := .pointer (some ⟨b, off + n * 3, none⟩)) rfl (by kernel_rfl) (by kernel_rfl) (by kernel_rfl) (fun _ _ _ h => h) (Or.inl ⟨by rfl, fun w hSw => by dsimp only at hSw; go_simp⟩) hHeld ?_
  simp only [Act.put, List.getElem_toArray, List.getElem_cons_zero, List.getElem_cons_succ, List.setIfInBounds_toArray, List.set_cons_zero, List.set_cons_succ]
  refine wpAnyH_take (i := 11) (v := .pointer (some ⟨b, off + n * 3, none⟩)) rfl (by kernel_rfl) (by kernel_rfl) (by kernel_rfl) (fun _ _ _ h => h) (Or.inl ⟨by rfl, fun w hSw => by dsimp only at hSw; go_simp⟩) hHeld ?_
  simp only [Act.put, List.getElem_toArray, List.getElem_cons_zero, List.getElem_cons_succ, List.setIfInBounds_toArray, List.set_cons_zero, List.set_cons_succ]
  refine wpAnyH_take (i := 12) (v := .agg #[.int .u32 x0, .int .i64 x1]) rfl (by kernel_rfl) (by kernel_rfl) (by kernel_rfl) (fun _ _ _ h => h) (Or.inl ⟨by rfl, fun w hSw => by dsimp only at hSw; go_simp⟩) hHeld ?_
  simp only [Act.put, List.getElem_toArray, List.getElem_cons_zero, List.getElem_cons_succ, List.setIfInBounds_toArray, List.set_cons_zero, List.set_cons_succ]
  refine wpAnyH_take (i := 13) (v := .agg #[.int .u32 x0, .int .i64 x1]) rfl (by kernel_rfl) (by kernel_rfl) (by kernel_rfl) (fun _ _ _ h => h) (Or.inl ⟨by rfl, fun w hSw => by dsimp only at hSw; go_simp⟩) hHeld ?_
  simp only [Act.put, List.getElem_toArray, List.getElem_cons_zero, List.getElem_cons_succ, List.setIfInBounds_toArray, List.set_cons_zero, List.set_cons_succ]
  refine wpAnyH_take (i := 14) (v := .bool true) rfl (by kernel_rfl) (by kernel_rfl) (by kernel_rfl) (fun _ _ _ h => h) (Or.inl ⟨by rfl, fun w hSw => by dsimp only at hSw; go_simp⟩) hHeld ?_
  simp only [Act.put, List.getElem_toArray, List.getElem_cons_zero, List.getElem_cons_succ, List.setIfInBounds_toArray, List.set_cons_zero, List.set_cons_succ]
  refine wpAnyH_take (i := 15) (v := .bool true) rfl (by kernel_rfl) (by kernel_rfl) (by kernel_rfl) (fun _ _ _ h => h) (Or.inl ⟨by rfl, fun w hSw => by dsimp only at hSw; go_simp⟩) hHeld ?_
  simp only [Act.put, List.getElem_toArray, List.getElem_cons_zero, List.getElem_cons_succ, List.setIfInBounds_toArray, List.set_cons_zero, List.set_cons_succ]
  refine wpAnyH_take (i := 16) (v := .bool true) rfl (by kernel_rfl) (by kernel_rfl) (by kernel_rfl) (fun _ _ _ h => h) (Or.inl ⟨by rfl, fun w hSw => by dsimp only at hSw; go_simp⟩) hHeld ?_
  simp only [Act.put, List.getElem_toArray, List.getElem_cons_zero, List.getElem_cons_succ, List.setIfInBounds_toArray, List.set_cons_zero, List.set_cons_succ]
  refine wpAnyH_take (i := 17) (v := .slice (some ⟨b, off, none⟩) l.length cap) rfl (by kernel_rfl) (by kernel_rfl) (by kernel_rfl) (fun _ _ _ h => h) (Or.inl ⟨by rfl, fun w hSw => by dsimp only at hSw; go_simp⟩) hHeld ?_
  simp only [Act.put, List.getElem_toArray, List.getElem_cons_zero, List.getElem_cons_succ, List.setIfInBounds_toArray, List.set_cons_zero, List.set_cons_succ]
  refine wpAnyH_take (i := 18) (v := .int .i64 n) rfl (by kernel_rfl) (by kernel_rfl) (by kernel_rfl) (fun _ _ _ h => h) (Or.inl ⟨by rfl, fun w hSw => by dsimp only at hSw; go_simp⟩) hHeld ?_
  simp only [Act.put, List.getElem_toArray, List.getElem_cons_zero, List.getElem_cons_succ, List.setIfInBounds_toArray, List.set_cons_zero, List.set_cons_succ]
  refine wpAnyH_take (i := 19) (v := .pointer (some ⟨b, off + n * 3, none⟩)) rfl (by kernel_rfl) (by kernel_rfl) (by kernel_rfl) (fun _ _ _ h => h) (Or.inl ⟨by rfl, fun w hSw => by dsimp only at hSw; go_simp⟩) hHeld ?_
  simp only [Act.put, List.getElem_toArray, List.getElem_cons_zero, List.getElem_cons_succ, List.setIfInBounds_toArray, List.set_cons_zero, List.set_cons_succ]
  refine wpAnyH_take (i := 20) (v := .pointer (some ⟨b, off + n * 3 + 2, none⟩)) rfl (by kernel_rfl) (by kernel_rfl) (by kernel_rfl) (fun _ _ _ h => h) (Or.inl ⟨by rfl, fun w hSw => by dsimp only at hSw; go_simp⟩) hHeld ?_
  simp only [Act.put, List.getElem_toArray, List.getElem_cons_zero, List.getElem_cons_succ, List.setIfInBounds_toArray, List.set_cons_zero, List.set_cons_succ]
  refine wpAnyH_take (i := 21) (v := .int .i64 u) rfl (by kernel_rfl) (by kernel_rfl) (by kernel_rfl) (fun _ _ _ h => h) (Or.inl ⟨by rfl, fun w hSw => by dsimp only at hSw; go_simp⟩) hHeld ?_
  simp only [Act.put, List.getElem_toArray, List.getElem_cons_zero, List.getElem_cons_succ, List.setIfInBounds_toArray, List.set_cons_zero, List.set_cons_succ]
  refine wpAnyH_take (i := 22) (v := .int .i64 u) rfl (by kernel_rfl) (by kernel_rfl) (by kernel_rfl) (fun _ _ _ h => h) (Or.inl ⟨by rfl, fun w hSw => by dsimp only at hSw; go_simp⟩) hHeld ?_
  simp only [Act.put, List.getElem_toArray, List.getElem_cons_zero, List.getElem_cons_succ, List.setIfInBounds_toArray, List.set_cons_zero, List.set_cons_succ]
  refine wpAnyH_take (i := 23) (v := .bool true) rfl (by kernel_rfl) (by kernel_rfl) (by kernel_rfl) (fun _ _ _ h => h) (Or.inl ⟨by rfl, fun w hSw => by dsimp only at hSw; go_simp⟩) hHeld ?_
  simp only [Act.put, List.getElem_toArray, List.getElem_cons_zero, List.getElem_cons_succ, List.setIfInBounds_toArray, List.set_cons_zero, List.set_cons_succ]
  refine wpAnyH_take (i := 24) (v := .bool true) rfl (by kernel_rfl) (by kernel_rfl) (by kernel_rfl) (fun _ _ _ h => h) (Or.inl ⟨by rfl, fun w hSw => by dsimp only at hSw; go_simp⟩) hHeld ?_
  simp only [Act.put, List.getElem_toArray, List.getElem_cons_zero, List.getElem_cons_succ, List.setIfInBounds_toArray, List.set_cons_zero, List.set_cons_succ]
  refine wpAnyH_ready (rs := [25]) (by kernel_rfl) (by simp) ?_
  refine AllReadyH.cons rfl (fun K hK => ?_) AllReadyH.nil
  go_simp
  refine hK.out _ _ HH2.out (fun hHeld => ?_)
  clear hK K
  try simp only [Act.put, List.getElem_toArray, List.getElem_cons_zero, List.getElem_cons_succ, List.setIfInBounds_toArray, List.set_cons_zero, List.set_cons_succ]
  refine wpAnyH_done (by kernel_rfl) ?_ _
  clear hHeld HH HH2 fz hgd heq
  have j0 := cell_of_one H2.out.cnt
  have j1 := free_of_one H2.out.cnt
  have HK2 : Hid (Keep (fun k => k = K ∨ k = J) W (W1.setCell ⟨K, 0, none⟩ (.bool true)).drew) := (HK0.out.setCell (p := ⟨K, 0, none⟩) (.inl (.inl rfl)) _).drew
  generalize (W1.setCell ⟨K, 0, none⟩ (.bool true)).drew = W2 at *
  go_wp2_with fail
  go_ret
  exact ⟨rfl, H2.out.setJ, HK2.out.setCell (p := ⟨J, 0, none⟩) (.inl (.inr rfl)) _⟩
end Go.Proofs.Ytechocnednepiaa
