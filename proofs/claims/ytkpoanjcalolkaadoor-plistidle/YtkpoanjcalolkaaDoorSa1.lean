import Derived.Test.YtkpoanjcalolkaaDoorProg
import Derived.Test.YtkpoanjcalolkaaDoorW1
import Derived.Sort.WalkA
import Derived.Sort.Grow
/- The library's sort at uint32: cmp.Less, insertionSortOrdered. -/
namespace Go.Proofs.YtkpoanjcalolkaaDoor
open Go.RowKit Go.Sort

theorem isNaN_u (x : Int) (w : World) : Calls Tryd.prog 84 #[.int .u32 x] w fun e w' => e = .returned (.bool false) ∧ w' = w := by
  go_enter Tryd.func84, Tryd.ntmps84
  go_wp2_with fail
  go_ret
  exact ⟨by simp, rfl⟩

theorem less_u (x y : Int) (w : World) : Calls Tryd.prog 70 #[.int .u32 x, .int .u32 y] w fun e w' => e = .returned (.bool (ltInt x y)) ∧ w' = w := by
  go_enter Tryd.func70, Tryd.ntmps70
  go_wp2_with (go_at_call 84; refine (isNaN_u _ _).mono ?_; rintro e w1 ⟨rfl, rfl⟩)
  go_ret
  exact ⟨rfl, rfl⟩

/-- A world in which the row holds dj; all else is as it was, but for draws and new blocks. -/
def SW (w : World) (blk off : Nat) (d dj : Array Int) (w' : World) : Prop := dj.size = d.size ∧ ∃ n os, w' = Sort.grow (putRow (Value.int .u32) (Sort.ahead w n) blk off dj) os

theorem sw_refl {w : World} {blk off : Nat} {d : Array Int} (hH : Holds (Value.int .u32) w blk off d) : SW w blk off d d w :=
  ⟨rfl, 0, #[], by rw [grow_empty, ahead_zero, putRow_self _ _ _ _ _ hH]⟩

theorem sw_holds {w w' : World} {blk off : Nat} {d dj : Array Int} (hH : Holds (Value.int .u32) w blk off d) (hb : blk < w.heap.size) (h : SW w blk off d dj w') : Holds (Value.int .u32) w' blk off dj ∧ blk < w'.heap.size := by
  obtain ⟨hs, n, os, rfl⟩ := h
  exact ⟨holds_grow _ _ _ _ _ _ (by simpa using hb) (holds_putRow _ _ _ _ d dj (holds_ahead _ _ _ _ _ _ hH) hs), by simp; omega⟩

theorem sw_drew {w w' : World} {blk off : Nat} {d dj : Array Int} (h : SW w blk off d dj w') (q : Nat) : SW w blk off d dj (w'.drewN q) := by
  obtain ⟨hs, n, os, rfl⟩ := h
  refine ⟨hs, n + q, os, ?_⟩
  show Sort.ahead (Sort.grow (putRow (Value.int .u32) (Sort.ahead w n) blk off dj) os) q = _
  rw [ahead_grow, putRow_ahead, ahead_ahead, ← putRow_ahead]

theorem sw_set {w w' : World} {blk off : Nat} {d dj : Array Int} (hb : blk < w.heap.size) (h : SW w blk off d dj w') (i : Nat) (x : Int) (hi : i < d.size) : SW w blk off d (dj.setIfInBounds i x) (w'.setCell ⟨blk, off + i, none⟩ (.int .u32 x)) := by
  obtain ⟨hs, n, os, rfl⟩ := h
  refine ⟨by simpa using hs, n, os, ?_⟩
  rw [setCell_eq, mapBlock_grow _ _ _ _ (by simpa using hb), ← setCell_eq, putRow_set _ _ _ _ _ _ _ (by omega)]

theorem sw_swap {w w' : World} {blk off : Nat} {d dj : Array Int} (hb : blk < w.heap.size) (h : SW w blk off d dj w') (i j : Nat) (hi : i < d.size) (hj : j < d.size) (q : Nat) :
    SW w blk off d (swp dj i j) (((w'.drewN q).setCell ⟨blk, off + i, none⟩ (.int .u32 dj[j]!)).setCell ⟨blk, off + j, none⟩ (.int .u32 dj[i]!)) :=
  sw_set hb (sw_set hb (sw_drew h q) i _ hi) j _ hj

theorem sw_trans {w w1 w2 : World} {blk off : Nat} {d d1 d2 : Array Int} (hb : blk < w.heap.size) (h1 : SW w blk off d d1 w1) (h2 : SW w1 blk off d1 d2 w2) : SW w blk off d d2 w2 := by
  obtain ⟨hs1, n1, os1, rfl⟩ := h1
  obtain ⟨hs2, n2, os2, rfl⟩ := h2
  exact ⟨by omega, n1 + n2, os1 ++ os2, grow_step_grow _ _ _ _ _ _ _ _ _ _ hb hs2⟩

theorem sw_alloc {w w' : World} {blk off : Nat} {d dj : Array Int} (h : SW w blk off d dj w') (o : Obj) : SW w blk off d dj (w'.alloc o) := by
  obtain ⟨hs, n, os, rfl⟩ := h
  exact ⟨hs, n, os ++ #[o], by rw [alloc_eq_grow, grow_grow]⟩

set_option maxHeartbeats 1000000 in
theorem insertion_u (blk off cap a b : Nat) (d : Array Int) (w : World) (hH : Holds (Value.int .u32) w blk off d) (hblk : blk < w.heap.size) (hab : a ≤ b) (hb : b ≤ d.size) (hsz : d.size ≤ 1000000) :
    Calls Tryd.prog 64 #[.slice (some ⟨blk, off, none⟩) d.size cap, .int .i64 a, .int .i64 b] w fun e w' => e = .returned (.tuple #[]) ∧ SW w blk off d (Sort.insertionSort ltInt d a b) w' := by
  have HH := hide hH
  clear hH
  go_enter Tryd.func64, Tryd.ntmps64
  go_wp2_with fail
  go_loopw [6] (fun vi wr => ∃ (i : Nat) (dk : Array Int), vi = .int .i64 i ∧ a < i ∧ i ≤ b + 1 ∧ SW w blk off d dk wr ∧ insOuter ltInt a b i dk = insOuter ltInt a b (a + 1) d) (fun vi _ => b + 1 - (intOf vi).toNat)
  case atStart => exact ⟨a + 1, d, by go_num, by omega, by omega, sw_refl HH.out, rfl⟩
  case round =>
    obtain ⟨i, dk, rfl, hai, hib, hsw, hO⟩ := hrel
    have HS := hide hsw
    have HO := hide hO
    clear hsw hO
    by_cases hlt : i < b
    · go_wp2_with fail
      go_loopw [7] (fun vj wr2 => ∃ (j : Nat) (dj : Array Int), vj = .int .i64 j ∧ a ≤ j ∧ j ≤ i ∧ SW w blk off d dj wr2 ∧ insInner ltInt a j dj = insInner ltInt a i dk) (fun vj _ => (intOf vj).toNat)
      case atStart => exact ⟨i, dk, rfl, by omega, Nat.le_refl _, HS.out, rfl⟩
      case round =>
        obtain ⟨j, dj, rfl, haj, hji, hsj, hI⟩ := hrel
        have HSJ := hide hsj
        have HI := hide hI
        have hho := sw_holds HH.out hblk hsj
        have hsize : dj.size = d.size := hsj.1
        obtain ⟨G, hG⟩ : ∃ G : Nat → Int, ∀ t, G t = dj[t]! := ⟨fun t => dj[t]!, fun _ => rfl⟩
        have hcw : ∀ t, t < d.size → wr.cell? ⟨blk, off + t, none⟩ = some (.int .u32 (G t)) := fun t ht => by rw [hG]; exact (hho.1 t (by omega)).1
        have hfw : ∀ t, t < d.size → wr.frozen? ⟨blk, off + t, none⟩ = false := fun t ht => (hho.1 t (by omega)).2
        have HG := hide hG
        clear hsj hI hho hG hsize
        have OUT : Hid ((j ≤ a ∨ ltInt dj[j]! dj[j - 1]! = false) → ∀ W, SW w blk off d dj W → ∃ (i' : Nat) (dk' : Array Int), Value.int .i64 ((i : Int) + 1) = .int .i64 i' ∧ a < i' ∧ i' ≤ b + 1 ∧ SW w blk off d dk' W ∧ insOuter ltInt a b i' dk' = insOuter ltInt a b (a + 1) d) :=
          fun hs W hW => ⟨i + 1, dj, by go_num, by omega, by omega, hW, by rw [← HO.out, insOuter_go _ _ _ _ _ hlt, ← HI.out, insInner_stop _ _ _ _ hs]⟩
        by_cases hja : a < j
        · go_wp2_with fail
          go_quiet ((go_at_call 70; refine Calls.quiet_of_same (less_u _ _ _)))
          go_wp2_with fail
          · have hl : ltInt (G j) (G (j - 1)) = true := by assumption
            go_region
            all_goals go_wp2_with fail
            go_roundw
            case rel =>
              refine ⟨j - 1, swp dj j (j - 1), by congr 1; omega, by omega, by omega, ?_, ?_⟩
              · rw [HG.out, HG.out]
                exact sw_swap hblk HSJ.out j (j - 1) (by omega) (by omega) _
              · rw [← HI.out, insInner_go ltInt a j dj hja (by rw [← HG.out, ← HG.out]; exact hl)]
            case measure => simp [intOf]; omega
          · have hl : ltInt (G j) (G (j - 1)) = false := by assumption
            go_roundw
            case rel => exact OUT.out (Or.inr (by rw [← HG.out, ← HG.out]; exact hl)) _ (sw_drew HSJ.out _)
            case measure => simp [intOf]; omega
        · go_wp2_with fail
          go_quiet (fail)
          go_wp2_with fail
          go_roundw
          case rel => exact OUT.out (Or.inl (by omega)) _ (sw_drew HSJ.out _)
          case measure => simp [intOf]; omega
    · go_wp2_with fail
      go_end0
      exact ⟨rfl, by unfold Sort.insertionSort; rw [← HO.out, insOuter_stop _ _ _ _ _ hlt]; exact HS.out⟩
end Go.Proofs.YtkpoanjcalolkaaDoor

/- The library's sort at uint32: siftDownOrdered, heapSortOrdered, reverseRangeOrdered. -/
namespace Go.Proofs.YtkpoanjcalolkaaDoor
open Go.RowKit Go.Sort

theorem sift_stop (hi first root : Nat) (d : Array Int) (h : hi ≤ 2 * root + 1) : siftDown ltInt hi first root d = d := by rw [siftDown, dif_pos h]
theorem sift_big (hi first root : Nat) (d : Array Int) (h2 : 2 * root + 1 + 1 < hi) (hl : ltInt d[first + (2 * root + 1)]! d[first + (2 * root + 1) + 1]! = true) :
    siftDown ltInt hi first root d = if ltInt d[first + root]! d[first + (2 * root + 2)]! = true then siftDown ltInt hi first (2 * root + 2) (swp d (first + root) (first + (2 * root + 2))) else d := by
  rw [siftDown, dif_neg (by omega)]
  simp only [hl, h2, decide_true, Bool.and_self, if_true]
  cases ltInt d[first + root]! d[first + (2 * root + 2)]!
  · simp
  · simp
theorem sift_small (hi first root : Nat) (d : Array Int) (h1 : ¬ hi ≤ 2 * root + 1) (h2 : ¬ 2 * root + 1 + 1 < hi ∨ ltInt d[first + (2 * root + 1)]! d[first + (2 * root + 1) + 1]! = false) :
    siftDown ltInt hi first root d = if ltInt d[first + root]! d[first + (2 * root + 1)]! = true then siftDown ltInt hi first (2 * root + 1) (swp d (first + root) (first + (2 * root + 1))) else d := by
  have hc : (decide (2 * root + 1 + 1 < hi) && ltInt d[first + (2 * root + 1)]! d[first + (2 * root + 1) + 1]!) = false := by
    rcases h2 with h | h
    · simp [h]
    · simp [h]
  rw [siftDown, dif_neg h1]
  simp only [hc]
  cases ltInt d[first + root]! d[first + (2 * root + 1)]! <;> simp

set_option maxHeartbeats 2000000 in
set_option maxRecDepth 100000 in
theorem sift_u (blk off cap lo hi first : Nat) (d : Array Int) (w : World) (hH : Holds (Value.int .u32) w blk off d) (hblk : blk < w.heap.size) (hf : first + hi ≤ d.size) (hlo : lo ≤ d.size) (hsz : d.size ≤ 1000000) :
    Calls Tryd.prog 79 #[.slice (some ⟨blk, off, none⟩) d.size cap, .int .i64 lo, .int .i64 hi, .int .i64 first] w fun e w' => e = .returned (.tuple #[]) ∧ SW w blk off d (siftDown ltInt hi first lo d) w' := by
  have HH := hide hH
  clear hH
  go_enter Tryd.func79, Tryd.ntmps79
  go_wp2_with fail
  go_loopw [8] (fun vr wr => ∃ (root : Nat) (dj : Array Int), vr = .int .i64 root ∧ root ≤ d.size ∧ SW w blk off d dj wr ∧ siftDown ltInt hi first root dj = siftDown ltInt hi first lo d) (fun vr _ => hi - (intOf vr).toNat)
  case atStart => exact ⟨lo, d, rfl, hlo, sw_refl HH.out, rfl⟩
  case round =>
    obtain ⟨root, dj, rfl, hrs, hsj, hI⟩ := hrel
    have HSJ := hide hsj
    have HI := hide hI
    have hho := sw_holds HH.out hblk hsj
    have hsize : dj.size = d.size := hsj.1
    obtain ⟨G, hG⟩ : ∃ G : Nat → Int, ∀ t, G t = dj[t]! := ⟨fun t => dj[t]!, fun _ => rfl⟩
    have hcw : ∀ t, t < d.size → wr.cell? ⟨blk, off + t, none⟩ = some (.int .u32 (G t)) := fun t ht => by rw [hG]; exact (hho.1 t (by omega)).1
    have hfw : ∀ t, t < d.size → wr.frozen? ⟨blk, off + t, none⟩ = false := fun t ht => (hho.1 t (by omega)).2
    have HG := hide hG
    clear hsj hI hho hG hsize
    by_cases h1 : hi ≤ 2 * root + 1
    · have h1' : (hi : Int) ≤ 2 * (root : Int) + 1 := by omega
      go_wp2_with fail
      go_end0
      exact ⟨rfl, by rw [← HI.out, sift_stop _ _ _ _ h1]; exact HSJ.out⟩
    · have h1' : ¬ (hi : Int) ≤ 2 * (root : Int) + 1 := by omega
      by_cases h2 : 2 * root + 1 + 1 < hi
      · have h2' : 2 * (root : Int) + 1 + 1 < (hi : Int) := by omega
        go_wp2_with fail
        go_big_quiet ((go_at_call 70; refine Calls.quiet_of_same (less_u _ _ _)))
        go_wp2_with fail
        · have hl : ltInt (G (first + (2 * root + 1))) (G (first + (2 * root + 1) + 1)) = true := by assumption
          have hcw2 : ∀ t, t < d.size → (wr.drewN nq).cell? ⟨blk, off + t, none⟩ = some (.int .u32 (G t)) := hcw
          have hfw2 : ∀ t, t < d.size → (wr.drewN nq).frozen? ⟨blk, off + t, none⟩ = false := hfw
          have HS2 := hide (sw_drew HSJ.out nq)
          generalize wr.drewN nq = wr2 at hcw2 hfw2 HS2 ⊢
          clear hcw hfw HSJ
          go_big_quiet ((go_at_call 70; refine Calls.quiet_of_same (less_u _ _ _)))
          go_wp2_with fail
          · have hr : ltInt (G (first + root)) (G (first + (2 * root + 2))) = false := by
              have : (!ltInt (G (first + root)) (G (first + (2 * root + 2)))) = true := by assumption
              simpa using this
            (try simp only [Exit.inBlock, Exit.then])
            refine bodyPost_ret (results_none rfl _ _ _) rfl ⟨rfl, ?_⟩
            rw [← HI.out, sift_big hi first root dj h2 (by rw [← HG.out, ← HG.out]; exact hl), if_neg (by rw [← HG.out, ← HG.out, hr]; decide)]
            exact sw_drew HS2.out _
          · have hr : ltInt (G (first + root)) (G (first + (2 * root + 2))) = true := by
              have : (!ltInt (G (first + root)) (G (first + (2 * root + 2)))) = false := by assumption
              simpa using this
            have hcw3 : ∀ t, t < d.size → (wr2.drewN nq).cell? ⟨blk, off + t, none⟩ = some (.int .u32 (G t)) := hcw2
            have hfw3 : ∀ t, t < d.size → (wr2.drewN nq).frozen? ⟨blk, off + t, none⟩ = false := hfw2
            have HS3 := hide (sw_drew HS2.out nq)
            generalize wr2.drewN nq = wr3 at hcw3 hfw3 HS3 ⊢
            clear hcw2 hfw2 HS2
            go_region
            go_wp2_with fail
            go_roundw
            case rel =>
              refine ⟨2 * root + 2, swp dj (first + root) (first + (2 * root + 2)), by simp <;> omega, by omega, ?_, ?_⟩
              · rw [HG.out, HG.out]
                exact sw_swap hblk HS3.out (first + root) (first + (2 * root + 2)) (by omega) (by omega) _
              · rw [← HI.out, sift_big hi first root dj h2 (by rw [← HG.out, ← HG.out]; exact hl), if_pos (by rw [← HG.out, ← HG.out]; exact hr)]
            case measure => simp [intOf]; omega
        · have hl : ltInt (G (first + (2 * root + 1))) (G (first + (2 * root + 1) + 1)) = false := by assumption
          have hcw2 : ∀ t, t < d.size → (wr.drewN nq).cell? ⟨blk, off + t, none⟩ = some (.int .u32 (G t)) := hcw
          have hfw2 : ∀ t, t < d.size → (wr.drewN nq).frozen? ⟨blk, off + t, none⟩ = false := hfw
          have HS2 := hide (sw_drew HSJ.out nq)
          generalize wr.drewN nq = wr2 at hcw2 hfw2 HS2 ⊢
          clear hcw hfw HSJ
          go_big_quiet ((go_at_call 70; refine Calls.quiet_of_same (less_u _ _ _)))
          go_wp2_with fail
          · have hr : ltInt (G (first + root)) (G (first + (2 * root + 1))) = false := by
              have : (!ltInt (G (first + root)) (G (first + (2 * root + 1)))) = true := by assumption
              simpa using this
            (try simp only [Exit.inBlock, Exit.then])
            refine bodyPost_ret (results_none rfl _ _ _) rfl ⟨rfl, ?_⟩
            rw [← HI.out, sift_small hi first root dj h1 (.inr (by rw [← HG.out, ← HG.out]; exact hl)), if_neg (by rw [← HG.out, ← HG.out, hr]; decide)]
            exact sw_drew HS2.out _
          · have hr : ltInt (G (first + root)) (G (first + (2 * root + 1))) = true := by
              have : (!ltInt (G (first + root)) (G (first + (2 * root + 1)))) = false := by assumption
              simpa using this
            have hcw3 : ∀ t, t < d.size → (wr2.drewN nq).cell? ⟨blk, off + t, none⟩ = some (.int .u32 (G t)) := hcw2
            have hfw3 : ∀ t, t < d.size → (wr2.drewN nq).frozen? ⟨blk, off + t, none⟩ = false := hfw2
            have HS3 := hide (sw_drew HS2.out nq)
            generalize wr2.drewN nq = wr3 at hcw3 hfw3 HS3 ⊢
            clear hcw2 hfw2 HS2
            go_region
            go_wp2_with fail
            go_roundw
            case rel =>
              refine ⟨2 * root + 1, swp dj (first + root) (first + (2 * root + 1)), by simp <;> omega, by omega, ?_, ?_⟩
              · rw [HG.out, HG.out]
                exact sw_swap hblk HS3.out (first + root) (first + (2 * root + 1)) (by omega) (by omega) _
              · rw [← HI.out, sift_small hi first root dj h1 (.inr (by rw [← HG.out, ← HG.out]; exact hl)), if_pos (by rw [← HG.out, ← HG.out]; exact hr)]
            case measure => simp [intOf]; omega
      · have h2' : decide (2 * (root : Int) + 1 + 1 < (hi : Int)) = false := decide_eq_false (by omega)
        go_wp2_with fail
        go_big_quiet (fail)
        go_wp2_with fail
        have hcw2 : ∀ t, t < d.size → (wr.drewN nq).cell? ⟨blk, off + t, none⟩ = some (.int .u32 (G t)) := hcw
        have hfw2 : ∀ t, t < d.size → (wr.drewN nq).frozen? ⟨blk, off + t, none⟩ = false := hfw
        have HS2 := hide (sw_drew HSJ.out nq)
        generalize wr.drewN nq = wr2 at hcw2 hfw2 HS2 ⊢
        clear hcw hfw HSJ
        go_big_quiet ((go_at_call 70; refine Calls.quiet_of_same (less_u _ _ _)))
        go_wp2_with fail
        · have hr : ltInt (G (first + root)) (G (first + (2 * root + 1))) = false := by
            have : (!ltInt (G (first + root)) (G (first + (2 * root + 1)))) = true := by assumption
            simpa using this
          (try simp only [Exit.inBlock, Exit.then])
          refine bodyPost_ret (results_none rfl _ _ _) rfl ⟨rfl, ?_⟩
          rw [← HI.out, sift_small hi first root dj h1 (.inl h2), if_neg (by rw [← HG.out, ← HG.out, hr]; decide)]
          exact sw_drew HS2.out _
        · have hr : ltInt (G (first + root)) (G (first + (2 * root + 1))) = true := by
            have : (!ltInt (G (first + root)) (G (first + (2 * root + 1)))) = false := by assumption
            simpa using this
          have hcw3 : ∀ t, t < d.size → (wr2.drewN nq).cell? ⟨blk, off + t, none⟩ = some (.int .u32 (G t)) := hcw2
          have hfw3 : ∀ t, t < d.size → (wr2.drewN nq).frozen? ⟨blk, off + t, none⟩ = false := hfw2
          have HS3 := hide (sw_drew HS2.out nq)
          generalize wr2.drewN nq = wr3 at hcw3 hfw3 HS3 ⊢
          clear hcw2 hfw2 HS2
          go_region
          go_wp2_with fail
          go_roundw
          case rel =>
            refine ⟨2 * root + 1, swp dj (first + root) (first + (2 * root + 1)), by simp <;> omega, by omega, ?_, ?_⟩
            · rw [HG.out, HG.out]
              exact sw_swap hblk HS3.out (first + root) (first + (2 * root + 1)) (by omega) (by omega) _
            · rw [← HI.out, sift_small hi first root dj h1 (.inl h2), if_pos (by rw [← HG.out, ← HG.out]; exact hr)]
          case measure => simp [intOf]; omega
end Go.Proofs.YtkpoanjcalolkaaDoor

/- The library's sort at uint32: heapSortOrdered, reverseRangeOrdered. -/
namespace Go.Proofs.YtkpoanjcalolkaaDoor
open Go.RowKit Go.Sort

theorem sift_sw (blk off cap lo hi first : Nat) (d dk : Array Int) (w W : World) (hH : Holds (Value.int .u32) w blk off d) (hblk : blk < w.heap.size) (h : SW w blk off d dk W) (hf : first + hi ≤ d.size) (hlo : lo ≤ d.size) (hsz : d.size ≤ 1000000) :
    Calls Tryd.prog 79 #[.slice (some ⟨blk, off, none⟩) d.size cap, .int .i64 lo, .int .i64 hi, .int .i64 first] W fun e w' => e = .returned (.tuple #[]) ∧ SW w blk off d (siftDown ltInt hi first lo dk) w' := by
  have hho := sw_holds hH hblk h
  have hs := h.1
  have := sift_u blk off cap lo hi first dk W hho.1 hho.2 (by omega) (by omega) (by omega)
  rw [hs] at this
  refine this.mono ?_
  rintro e w' ⟨he, h2⟩
  exact ⟨he, sw_trans hblk h h2⟩

theorem succ_sub (k : Nat) : ((k + 1 : Nat) : Int) - 1 = (k : Int) := by omega

set_option maxHeartbeats 2000000 in
set_option maxRecDepth 100000 in
theorem heap_u (blk off cap a b : Nat) (d : Array Int) (w : World) (hH : Holds (Value.int .u32) w blk off d) (hblk : blk < w.heap.size) (hab : a < b) (hb : b ≤ d.size) (hsz : d.size ≤ 1000000) :
    Calls Tryd.prog 65 #[.slice (some ⟨blk, off, none⟩) d.size cap, .int .i64 a, .int .i64 b] w fun e w' => e = .returned (.tuple #[]) ∧ SW w blk off d (Sort.heapSort ltInt d a b) w' := by
  have HH := hide hH
  clear hH
  obtain ⟨m, rfl⟩ : ∃ m, b = a + m := ⟨b - a, by omega⟩
  have hm : ((a + m : Nat) : Int) - (a : Int) = (m : Int) := by omega
  have HD : Hid (Sort.heapSort ltInt d a (a + m) = heapPop ltInt a m (heapBuild ltInt m a ((m - 1) / 2 + 1) d)) := by
    show _ = _
    unfold Sort.heapSort
    rw [show a + m - a = m by omega]
  go_enter Tryd.func65, Tryd.ntmps65
  rw [show ((a + m : Nat) : Int) = (a : Int) + (m : Int) by omega]
  have hm2 : (a : Int) + (m : Int) - (a : Int) = (m : Int) := by omega
  go_wp2_with fail
  go_loopw [9] (fun v wr => ∃ (k : Nat) (dj : Array Int), v = .int .i64 ((k : Int) - 1) ∧ k ≤ d.size ∧ SW w blk off d dj wr ∧ heapBuild ltInt m a k dj = heapBuild ltInt m a ((m - 1) / 2 + 1) d) (fun v _ => (intOf v + 1).toNat)
  case atStart => exact ⟨(m - 1) / 2 + 1, d, by congr 1; omega, by omega, sw_refl HH.out, rfl⟩
  case round =>
    obtain ⟨k, dj, rfl, hk, hsj, hI⟩ := hrel
    have HSJ := hide hsj
    have HI := hide hI
    clear hsj hI
    cases k with
    | succ k =>
      rw [succ_sub]
      have hk0 : (0 : Int) ≤ (k : Int) := by omega
      go_wp2_with fail
      refine (sift_sw blk off cap k m a d dj w _ HH.out hblk HSJ.out (by omega) (by omega) hsz).mono ?_
      rintro e w1 ⟨rfl, hs1⟩
      have HS1 := hide hs1
      clear hs1 HSJ
      go_wp2_with fail
      exact ⟨⟨k, siftDown ltInt m a k dj, rfl, by omega, HS1.out, by rw [← HI.out]; rfl⟩, by simp [intOf] <;> omega⟩
    | zero =>
      have hneg : decide ((0 : Int) ≤ ((0 : Nat) : Int) - 1) = false := by decide
      have hk0 : ¬ ((0 : Int) ≤ ((0 : Nat) : Int) - 1) := by decide
      go_wp2_with fail
      have HB : Hid (dj = heapBuild ltInt m a ((m - 1) / 2 + 1) d) := HI.out
      clear HI hk hneg hk0
      go_loopw [10] (fun v wr => ∃ (k : Nat) (dk : Array Int), v = .int .i64 ((k : Int) - 1) ∧ k ≤ m ∧ SW w blk off d dk wr ∧ heapPop ltInt a k dk = heapPop ltInt a m dj) (fun v _ => (intOf v + 1).toNat)
      case atStart => exact ⟨m, dj, rfl, Nat.le_refl _, HSJ.out, rfl⟩
      case round =>
        obtain ⟨k, dk, rfl, hk, hsk, hP⟩ := hrel
        have HSK := hide hsk
        have HP := hide hP
        clear hsk hP
        cases k with
        | succ k =>
          rw [succ_sub]
          have hk0 : (0 : Int) ≤ (k : Int) := by omega
          have hho := sw_holds HH.out hblk HSK.out
          have hsize : dk.size = d.size := HSK.out.1
          obtain ⟨G, hG⟩ : ∃ G : Nat → Int, ∀ t, G t = dk[t]! := ⟨fun t => dk[t]!, fun _ => rfl⟩
          have hcw : ∀ t, t < d.size → wr.cell? ⟨blk, off + t, none⟩ = some (.int .u32 (G t)) := fun t ht => by rw [hG]; exact (hho.1 t (by omega)).1
          have hfw : ∀ t, t < d.size → wr.frozen? ⟨blk, off + t, none⟩ = false := fun t ht => (hho.1 t (by omega)).2
          have HG := hide hG
          clear hG hho hsize
          rcases Nat.eq_zero_or_pos k with rfl | hkp
          · go_wp2_with fail
            go_region
            go_wp2_with fail
            refine (sift_sw blk off cap 0 0 a d (swp dk a (a + 0)) w _ HH.out hblk ?hs (by omega) (by omega) hsz).mono ?_
            case hs =>
              simp only [HG.out]
              exact sw_swap hblk HSK.out a (a + 0) (by omega) (by omega) _
            rintro e w1 ⟨rfl, hs1⟩
            have HS1 := hide hs1
            clear hs1 HSK
            go_wp2_with fail
            exact ⟨⟨0, siftDown ltInt 0 a 0 (swp dk a (a + 0)), rfl, by omega, HS1.out, by rw [← HP.out]; rfl⟩, by simp [intOf] <;> omega⟩
          · go_wp2_with fail
            go_region
            go_wp2_with fail
            refine (sift_sw blk off cap 0 k a d (swp dk a (a + k)) w _ HH.out hblk ?hs (by omega) (by omega) hsz).mono ?_
            case hs =>
              simp only [HG.out]
              exact sw_swap hblk HSK.out a (a + k) (by omega) (by omega) _
            rintro e w1 ⟨rfl, hs1⟩
            have HS1 := hide hs1
            clear hs1 HSK
            go_wp2_with fail
            exact ⟨⟨k, siftDown ltInt k a 0 (swp dk a (a + k)), rfl, by omega, HS1.out, by rw [← HP.out]; rfl⟩, by simp [intOf] <;> omega⟩
        | zero =>
          have hneg : decide ((0 : Int) ≤ ((0 : Nat) : Int) - 1) = false := by decide
          have hk0 : ¬ ((0 : Int) ≤ ((0 : Nat) : Int) - 1) := by decide
          go_wp2_with fail
          go_end0
          exact ⟨rfl, by rw [HD.out, ← HB.out, ← HP.out]; exact HSK.out⟩

theorem rev_go (i j : Nat) (d : Array Int) (h : i < j) : reverseLoop i j d = reverseLoop (i + 1) (j - 1) (swp d i j) := by rw [reverseLoop, if_pos h]
theorem rev_stop (i j : Nat) (d : Array Int) (h : ¬ i < j) : reverseLoop i j d = d := by rw [reverseLoop, if_neg h]

set_option maxHeartbeats 2000000 in
set_option maxRecDepth 100000 in
theorem reverse_u (blk off cap a b : Nat) (d : Array Int) (w : World) (hH : Holds (Value.int .u32) w blk off d) (hblk : blk < w.heap.size) (hab : a < b) (hb : b ≤ d.size) (hsz : d.size ≤ 1000000) :
    Calls Tryd.prog 68 #[.slice (some ⟨blk, off, none⟩) d.size cap, .int .i64 a, .int .i64 b] w fun e w' => e = .returned (.tuple #[]) ∧ SW w blk off d (Sort.reverseRange d a b) w' := by
  have HH := hide hH
  clear hH
  go_enter Tryd.func68, Tryd.ntmps68
  go_wp2_with fail
  go_loopw [6, 7] (fun vi vj wr => ∃ (i j : Nat) (dk : Array Int), vi = .int .i64 i ∧ vj = .int .i64 j ∧ a ≤ i ∧ j < b ∧ i ≤ j + 1 ∧ SW w blk off d dk wr ∧ reverseLoop i j dk = reverseLoop a (b - 1) d) (fun _ vj _ => (intOf vj).toNat)
  case atStart => exact ⟨a, b - 1, d, rfl, by congr 1; omega, by omega, by omega, by omega, sw_refl HH.out, rfl⟩
  case round =>
    obtain ⟨i, j, dk, rfl, rfl, hai, hjb, hij, hsk, hP⟩ := hrel
    have HSK := hide hsk
    have HP := hide hP
    have hho := sw_holds HH.out hblk hsk
    have hsize : dk.size = d.size := hsk.1
    obtain ⟨G, hG⟩ : ∃ G : Nat → Int, ∀ t, G t = dk[t]! := ⟨fun t => dk[t]!, fun _ => rfl⟩
    have hcw : ∀ t, t < d.size → wr.cell? ⟨blk, off + t, none⟩ = some (.int .u32 (G t)) := fun t ht => by rw [hG]; exact (hho.1 t (by omega)).1
    have hfw : ∀ t, t < d.size → wr.frozen? ⟨blk, off + t, none⟩ = false := fun t ht => (hho.1 t (by omega)).2
    have HG := hide hG
    clear hG hho hsize hsk hP
    by_cases hlt : i < j
    · have hlt' : (i : Int) < (j : Int) := by omega
      go_wp2_with fail
      go_region
      go_wp2_with fail
      refine ⟨⟨i + 1, j - 1, swp dk i j, by simp <;> omega, by simp <;> omega, by omega, by omega, by omega, ?_, by rw [← HP.out, rev_go i j dk hlt]⟩, by simp [intOf] <;> omega⟩
      simp only [HG.out]
      exact sw_swap hblk HSK.out i j (by omega) (by omega) _
    · have hlt' : ¬ (i : Int) < (j : Int) := by omega
      go_wp2_with fail
      go_end0
      exact ⟨rfl, by unfold Sort.reverseRange; rw [← HP.out, rev_stop i j dk hlt]; exact HSK.out⟩
end Go.Proofs.YtkpoanjcalolkaaDoor

