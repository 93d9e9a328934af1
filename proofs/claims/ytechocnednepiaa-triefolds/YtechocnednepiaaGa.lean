import Derived.Test.YtechocnednepiaaL10
/- The document's Above and Below. -/
namespace Go.Proofs.Ytechocnednepiaa
open Go.RowKit

def refUpL (l : Prs) (p : Pf) : List Pf := (l.filter fun x => Ad.contains x.1.1 x.1.2 p.1 p.2).map Prod.fst
theorem refUpL_succ (l : Prs) (p : Pf) (k : Nat) (h : k < l.length) : refUpL (l.take (k + 1)) p = refUpL (l.take k) p ++ (if Ad.contains l[k].1.1 l[k].1.2 p.1 p.2 = true then [l[k].1] else []) := by
  unfold refUpL
  rw [List.take_succ_eq_append_getElem h, List.filter_append, List.map_append]
  congr 1
  by_cases hc : Ad.contains l[k].1.1 l[k].1.2 p.1 p.2 = true
  · simp [hc]
  · simp [hc]
theorem refUpL_len (l : Prs) (p : Pf) : (refUpL l p).length ≤ l.length := by unfold refUpL; rw [List.length_map]; exact List.length_filter_le _ _
set_option maxHeartbeats 8000000 in
set_option maxRecDepth 100000 in
theorem refUp_is (ao : Option Addr) (cap : Nat) (l : Prs) (p : Pf) (w : World) (hR : Pr.rowAt w ao l) (hn : l.length ≤ 1000) (hf : ∀ x ∈ l, 0 ≤ x.1.1 ∧ x.1.1 ≤ 4294967295) (hp0 : 0 ≤ p.1) (hp1 : p.1 ≤ 4294967295) :
    Calls Try.prog 44 #[.slice ao l.length cap, pv p] w (Lists w (refUpL l p)) := by
  have HR := hide hR
  have HF := hide hf
  have HP := hide (And.intro hp0 hp1)
  have TB0 := hide (two_new w p)
  have BB0 := hide (balloc (brefl w) (.cells #[.int .u32 p.1, .int .i64 p.2] 30))
  have HSU := hide (fun k h => refUpL_succ l p k h)
  have HLE : Hid (∀ k, (refUpL (l.take k) p).length ≤ 1000) := fun k => Nat.le_trans (refUpL_len _ _) (by rw [List.length_take]; omega)
  have HAL : Hid (refUpL (l.take l.length) p = refUpL l p) := by show _ = _; rw [List.take_length]
  have TBW0 := TB0
  clear hR hf
  obtain ⟨p0, p1⟩ := p
  unfold pv
  go_enter Try.func44, Try.ntmps44
  go_wp2_with fail
  generalize w.alloc (.cells #[.int .u32 p0, .int .i64 p1] 30) = W at *
  have TBW := TBW0
  clear TBW0
  go_loopw [5, 6] (fun v5 v6 wr => ∃ k : Nat, k ≤ l.length ∧ v6 = .int .i64 k ∧ Hid (wr.ownsRow W.heap.size 30 2 v5 (refUpL (l.take k) (p0, p1)).length (Ad.cells (refUpL (l.take k) (p0, p1)))) ∧ Hid (Below W.heap.size W wr) ∧ Hid (Two wr w.heap.size (p0, p1))) (fun _ v6 _ => l.length - (intOf v6).toNat)
  case atStart => exact ⟨0, Nat.zero_le _, rfl, ⟨rfl, .inl ⟨rfl, rfl⟩⟩, hide (brefl W), TB0⟩
  case round =>
    obtain ⟨k, hk, rfl, HO, HB, TB⟩ := hrel
    clear TB0
    by_cases hlt : k < l.length
    · have hlt' : (k : Int) < (l.length : Int) := by omega
      obtain ⟨b, off, rfl, r1⟩ : ∃ b off, ao = some ⟨b, off, none⟩ ∧ Pr.reads wr b off l := by
        rcases Pr.rowAt_below HR.out (bthen BB0.out HB.out) with h | h
        · rw [h] at hlt; simp at hlt
        · exact h
      obtain ⟨e0, e1, _⟩ := Pr.reads_at r1 k hlt
      obtain ⟨d0, d1, _, _⟩ := TB.out.cells
      have HX := hide (HF.out l[k] (List.getElem_mem hlt))
      have HS := hide (HSU.out k hlt)
      have hle := HLE.out k
      clear r1
      generalize refUpL (l.take k) (p0, p1) = L0 at *
      generalize l[k].1 = x at *
      obtain ⟨x0, x1⟩ := x
      try simp only at HS
      try simp only at HX
      cases hc : Ad.contains x0 x1 p0 p1
      · rw [hc] at HS
        simp only [Bool.false_eq_true, if_false, List.append_nil] at HS
        have CB := hide (fun W => refContains_is x0 x1 p0 p1 false hc W HX.out.1 HX.out.2 HP.out.1 HP.out.2)
        clear hc
        go_wp2_with fail
        refine wp_region_held_drew (S := fun w' => (w'.cell? ⟨w.heap.size, 0, none⟩ = some (.int .u32 p0) ∧ w'.cell? ⟨w.heap.size, 1, none⟩ = some (.int .i64 p1)) ∧ (w'.cell? ⟨b, off + k * 3, none⟩ = some (.int .u32 x0) ∧ w'.cell? ⟨b, off + k * 3 + 1, none⟩ = some (.int .i64 x1))) (by kernel_rfl) ⟨⟨d0, d1⟩, ⟨e0, e1⟩⟩ (fun hHeld => ?_)
        refine wpAnyH_take (i := 0) (v := .slice (some ⟨b, off, none⟩) l.length cap) rfl (by kernel_rfl) (by kernel_rfl) (by kernel_rfl) (fun _ _ _ h => h) (Or.inl ⟨by rfl, fun w hSw => by dsimp only at hSw; go_simp⟩) hHeld ?_
        simp only [Act.put, List.getElem_toArray, List.getElem_cons_zero, List.setIfInBounds_toArray, List.set_cons_zero, List.set_cons_succ]
        refine wpAnyH_take (i := 1) (v := .int .i64 k) rfl (by kernel_rfl) (by kernel_rfl) (by kernel_rfl) (fun _ _ _ h => h) (Or.inl ⟨by rfl, fun w hSw => by dsimp only at hSw; go_simp⟩) hHeld ?_
        simp only [Act.put, List.getElem_toArray, List.getElem_cons_zero, List.getElem_cons_succ, List.setIfInBounds_toArray, List.set_cons_zero, List.set_cons_succ]
        refine wpAnyH_take (i := 2) (v := .pointer (some ⟨b, off + k * 3, none⟩)) rfl (by kernel_rfl) (by kernel_rfl) (by kernel_rfl) (fun _ _ _ h => h) (Or.inl ⟨by rfl, fun w hSw => by dsimp only at hSw; go_simp⟩) hHeld ?_
        simp only [Act.put, List.getElem_toArray, List.getElem_cons_zero, List.getElem_cons_succ, List.setIfInBounds_toArray, List.set_cons_zero, List.set_cons_succ]
        refine wpAnyH_take (i := 3) (v := .pointer (some ⟨b, off + k * 3, none⟩)) rfl (by kernel_rfl) (by kernel_rfl) (by kernel_rfl) (fun _ _ _ h => h) (Or.inl ⟨by rfl, fun w hSw => by dsimp only at hSw; go_simp⟩) hHeld ?_
        simp only [Act.put, List.getElem_toArray, List.getElem_cons_zero, List.getElem_cons_succ, List.setIfInBounds_toArray, List.set_cons_zero, List.set_cons_succ]
        refine wpAnyH_take (i := 4) (v := .agg #[.int .u32 x0, .int .i64 x1]) rfl (by kernel_rfl) (by kernel_rfl) (by kernel_rfl) (fun _ _ _ h => h) (Or.inl ⟨by rfl, fun w hSw => by dsimp only at hSw; go_simp⟩) hHeld ?_
        simp only [Act.put, List.getElem_toArray, List.getElem_cons_zero, List.getElem_cons_succ, List.setIfInBounds_toArray, List.set_cons_zero, List.set_cons_succ]
        refine wpAnyH_take (i := 5) (v := .agg #[.int .u32 p0, .int .i64 p1]) rfl (by kernel_rfl) (by kernel_rfl) (by kernel_rfl) (fun _ _ _ h => h) (Or.inl ⟨by rfl, fun w hSw => by dsimp only at hSw; go_simp⟩) hHeld ?_
        simp only [Act.put, List.getElem_toArray, List.getElem_cons_zero, List.getElem_cons_succ, List.setIfInBounds_toArray, List.set_cons_zero, List.set_cons_succ]
        refine wpAnyH_ready (rs := [6]) (by kernel_rfl) (by simp) ?_
        refine AllReadyH.cons rfl (fun K hK => ?_) AllReadyH.nil
        go_simp
        go_wp2_with (go_at_call 61; refine (CB.out _).mono ?_; rintro e w4 ⟨rfl, hb4⟩; have HB4 := hide (bthen HB.out.drew hb4); have HBW := hide hb4; have T4 := hide ((TB.out.below (Below.drew (brefl _))).below hb4); have HH := hide (And.intro (And.intro T4.out.cells.1 T4.out.cells.2.1) (And.intro ((hb4.cell (p := ⟨b, off + k * 3, none⟩) (block_lt_of_cell e0)).trans e0) ((hb4.cell (p := ⟨b, off + k * 3 + 1, none⟩) (block_lt_of_cell e1)).trans e1))); clear hb4)
        refine hK.out _ _ HH.out (fun hHeld => ?_)
        clear hK K
        try simp only [Act.put, List.getElem_toArray, List.getElem_cons_zero, List.getElem_cons_succ, List.setIfInBounds_toArray, List.set_cons_zero, List.set_cons_succ]
        refine wpAnyH_done (by kernel_rfl) ?_ _
        go_wp2_with fail
        exact ⟨⟨k + 1, by omega, by go_num, by rw [HS.out]; exact hide (row_below HO.out (bthen (Below.drew (brefl _)) HBW.out)), HB4, T4⟩, by simp [intOf]; omega⟩
      · rw [hc] at HS
        simp only [if_true] at HS
        have CB := hide (fun W => refContains_is x0 x1 p0 p1 true hc W HX.out.1 HX.out.2 HP.out.1 HP.out.2)
        clear hc
        go_wp2_with fail
        refine wp_region_held_drew (S := fun w' => (w'.cell? ⟨w.heap.size, 0, none⟩ = some (.int .u32 p0) ∧ w'.cell? ⟨w.heap.size, 1, none⟩ = some (.int .i64 p1)) ∧ (w'.cell? ⟨b, off + k * 3, none⟩ = some (.int .u32 x0) ∧ w'.cell? ⟨b, off + k * 3 + 1, none⟩ = some (.int .i64 x1))) (by kernel_rfl) ⟨⟨d0, d1⟩, ⟨e0, e1⟩⟩ (fun hHeld => ?_)
        refine wpAnyH_take (i := 0) (v := .slice (some ⟨b, off, none⟩) l.length cap) rfl (by kernel_rfl) (by kernel_rfl) (by kernel_rfl) (fun _ _ _ h => h) (Or.inl ⟨by rfl, fun w hSw => by dsimp only at hSw; go_simp⟩) hHeld ?_
        simp only [Act.put, List.getElem_toArray, List.getElem_cons_zero, List.setIfInBounds_toArray, List.set_cons_zero, List.set_cons_succ]
        refine wpAnyH_take (i := 1) (v := .int .i64 k) rfl (by kernel_rfl) (by kernel_rfl) (by kernel_rfl) (fun _ _ _ h => h) (Or.inl ⟨by rfl, fun w hSw => by dsimp only at hSw; go_simp⟩) hHeld ?_
        simp only [Act.put, List.getElem_toArray, List.getElem_cons_zero, List.getElem_cons_succ, List.setIfInBounds_toArray, List.set_cons_zero, List.set_cons_succ]
        refine wpAnyH_take (i := 2) (v := .pointer (some ⟨b, off + k * 3, none⟩)) rfl (by kernel_rfl) (by kernel_rfl) (by kernel_rfl) (fun _ _ _ h => h) (Or.inl ⟨by rfl, fun w hSw => by dsimp only at hSw; go_simp⟩) hHeld ?_
        simp only [Act.put, List.getElem_toArray, List.getElem_cons_zero, List.getElem_cons_succ, List.setIfInBounds_toArray, List.set_cons_zero, List.set_cons_succ]
        refine wpAnyH_take (i := 3) (v := .pointer (some ⟨b, off + k * 3, none⟩)) rfl (by kernel_rfl) (by kernel_rfl) (by kernel_rfl) (fun _ _ _ h => h) (Or.inl ⟨by rfl, fun w hSw => by dsimp only at hSw; go_simp⟩) hHeld ?_
        simp only [Act.put, List.getElem_toArray, List.getElem_cons_zero, List.getElem_cons_succ, List.setIfInBounds_toArray, List.set_cons_zero, List.set_cons_succ]
        refine wpAnyH_take (i := 4) (v := .agg #[.int .u32 x0, .int .i64 x1]) rfl (by kernel_rfl) (by kernel_rfl) (by kernel_rfl) (fun _ _ _ h => h) (Or.inl ⟨by rfl, fun w hSw => by dsimp only at hSw; go_simp⟩) hHeld ?_
        simp only [Act.put, List.getElem_toArray, List.getElem_cons_zero, List.getElem_cons_succ, List.setIfInBounds_toArray, List.set_cons_zero, List.set_cons_succ]
        refine wpAnyH_take (i := 5) (v := .agg #[.int .u32 p0, .int .i64 p1]) rfl (by kernel_rfl) (by kernel_rfl) (by kernel_rfl) (fun _ _ _ h => h) (Or.inl ⟨by rfl, fun w hSw => by dsimp only at hSw; go_simp⟩) hHeld ?_
        simp only [Act.put, List.getElem_toArray, List.getElem_cons_zero, List.getElem_cons_succ, List.setIfInBounds_toArray, List.set_cons_zero, List.set_cons_succ]
        refine wpAnyH_ready (rs := [6]) (by kernel_rfl) (by simp) ?_
        refine AllReadyH.cons rfl (fun K hK => ?_) AllReadyH.nil
        go_simp
        go_wp2_with (go_at_call 61; refine (CB.out _).mono ?_; rintro e w4 ⟨rfl, hb4⟩; have HB4 := hide (bthen HB.out.drew hb4); have HBW := hide hb4; have T4 := hide ((TB.out.below (Below.drew (brefl _))).below hb4); have HH := hide (And.intro (And.intro T4.out.cells.1 T4.out.cells.2.1) (And.intro ((hb4.cell (p := ⟨b, off + k * 3, none⟩) (block_lt_of_cell e0)).trans e0) ((hb4.cell (p := ⟨b, off + k * 3 + 1, none⟩) (block_lt_of_cell e1)).trans e1))); clear hb4)
        refine hK.out _ _ HH.out (fun hHeld => ?_)
        clear hK K
        try simp only [Act.put, List.getElem_toArray, List.getElem_cons_zero, List.getElem_cons_succ, List.setIfInBounds_toArray, List.set_cons_zero, List.set_cons_succ]
        refine wpAnyH_done (by kernel_rfl) ?_ _
        obtain ⟨⟨d0, d1⟩, ⟨e0, e1⟩⟩ := HH.out
        have HO4 := hide (row_below HO.out (bthen (Below.drew (brefl _)) HBW.out))
        go_wp2_with (at_builtin; go_must (refine append_pfs (w0 := W) rfl _ _ rfl _ L0.length L0 rfl (HO4.out.alloc _) (some ⟨w4.heap.size, 0, none⟩) 1 1 [(x0, x1)] rfl rfl (row_oneP w4 (x0, x1)) (came_some _ _ _) (by omega) (balloc HB4.out _) ?_))
        intro v7 w7 ho7 hb7
        have HO7 := hide ho7
        have B7 := hide hb7
        have T7 : Hid (Two w7 w.heap.size (p0, p1)) := (hb7.block _ (lt_of_block TBW.out)).trans TBW.out
        clear ho7 hb7
        go_wp2_with fail
        exact ⟨⟨k + 1, by omega, by go_num, by rw [HS.out]; simpa using HO7, B7, T7⟩, by simp [intOf]; omega⟩
    · obtain rfl : k = l.length := by omega
      rw [HAL.out] at HO
      obtain ⟨ar, cr, hv, hrow, hcm⟩ := own_shape HO.out
      subst hv
      have HRW := hide hrow
      have HCM := hide hcm
      clear hrow hcm
      go_wp2_with fail
      go_ret
      exact ⟨ar, cr, rfl, HRW.out, bthen BB0.out HB.out, HCM.out⟩
def refDnL (l : Prs) (p : Pf) : List Pf := (l.filter fun x => Ad.contains p.1 p.2 x.1.1 x.1.2).map Prod.fst
theorem refDnL_succ (l : Prs) (p : Pf) (k : Nat) (h : k < l.length) : refDnL (l.take (k + 1)) p = refDnL (l.take k) p ++ (if Ad.contains p.1 p.2 l[k].1.1 l[k].1.2 = true then [l[k].1] else []) := by
  unfold refDnL
  rw [List.take_succ_eq_append_getElem h, List.filter_append, List.map_append]
  congr 1
  by_cases hc : Ad.contains p.1 p.2 l[k].1.1 l[k].1.2 = true
  · simp [hc]
  · simp [hc]
theorem refDnL_len (l : Prs) (p : Pf) : (refDnL l p).length ≤ l.length := by unfold refDnL; rw [List.length_map]; exact List.length_filter_le _ _
set_option maxHeartbeats 8000000 in
set_option maxRecDepth 100000 in
theorem refDn_is (ao : Option Addr) (cap : Nat) (l : Prs) (p : Pf) (w : World) (hR : Pr.rowAt w ao l) (hn : l.length ≤ 1000) (hf : ∀ x ∈ l, 0 ≤ x.1.1 ∧ x.1.1 ≤ 4294967295) (hp0 : 0 ≤ p.1) (hp1 : p.1 ≤ 4294967295) :
    Calls Try.prog 45 #[.slice ao l.length cap, pv p] w (Lists w (refDnL l p)) := by
  have HR := hide hR
  have HF := hide hf
  have HP := hide (And.intro hp0 hp1)
  have TB0 := hide (two_new w p)
  have BB0 := hide (balloc (brefl w) (.cells #[.int .u32 p.1, .int .i64 p.2] 30))
  have HSU := hide (fun k h => refDnL_succ l p k h)
  have HLE : Hid (∀ k, (refDnL (l.take k) p).length ≤ 1000) := fun k => Nat.le_trans (refDnL_len _ _) (by rw [List.length_take]; omega)
  have HAL : Hid (refDnL (l.take l.length) p = refDnL l p) := by show _ = _; rw [List.take_length]
  have TBW0 := TB0
  clear hR hf
  obtain ⟨p0, p1⟩ := p
  unfold pv
  go_enter Try.func45, Try.ntmps45
  go_wp2_with fail
  generalize w.alloc (.cells #[.int .u32 p0, .int .i64 p1] 30) = W at *
  have TBW := TBW0
  clear TBW0
  go_loopw [5, 6] (fun v5 v6 wr => ∃ k : Nat, k ≤ l.length ∧ v6 = .int .i64 k ∧ Hid (wr.ownsRow W.heap.size 30 2 v5 (refDnL (l.take k) (p0, p1)).length (Ad.cells (refDnL (l.take k) (p0, p1)))) ∧ Hid (Below W.heap.size W wr) ∧ Hid (Two wr w.heap.size (p0, p1))) (fun _ v6 _ => l.length - (intOf v6).toNat)
  case atStart => exact ⟨0, Nat.zero_le _, rfl, ⟨rfl, .inl ⟨rfl, rfl⟩⟩, hide (brefl W), TB0⟩
  case round =>
    obtain ⟨k, hk, rfl, HO, HB, TB⟩ := hrel
    clear TB0
    by_cases hlt : k < l.length
    · have hlt' : (k : Int) < (l.length : Int) := by omega
      obtain ⟨b, off, rfl, r1⟩ : ∃ b off, ao = some ⟨b, off, none⟩ ∧ Pr.reads wr b off l := by
        rcases Pr.rowAt_below HR.out (bthen BB0.out HB.out) with h | h
        · rw [h] at hlt; simp at hlt
        · exact h
      obtain ⟨e0, e1, _⟩ := Pr.reads_at r1 k hlt
      obtain ⟨d0, d1, _, _⟩ := TB.out.cells
      have HX := hide (HF.out l[k] (List.getElem_mem hlt))
      have HS := hide (HSU.out k hlt)
      have hle := HLE.out k
      clear r1
      generalize refDnL (l.take k) (p0, p1) = L0 at *
      generalize l[k].1 = x at *
      obtain ⟨x0, x1⟩ := x
      try simp only at HS
      try simp only at HX
      cases hc : Ad.contains p0 p1 x0 x1
      · rw [hc] at HS
        simp only [Bool.false_eq_true, if_false, List.append_nil] at HS
        have CB := hide (fun W => refContains_is p0 p1 x0 x1 false hc W HP.out.1 HP.out.2 HX.out.1 HX.out.2)
        clear hc
        go_wp2_with fail
        refine wp_region_held_drew (S := fun w' => (w'.cell? ⟨w.heap.size, 0, none⟩ = some (.int .u32 p0) ∧ w'.cell? ⟨w.heap.size, 1, none⟩ = some (.int .i64 p1)) ∧ (w'.cell? ⟨b, off + k * 3, none⟩ = some (.int .u32 x0) ∧ w'.cell? ⟨b, off + k * 3 + 1, none⟩ = some (.int .i64 x1))) (by kernel_rfl) ⟨⟨d0, d1⟩, ⟨e0, e1⟩⟩ (fun hHeld => ?_)
        refine wpAnyH_take (i := 0) (v := .agg #[.int .u32 p0, .int .i64 p1]) rfl (by kernel_rfl) (by kernel_rfl) (by kernel_rfl) (fun _ _ _ h => h) (Or.inl ⟨by rfl, fun w hSw => by dsimp only at hSw; go_simp⟩) hHeld ?_
        simp only [Act.put, List.getElem_toArray, List.getElem_cons_zero, List.setIfInBounds_toArray, List.set_cons_zero, List.set_cons_succ]
        refine wpAnyH_take (i := 1) (v := .slice (some ⟨b, off, none⟩) l.length cap) rfl (by kernel_rfl) (by kernel_rfl) (by kernel_rfl) (fun _ _ _ h => h) (Or.inl ⟨by rfl, fun w hSw => by dsimp only at hSw; go_simp⟩) hHeld ?_
        simp only [Act.put, List.getElem_toArray, List.getElem_cons_zero, List.getElem_cons_succ, List.setIfInBounds_toArray, List.set_cons_zero, List.set_cons_succ]
        refine wpAnyH_take (i := 2) (v := .int .i64 k) rfl (by kernel_rfl) (by kernel_rfl) (by kernel_rfl) (fun _ _ _ h => h) (Or.inl ⟨by rfl, fun w hSw => by dsimp only at hSw; go_simp⟩) hHeld ?_
        simp only [Act.put, List.getElem_toArray, List.getElem_cons_zero, List.getElem_cons_succ, List.setIfInBounds_toArray, List.set_cons_zero, List.set_cons_succ]
        refine wpAnyH_take (i := 3) (v := .pointer (some ⟨b, off + k * 3, none⟩)) rfl (by kernel_rfl) (by kernel_rfl) (by kernel_rfl) (fun _ _ _ h => h) (Or.inl ⟨by rfl, fun w hSw => by dsimp only at hSw; go_simp⟩) hHeld ?_
        simp only [Act.put, List.getElem_toArray, List.getElem_cons_zero, List.getElem_cons_succ, List.setIfInBounds_toArray, List.set_cons_zero, List.set_cons_succ]
        refine wpAnyH_take (i := 4) (v := .pointer (some ⟨b, off + k * 3, none⟩)) rfl (by kernel_rfl) (by kernel_rfl) (by kernel_rfl) (fun _ _ _ h => h) (Or.inl ⟨by rfl, fun w hSw => by dsimp only at hSw; go_simp⟩) hHeld ?_
        simp only [Act.put, List.getElem_toArray, List.getElem_cons_zero, List.getElem_cons_succ, List.setIfInBounds_toArray, List.set_cons_zero, List.set_cons_succ]
        refine wpAnyH_take (i := 5) (v := .agg #[.int .u32 x0, .int .i64 x1]) rfl (by kernel_rfl) (by kernel_rfl) (by kernel_rfl) (fun _ _ _ h => h) (Or.inl ⟨by rfl, fun w hSw => by dsimp only at hSw; go_simp⟩) hHeld ?_
        simp only [Act.put, List.getElem_toArray, List.getElem_cons_zero, List.getElem_cons_succ, List.setIfInBounds_toArray, List.set_cons_zero, List.set_cons_succ]
        refine wpAnyH_ready (rs := [6]) (by kernel_rfl) (by simp) ?_
        refine AllReadyH.cons rfl (fun K hK => ?_) AllReadyH.nil
        go_simp
        go_wp2_with (go_at_call 61; refine (CB.out _).mono ?_; rintro e w4 ⟨rfl, hb4⟩; have HB4 := hide (bthen HB.out.drew hb4); have HBW := hide hb4; have T4 := hide ((TB.out.below (Below.drew (brefl _))).below hb4); have HH := hide (And.intro (And.intro T4.out.cells.1 T4.out.cells.2.1) (And.intro ((hb4.cell (p := ⟨b, off + k * 3, none⟩) (block_lt_of_cell e0)).trans e0) ((hb4.cell (p := ⟨b, off + k * 3 + 1, none⟩) (block_lt_of_cell e1)).trans e1))); clear hb4)
        refine hK.out _ _ HH.out (fun hHeld => ?_)
        clear hK K
        try simp only [Act.put, List.getElem_toArray, List.getElem_cons_zero, List.getElem_cons_succ, List.setIfInBounds_toArray, List.set_cons_zero, List.set_cons_succ]
        refine wpAnyH_done (by kernel_rfl) ?_ _
        go_wp2_with fail
        exact ⟨⟨k + 1, by omega, by go_num, by rw [HS.out]; exact hide (row_below HO.out (bthen (Below.drew (brefl _)) HBW.out)), HB4, T4⟩, by simp [intOf]; omega⟩
      · rw [hc] at HS
        simp only [if_true] at HS
        have CB := hide (fun W => refContains_is p0 p1 x0 x1 true hc W HP.out.1 HP.out.2 HX.out.1 HX.out.2)
        clear hc
        go_wp2_with fail
        refine wp_region_held_drew (S := fun w' => (w'.cell? ⟨w.heap.size, 0, none⟩ = some (.int .u32 p0) ∧ w'.cell? ⟨w.heap.size, 1, none⟩ = some (.int .i64 p1)) ∧ (w'.cell? ⟨b, off + k * 3, none⟩ = some (.int .u32 x0) ∧ w'.cell? ⟨b, off + k * 3 + 1, none⟩ = some (.int .i64 x1))) (by kernel_rfl) ⟨⟨d0, d1⟩, ⟨e0, e1⟩⟩ (fun hHeld => ?_)
        refine wpAnyH_take (i := 0) (v := .agg #[.int .u32 p0, .int .i64 p1]) rfl (by kernel_rfl) (by kernel_rfl) (by kernel_rfl) (fun _ _ _ h => h) (Or.inl ⟨by rfl, fun w hSw => by dsimp only at hSw; go_simp⟩) hHeld ?_
        simp only [Act.put, List.getElem_toArray, List.getElem_cons_zero, List.setIfInBounds_toArray, List.set_cons_zero, List.set_cons_succ]
        refine wpAnyH_take (i := 1) (v := .slice (some ⟨b, off, none⟩) l.length cap) rfl (by kernel_rfl) (by kernel_rfl) (by kernel_rfl) (fun _ _ _ h => h) (Or.inl ⟨by rfl, fun w hSw => by dsimp only at hSw; go_simp⟩) hHeld ?_
        simp only [Act.put, List.getElem_toArray, List.getElem_cons_zero, List.getElem_cons_succ, List.setIfInBounds_toArray, List.set_cons_zero, List.set_cons_succ]
        refine wpAnyH_take (i := 2) (v := .int .i64 k) rfl (by kernel_rfl) (by kernel_rfl) (by kernel_rfl) (fun _ _ _ h => h) (Or.inl ⟨by rfl, fun w hSw => by dsimp only at hSw; go_simp⟩) hHeld ?_
        simp only [Act.put, List.getElem_toArray, List.getElem_cons_zero, List.getElem_cons_succ, List.setIfInBounds_toArray, List.set_cons_zero, List.set_cons_succ]
        refine wpAnyH_take (i := 3) (v := .pointer (some ⟨b, off + k * 3, none⟩)) rfl (by kernel_rfl) (by kernel_rfl) (by kernel_rfl) (fun _ _ _ h => h) (Or.inl ⟨by rfl, fun w hSw => by dsimp only at hSw; go_simp⟩) hHeld ?_
        simp only [Act.put, List.getElem_toArray, List.getElem_cons_zero, List.getElem_cons_succ, List.setIfInBounds_toArray, List.set_cons_zero, List.set_cons_succ]
        refine wpAnyH_take (i := 4) (v := .pointer (some ⟨b, off + k * 3, none⟩)) rfl (by kernel_rfl) (by kernel_rfl) (by kernel_rfl) (fun _ _ _ h => h) (Or.inl ⟨by rfl, fun w hSw => by dsimp only at hSw; go_simp⟩) hHeld ?_
        simp only [Act.put, List.getElem_toArray, List.getElem_cons_zero, List.getElem_cons_succ, List.setIfInBounds_toArray, List.set_cons_zero, List.set_cons_succ]
        refine wpAnyH_take (i := 5) (v := .agg #[.int .u32 x0, .int .i64 x1]) rfl (by kernel_rfl) (by kernel_rfl) (by kernel_rfl) (fun _ _ _ h => h) (Or.inl ⟨by rfl, fun w hSw => by dsimp only at hSw; go_simp⟩) hHeld ?_
        simp only [Act.put, List.getElem_toArray, List.getElem_cons_zero, List.getElem_cons_succ, List.setIfInBounds_toArray, List.set_cons_zero, List.set_cons_succ]
        refine wpAnyH_ready (rs := [6]) (by kernel_rfl) (by simp) ?_
        refine AllReadyH.cons rfl (fun K hK => ?_) AllReadyH.nil
        go_simp
        go_wp2_with (go_at_call 61; refine (CB.out _).mono ?_; rintro e w4 ⟨rfl, hb4⟩; have HB4 := hide (bthen HB.out.drew hb4); have HBW := hide hb4; have T4 := hide ((TB.out.below (Below.drew (brefl _))).below hb4); have HH := hide (And.intro (And.intro T4.out.cells.1 T4.out.cells.2.1) (And.intro ((hb4.cell (p := ⟨b, off + k * 3, none⟩) (block_lt_of_cell e0)).trans e0) ((hb4.cell (p := ⟨b, off + k * 3 + 1, none⟩) (block_lt_of_cell e1)).trans e1))); clear hb4)
        refine hK.out _ _ HH.out (fun hHeld => ?_)
        clear hK K
        try simp only [Act.put, List.getElem_toArray, List.getElem_cons_zero, List.getElem_cons_succ, List.setIfInBounds_toArray, List.set_cons_zero, List.set_cons_succ]
        refine wpAnyH_done (by kernel_rfl) ?_ _
        obtain ⟨⟨d0, d1⟩, ⟨e0, e1⟩⟩ := HH.out
        have HO4 := hide (row_below HO.out (bthen (Below.drew (brefl _)) HBW.out))
        go_wp2_with (at_builtin; go_must (refine append_pfs (w0 := W) rfl _ _ rfl _ L0.length L0 rfl (HO4.out.alloc _) (some ⟨w4.heap.size, 0, none⟩) 1 1 [(x0, x1)] rfl rfl (row_oneP w4 (x0, x1)) (came_some _ _ _) (by omega) (balloc HB4.out _) ?_))
        intro v7 w7 ho7 hb7
        have HO7 := hide ho7
        have B7 := hide hb7
        have T7 : Hid (Two w7 w.heap.size (p0, p1)) := (hb7.block _ (lt_of_block TBW.out)).trans TBW.out
        clear ho7 hb7
        go_wp2_with fail
        exact ⟨⟨k + 1, by omega, by go_num, by rw [HS.out]; simpa using HO7, B7, T7⟩, by simp [intOf]; omega⟩
    · obtain rfl : k = l.length := by omega
      rw [HAL.out] at HO
      obtain ⟨ar, cr, hv, hrow, hcm⟩ := own_shape HO.out
      subst hv
      have HRW := hide hrow
      have HCM := hide hcm
      clear hrow hcm
      go_wp2_with fail
      go_ret
      exact ⟨ar, cr, rfl, HRW.out, bthen BB0.out HB.out, HCM.out⟩
end Go.Proofs.Ytechocnednepiaa
