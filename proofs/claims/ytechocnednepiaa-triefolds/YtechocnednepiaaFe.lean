import Derived.Test.YtechocnednepiaaFd
import Derived.Deep.RegionHeldLaw
/- A trie folded by putting texts together: the fold itself. -/
namespace Go.Proofs.Ytechocnednepiaa
open Go.RowKit

/-- What a half puts into the text. -/
def brk : Nt → Tx → Tx
  | .nil, _ => []
  | .nd _ _ _ _ _, s => bk s
set_option maxHeartbeats 8000000 in
set_option maxRecDepth 100000 in
theorem fold_txt {w : World} {b : Nat} {lo hi : Nt} {v : Int} {is : Bool} {s1 s2 : Tx} (hl : (Nt.nd b lo hi (.int .i64 v) is).At 89 w) (h1 : s1.length ≤ 100000) (h2 : s2.length ≤ 100000) (hv : is = true → 0 ≤ v ∧ v ≤ 1000) {R0 : Tx} (hR0 : brk lo s1 ++ (brk hi s2 ++ (if is then Lib.itoa v else [])) = R0)
    (C10 : lo ≠ .nil → ∀ W, Below w.heap.size w W → Calls Try.prog 46 #[lo.ptr, .func (.func 16) #[] #[]] W fun e w' => e = .returned (tv s1) ∧ Below W.heap.size W w')
    (C20 : hi ≠ .nil → ∀ W, Below w.heap.size w W → Calls Try.prog 46 #[hi.ptr, .func (.func 16) #[] #[]] W fun e w' => e = .returned (tv s2) ∧ Below W.heap.size W w') :
    Calls Try.prog 46 #[.pointer (some ⟨b, 0, none⟩), .func (.func 16) #[] #[]] w fun e w' => e = .returned (tv R0) ∧ Below w.heap.size w w' := by
  have HR0 := hide hR0
  have HV := hide hv
  clear hR0 hv
  have HN := hide hl.1
  obtain ⟨m0, m1, m2, m3, _⟩ := node_cells hl.1
  have i0 := idx0
  have i1 := idx1
  clear hl
  cases lo with
  | nil =>
    clear C10
    simp only [ptr_none] at m0 HN
    cases hi with
    | nil =>
      clear C20
      simp only [ptr_none] at m1 HN
      go_enter Try.func46, Try.ntmps46
      go_wp2_with fail
      refine wp_loop_rounds 3 ?_
      rw [rounds_succ]
      go_wp2_with fail
      rw [rounds_succ]
      go_wp2_with fail
      rw [rounds_succ]
      go_wp2_with fail
      obtain ⟨R, hR⟩ : ∃ R, (jn [] ++ if is = true then Lib.itoa v else []) = R := ⟨_, rfl⟩
      have CK := hide (join_is none 0 [] v is w.drew (.inl rfl) (by simp) (by simp) HV.out)
      rw [hR] at CK
      have HRR := hide hR
      clear hR
      obtain ⟨RV, hRV⟩ : ∃ RV, tv R = RV := ⟨_, rfl⟩
      rw [hRV] at CK
      have HRV := hide hRV
      clear hRV
      have HLT : Hid (b < w.drew.heap.size) := lt_of_block HN.out
      simp only [List.length_nil] at CK
      refine wp_region_held_drew (S := fun w' => w'.cell? ⟨b, 2, none⟩ = some (.int .i64 v) ∧ w'.cell? ⟨b, 3, none⟩ = some (.bool is)) (by kernel_rfl) ⟨m2, m3⟩ (fun hHeld => ?_)
      refine wpAnyH_take (i := 0) (v := .func (.func 16) #[] #[]) rfl (by kernel_rfl) (by kernel_rfl) (by kernel_rfl) (fun _ _ _ h => h) (Or.inl ⟨by rfl, fun w hSw => by dsimp only at hSw; go_simp⟩) hHeld ?_
      simp only [Act.put, List.getElem_toArray, List.getElem_cons_zero, List.setIfInBounds_toArray, List.set_cons_zero, List.set_cons_succ]
      refine wpAnyH_take (i := 1) (v := .slice none 0 0) rfl (by kernel_rfl) (by kernel_rfl) (by kernel_rfl) (fun _ _ _ h => h) (Or.inl ⟨by rfl, fun w hSw => by dsimp only at hSw; go_simp⟩) hHeld ?_
      simp only [Act.put, List.getElem_toArray, List.getElem_cons_zero, List.getElem_cons_succ, List.setIfInBounds_toArray, List.set_cons_zero, List.set_cons_succ]
      refine wpAnyH_take (i := 2) (v := .pointer (some ⟨b, 0, none⟩)) rfl (by kernel_rfl) (by kernel_rfl) (by kernel_rfl) (fun _ _ _ h => h) (Or.inl ⟨by rfl, fun w hSw => by dsimp only at hSw; go_simp⟩) hHeld ?_
      simp only [Act.put, List.getElem_toArray, List.getElem_cons_zero, List.getElem_cons_succ, List.setIfInBounds_toArray, List.set_cons_zero, List.set_cons_succ]
      refine wpAnyH_take (i := 3) (v := .pointer (some ⟨b, 0, none⟩)) rfl (by kernel_rfl) (by kernel_rfl) (by kernel_rfl) (fun _ _ _ h => h) (Or.inl ⟨by rfl, fun w hSw => by dsimp only at hSw; go_simp⟩) hHeld ?_
      simp only [Act.put, List.getElem_toArray, List.getElem_cons_zero, List.getElem_cons_succ, List.setIfInBounds_toArray, List.set_cons_zero, List.set_cons_succ]
      refine wpAnyH_take (i := 4) (v := .pointer (some ⟨b, 2, none⟩)) rfl (by kernel_rfl) (by kernel_rfl) (by kernel_rfl) (fun _ _ _ h => h) (Or.inl ⟨by rfl, fun w hSw => by dsimp only at hSw; go_simp⟩) hHeld ?_
      simp only [Act.put, List.getElem_toArray, List.getElem_cons_zero, List.getElem_cons_succ, List.setIfInBounds_toArray, List.set_cons_zero, List.set_cons_succ]
      refine wpAnyH_take (i := 5) (v := .int .i64 v) rfl (by kernel_rfl) (by kernel_rfl) (by kernel_rfl) (fun _ _ _ h => h) (Or.inl ⟨by rfl, fun w hSw => by dsimp only at hSw; go_simp⟩) hHeld ?_
      simp only [Act.put, List.getElem_toArray, List.getElem_cons_zero, List.getElem_cons_succ, List.setIfInBounds_toArray, List.set_cons_zero, List.set_cons_succ]
      refine wpAnyH_take (i := 6) (v := .pointer (some ⟨b, 0, none⟩)) rfl (by kernel_rfl) (by kernel_rfl) (by kernel_rfl) (fun _ _ _ h => h) (Or.inl ⟨by rfl, fun w hSw => by dsimp only at hSw; go_simp⟩) hHeld ?_
      simp only [Act.put, List.getElem_toArray, List.getElem_cons_zero, List.getElem_cons_succ, List.setIfInBounds_toArray, List.set_cons_zero, List.set_cons_succ]
      refine wpAnyH_take (i := 7) (v := .pointer (some ⟨b, 0, none⟩)) rfl (by kernel_rfl) (by kernel_rfl) (by kernel_rfl) (fun _ _ _ h => h) (Or.inl ⟨by rfl, fun w hSw => by dsimp only at hSw; go_simp⟩) hHeld ?_
      simp only [Act.put, List.getElem_toArray, List.getElem_cons_zero, List.getElem_cons_succ, List.setIfInBounds_toArray, List.set_cons_zero, List.set_cons_succ]
      refine wpAnyH_take (i := 8) (v := .pointer (some ⟨b, 3, none⟩)) rfl (by kernel_rfl) (by kernel_rfl) (by kernel_rfl) (fun _ _ _ h => h) (Or.inl ⟨by rfl, fun w hSw => by dsimp only at hSw; go_simp⟩) hHeld ?_
      simp only [Act.put, List.getElem_toArray, List.getElem_cons_zero, List.getElem_cons_succ, List.setIfInBounds_toArray, List.set_cons_zero, List.set_cons_succ]
      refine wpAnyH_take (i := 9) (v := .bool is) rfl (by kernel_rfl) (by kernel_rfl) (by kernel_rfl) (fun _ _ _ h => h) (Or.inl ⟨by rfl, fun w hSw => by dsimp only at hSw; go_simp⟩) hHeld ?_
      simp only [Act.put, List.getElem_toArray, List.getElem_cons_zero, List.getElem_cons_succ, List.setIfInBounds_toArray, List.set_cons_zero, List.set_cons_succ]
      refine wpAnyH_ready (rs := [10]) (by kernel_rfl) (by simp) ?_
      refine AllReadyH.cons rfl (fun K hK => ?_) AllReadyH.nil
      go_simp
      go_wp2_with (refine CK.out.mono ?_; rintro e wd ⟨rfl, hwd⟩; have BD := hide hwd; clear hwd)
      refine hK.out _ _ ⟨(BD.out.cell (p := ⟨b, 2, none⟩) HLT.out).trans m2, (BD.out.cell (p := ⟨b, 3, none⟩) HLT.out).trans m3⟩ (fun hHeld => ?_)
      clear hK K
      try simp only [Act.put, List.getElem_toArray, List.getElem_cons_zero, List.getElem_cons_succ, List.setIfInBounds_toArray, List.set_cons_zero, List.set_cons_succ]
      refine wpAnyH_take (i := 11) (v := RV) rfl (by kernel_rfl) (by kernel_rfl) (by kernel_rfl) (fun _ _ _ h => h) (Or.inl ⟨by rfl, fun w hSw => by dsimp only at hSw; go_simp⟩) hHeld ?_
      simp only [Act.put, List.getElem_toArray, List.getElem_cons_zero, List.getElem_cons_succ, List.setIfInBounds_toArray, List.set_cons_zero, List.set_cons_succ]
      refine wpAnyH_done (by kernel_rfl) ?_ _
      go_wp2_with fail
      go_ret
      refine ⟨?_, bthen (brefl w).drew BD.out⟩
      rw [← HRV.out, ← HRR.out, ← HR0.out]
      simp [jn, brk]
    | nd b2 lo2 hi2 v2 is2 =>
      have C2 := hide (C20 (by simp))
      clear C20
      simp only [ptr_nd, tv] at m1 HN C2
      go_enter Try.func46, Try.ntmps46
      go_wp2_with fail
      refine wp_loop_rounds 3 ?_
      rw [rounds_succ]
      go_wp2_with fail
      rw [rounds_succ]
      go_wp2_with fail
      refine (C2.out _ (brefl w)).mono ?_
      rintro e w1 ⟨rfl, hb1⟩
      have BB := hide hb1
      clear hb1
      go_wp2_with (at_builtin; go_must (refine append_text (w0 := w1) rfl _ _ rfl (.slice none 0 0) 0 [] rfl ⟨rfl, .inl ⟨rfl, rfl⟩⟩ s2 _ _ rfl (by simp [tv]) (by omega) (balloc (brefl w1) _) ?_))
      intro v4 w4 ho4 hb4
      have BW := hide (bthen BB.out hb4)
      obtain ⟨ar, cr, hv, hsl⟩ := ts_shape ho4 (by simp)
      subst hv
      have HSL0 := hide hsl
      obtain ⟨m0, m1, m2, m3, _⟩ := node_cells ((BW.out.block b (lt_of_block HN.out)).trans HN.out)
      clear ho4 hb4 hsl
      simp only [List.length_cons, List.length_nil, Nat.zero_add] at HSL0 ⊢
      have HSL : Hid (Ts.slot w4.drew ar [s2]) := HSL0
      have HBD : Hid (∀ x ∈ [s2], x.length ≤ 100000) := by
        intro x hx
        simp only [List.mem_cons, List.not_mem_nil, or_false] at hx
        first | (rcases hx with rfl | rfl <;> assumption) | (subst hx; assumption)
      go_wp2_with fail
      rw [rounds_succ]
      go_wp2_with fail
      obtain ⟨R, hR⟩ : ∃ R, (jn [s2] ++ if is = true then Lib.itoa v else []) = R := ⟨_, rfl⟩
      have CK := hide (join_is ar cr [s2] v is w4.drew HSL.out (by simp) HBD.out HV.out)
      rw [hR] at CK
      have HRR := hide hR
      clear hR
      obtain ⟨RV, hRV⟩ : ∃ RV, tv R = RV := ⟨_, rfl⟩
      rw [hRV] at CK
      have HRV := hide hRV
      clear hRV
      have HLT : Hid (b < w4.drew.heap.size) := Nat.lt_of_lt_of_le (lt_of_block HN.out) BW.out.size
      simp only [List.length_cons, List.length_nil, Nat.zero_add] at CK
      refine wp_region_held_drew (S := fun w' => w'.cell? ⟨b, 2, none⟩ = some (.int .i64 v) ∧ w'.cell? ⟨b, 3, none⟩ = some (.bool is)) (by kernel_rfl) ⟨m2, m3⟩ (fun hHeld => ?_)
      refine wpAnyH_take (i := 0) (v := .func (.func 16) #[] #[]) rfl (by kernel_rfl) (by kernel_rfl) (by kernel_rfl) (fun _ _ _ h => h) (Or.inl ⟨by rfl, fun w hSw => by dsimp only at hSw; go_simp⟩) hHeld ?_
      simp only [Act.put, List.getElem_toArray, List.getElem_cons_zero, List.setIfInBounds_toArray, List.set_cons_zero, List.set_cons_succ]
      refine wpAnyH_take (i := 1) (v := .slice ar 1 cr) rfl (by kernel_rfl) (by kernel_rfl) (by kernel_rfl) (fun _ _ _ h => h) (Or.inl ⟨by rfl, fun w hSw => by dsimp only at hSw; go_simp⟩) hHeld ?_
      simp only [Act.put, List.getElem_toArray, List.getElem_cons_zero, List.getElem_cons_succ, List.setIfInBounds_toArray, List.set_cons_zero, List.set_cons_succ]
      refine wpAnyH_take (i := 2) (v := .pointer (some ⟨b, 0, none⟩)) rfl (by kernel_rfl) (by kernel_rfl) (by kernel_rfl) (fun _ _ _ h => h) (Or.inl ⟨by rfl, fun w hSw => by dsimp only at hSw; go_simp⟩) hHeld ?_
      simp only [Act.put, List.getElem_toArray, List.getElem_cons_zero, List.getElem_cons_succ, List.setIfInBounds_toArray, List.set_cons_zero, List.set_cons_succ]
      refine wpAnyH_take (i := 3) (v := .pointer (some ⟨b, 0, none⟩)) rfl (by kernel_rfl) (by kernel_rfl) (by kernel_rfl) (fun _ _ _ h => h) (Or.inl ⟨by rfl, fun w hSw => by dsimp only at hSw; go_simp⟩) hHeld ?_
      simp only [Act.put, List.getElem_toArray, List.getElem_cons_zero, List.getElem_cons_succ, List.setIfInBounds_toArray, List.set_cons_zero, List.set_cons_succ]
      refine wpAnyH_take (i := 4) (v := .pointer (some ⟨b, 2, none⟩)) rfl (by kernel_rfl) (by kernel_rfl) (by kernel_rfl) (fun _ _ _ h => h) (Or.inl ⟨by rfl, fun w hSw => by dsimp only at hSw; go_simp⟩) hHeld ?_
      simp only [Act.put, List.getElem_toArray, List.getElem_cons_zero, List.getElem_cons_succ, List.setIfInBounds_toArray, List.set_cons_zero, List.set_cons_succ]
      refine wpAnyH_take (i := 5) (v := .int .i64 v) rfl (by kernel_rfl) (by kernel_rfl) (by kernel_rfl) (fun _ _ _ h => h) (Or.inl ⟨by rfl, fun w hSw => by dsimp only at hSw; go_simp⟩) hHeld ?_
      simp only [Act.put, List.getElem_toArray, List.getElem_cons_zero, List.getElem_cons_succ, List.setIfInBounds_toArray, List.set_cons_zero, List.set_cons_succ]
      refine wpAnyH_take (i := 6) (v := .pointer (some ⟨b, 0, none⟩)) rfl (by kernel_rfl) (by kernel_rfl) (by kernel_rfl) (fun _ _ _ h => h) (Or.inl ⟨by rfl, fun w hSw => by dsimp only at hSw; go_simp⟩) hHeld ?_
      simp only [Act.put, List.getElem_toArray, List.getElem_cons_zero, List.getElem_cons_succ, List.setIfInBounds_toArray, List.set_cons_zero, List.set_cons_succ]
      refine wpAnyH_take (i := 7) (v := .pointer (some ⟨b, 0, none⟩)) rfl (by kernel_rfl) (by kernel_rfl) (by kernel_rfl) (fun _ _ _ h => h) (Or.inl ⟨by rfl, fun w hSw => by dsimp only at hSw; go_simp⟩) hHeld ?_
      simp only [Act.put, List.getElem_toArray, List.getElem_cons_zero, List.getElem_cons_succ, List.setIfInBounds_toArray, List.set_cons_zero, List.set_cons_succ]
      refine wpAnyH_take (i := 8) (v := .pointer (some ⟨b, 3, none⟩)) rfl (by kernel_rfl) (by kernel_rfl) (by kernel_rfl) (fun _ _ _ h => h) (Or.inl ⟨by rfl, fun w hSw => by dsimp only at hSw; go_simp⟩) hHeld ?_
      simp only [Act.put, List.getElem_toArray, List.getElem_cons_zero, List.getElem_cons_succ, List.setIfInBounds_toArray, List.set_cons_zero, List.set_cons_succ]
      refine wpAnyH_take (i := 9) (v := .bool is) rfl (by kernel_rfl) (by kernel_rfl) (by kernel_rfl) (fun _ _ _ h => h) (Or.inl ⟨by rfl, fun w hSw => by dsimp only at hSw; go_simp⟩) hHeld ?_
      simp only [Act.put, List.getElem_toArray, List.getElem_cons_zero, List.getElem_cons_succ, List.setIfInBounds_toArray, List.set_cons_zero, List.set_cons_succ]
      refine wpAnyH_ready (rs := [10]) (by kernel_rfl) (by simp) ?_
      refine AllReadyH.cons rfl (fun K hK => ?_) AllReadyH.nil
      go_simp
      go_wp2_with (refine CK.out.mono ?_; rintro e wd ⟨rfl, hwd⟩; have BD := hide hwd; clear hwd)
      refine hK.out _ _ ⟨(BD.out.cell (p := ⟨b, 2, none⟩) HLT.out).trans m2, (BD.out.cell (p := ⟨b, 3, none⟩) HLT.out).trans m3⟩ (fun hHeld => ?_)
      clear hK K
      try simp only [Act.put, List.getElem_toArray, List.getElem_cons_zero, List.getElem_cons_succ, List.setIfInBounds_toArray, List.set_cons_zero, List.set_cons_succ]
      refine wpAnyH_take (i := 11) (v := RV) rfl (by kernel_rfl) (by kernel_rfl) (by kernel_rfl) (fun _ _ _ h => h) (Or.inl ⟨by rfl, fun w hSw => by dsimp only at hSw; go_simp⟩) hHeld ?_
      simp only [Act.put, List.getElem_toArray, List.getElem_cons_zero, List.getElem_cons_succ, List.setIfInBounds_toArray, List.set_cons_zero, List.set_cons_succ]
      refine wpAnyH_done (by kernel_rfl) ?_ _
      go_wp2_with fail
      go_ret
      refine ⟨?_, bthen BW.out.drew BD.out⟩
      rw [← HRV.out, ← HRR.out, ← HR0.out]
      simp [jn, brk]
  | nd b1 lo1 hi1 v1 is1 =>
    have C1 := hide (C10 (by simp))
    clear C10
    simp only [ptr_nd, tv] at m0 HN C1
    cases hi with
    | nil =>
      clear C20
      simp only [ptr_none] at m1 HN
      go_enter Try.func46, Try.ntmps46
      go_wp2_with fail
      refine wp_loop_rounds 3 ?_
      rw [rounds_succ]
      go_wp2_with fail
      refine (C1.out _ (brefl w)).mono ?_
      rintro e w1 ⟨rfl, hb1⟩
      have BB := hide hb1
      clear hb1
      go_wp2_with (at_builtin; go_must (refine append_text (w0 := w1) rfl _ _ rfl (.slice none 0 0) 0 [] rfl ⟨rfl, .inl ⟨rfl, rfl⟩⟩ s1 _ _ rfl (by simp [tv]) (by omega) (balloc (brefl w1) _) ?_))
      intro v4 w4 ho4 hb4
      have BW := hide (bthen BB.out hb4)
      obtain ⟨ar, cr, hv, hsl⟩ := ts_shape ho4 (by simp)
      subst hv
      have HSL0 := hide hsl
      obtain ⟨m0, m1, m2, m3, _⟩ := node_cells ((BW.out.block b (lt_of_block HN.out)).trans HN.out)
      clear ho4 hb4 hsl
      simp only [List.length_cons, List.length_nil, Nat.zero_add] at HSL0 ⊢
      have HSL : Hid (Ts.slot w4.drew ar [s1]) := HSL0
      have HBD : Hid (∀ x ∈ [s1], x.length ≤ 100000) := by
        intro x hx
        simp only [List.mem_cons, List.not_mem_nil, or_false] at hx
        first | (rcases hx with rfl | rfl <;> assumption) | (subst hx; assumption)
      go_wp2_with fail
      rw [rounds_succ]
      go_wp2_with fail
      rw [rounds_succ]
      go_wp2_with fail
      obtain ⟨R, hR⟩ : ∃ R, (jn [s1] ++ if is = true then Lib.itoa v else []) = R := ⟨_, rfl⟩
      have CK := hide (join_is ar cr [s1] v is w4.drew HSL.out (by simp) HBD.out HV.out)
      rw [hR] at CK
      have HRR := hide hR
      clear hR
      obtain ⟨RV, hRV⟩ : ∃ RV, tv R = RV := ⟨_, rfl⟩
      rw [hRV] at CK
      have HRV := hide hRV
      clear hRV
      have HLT : Hid (b < w4.drew.heap.size) := Nat.lt_of_lt_of_le (lt_of_block HN.out) BW.out.size
      simp only [List.length_cons, List.length_nil, Nat.zero_add] at CK
      refine wp_region_held_drew (S := fun w' => w'.cell? ⟨b, 2, none⟩ = some (.int .i64 v) ∧ w'.cell? ⟨b, 3, none⟩ = some (.bool is)) (by kernel_rfl) ⟨m2, m3⟩ (fun hHeld => ?_)
      refine wpAnyH_take (i := 0) (v := .func (.func 16) #[] #[]) rfl (by kernel_rfl) (by kernel_rfl) (by kernel_rfl) (fun _ _ _ h => h) (Or.inl ⟨by rfl, fun w hSw => by dsimp only at hSw; go_simp⟩) hHeld ?_
      simp only [Act.put, List.getElem_toArray, List.getElem_cons_zero, List.setIfInBounds_toArray, List.set_cons_zero, List.set_cons_succ]
      refine wpAnyH_take (i := 1) (v := .slice ar 1 cr) rfl (by kernel_rfl) (by kernel_rfl) (by kernel_rfl) (fun _ _ _ h => h) (Or.inl ⟨by rfl, fun w hSw => by dsimp only at hSw; go_simp⟩) hHeld ?_
      simp only [Act.put, List.getElem_toArray, List.getElem_cons_zero, List.getElem_cons_succ, List.setIfInBounds_toArray, List.set_cons_zero, List.set_cons_succ]
      refine wpAnyH_take (i := 2) (v := .pointer (some ⟨b, 0, none⟩)) rfl (by kernel_rfl) (by kernel_rfl) (by kernel_rfl) (fun _ _ _ h => h) (Or.inl ⟨by rfl, fun w hSw => by dsimp only at hSw; go_simp⟩) hHeld ?_
      simp only [Act.put, List.getElem_toArray, List.getElem_cons_zero, List.getElem_cons_succ, List.setIfInBounds_toArray, List.set_cons_zero, List.set_cons_succ]
      refine wpAnyH_take (i := 3) (v := .pointer (some ⟨b, 0, none⟩)) rfl (by kernel_rfl) (by kernel_rfl) (by kernel_rfl) (fun _ _ _ h => h) (Or.inl ⟨by rfl, fun w hSw => by dsimp only at hSw; go_simp⟩) hHeld ?_
      simp only [Act.put, List.getElem_toArray, List.getElem_cons_zero, List.getElem_cons_succ, List.setIfInBounds_toArray, List.set_cons_zero, List.set_cons_succ]
      refine wpAnyH_take (i := 4) (v := .pointer (some ⟨b, 2, none⟩)) rfl (by kernel_rfl) (by kernel_rfl) (by kernel_rfl) (fun _ _ _ h => h) (Or.inl ⟨by rfl, fun w hSw => by dsimp only at hSw; go_simp⟩) hHeld ?_
      simp only [Act.put, List.getElem_toArray, List.getElem_cons_zero, List.getElem_cons_succ, List.setIfInBounds_toArray, List.set_cons_zero, List.set_cons_succ]
      refine wpAnyH_take (i := 5) (v := .int .i64 v) rfl (by kernel_rfl) (by kernel_rfl) (by kernel_rfl) (fun _ _ _ h => h) (Or.inl ⟨by rfl, fun w hSw => by dsimp only at hSw; go_simp⟩) hHeld ?_
      simp only [Act.put, List.getElem_toArray, List.getElem_cons_zero, List.getElem_cons_succ, List.setIfInBounds_toArray, List.set_cons_zero, List.set_cons_succ]
      refine wpAnyH_take (i := 6) (v := .pointer (some ⟨b, 0, none⟩)) rfl (by kernel_rfl) (by kernel_rfl) (by kernel_rfl) (fun _ _ _ h => h) (Or.inl ⟨by rfl, fun w hSw => by dsimp only at hSw; go_simp⟩) hHeld ?_
      simp only [Act.put, List.getElem_toArray, List.getElem_cons_zero, List.getElem_cons_succ, List.setIfInBounds_toArray, List.set_cons_zero, List.set_cons_succ]
      refine wpAnyH_take (i := 7) (v := .pointer (some ⟨b, 0, none⟩)) rfl (by kernel_rfl) (by kernel_rfl) (by kernel_rfl) (fun _ _ _ h => h) (Or.inl ⟨by rfl, fun w hSw => by dsimp only at hSw; go_simp⟩) hHeld ?_
      simp only [Act.put, List.getElem_toArray, List.getElem_cons_zero, List.getElem_cons_succ, List.setIfInBounds_toArray, List.set_cons_zero, List.set_cons_succ]
      refine wpAnyH_take (i := 8) (v := .pointer (some ⟨b, 3, none⟩)) rfl (by kernel_rfl) (by kernel_rfl) (by kernel_rfl) (fun _ _ _ h => h) (Or.inl ⟨by rfl, fun w hSw => by dsimp only at hSw; go_simp⟩) hHeld ?_
      simp only [Act.put, List.getElem_toArray, List.getElem_cons_zero, List.getElem_cons_succ, List.setIfInBounds_toArray, List.set_cons_zero, List.set_cons_succ]
      refine wpAnyH_take (i := 9) (v := .bool is) rfl (by kernel_rfl) (by kernel_rfl) (by kernel_rfl) (fun _ _ _ h => h) (Or.inl ⟨by rfl, fun w hSw => by dsimp only at hSw; go_simp⟩) hHeld ?_
      simp only [Act.put, List.getElem_toArray, List.getElem_cons_zero, List.getElem_cons_succ, List.setIfInBounds_toArray, List.set_cons_zero, List.set_cons_succ]
      refine wpAnyH_ready (rs := [10]) (by kernel_rfl) (by simp) ?_
      refine AllReadyH.cons rfl (fun K hK => ?_) AllReadyH.nil
      go_simp
      go_wp2_with (refine CK.out.mono ?_; rintro e wd ⟨rfl, hwd⟩; have BD := hide hwd; clear hwd)
      refine hK.out _ _ ⟨(BD.out.cell (p := ⟨b, 2, none⟩) HLT.out).trans m2, (BD.out.cell (p := ⟨b, 3, none⟩) HLT.out).trans m3⟩ (fun hHeld => ?_)
      clear hK K
      try simp only [Act.put, List.getElem_toArray, List.getElem_cons_zero, List.getElem_cons_succ, List.setIfInBounds_toArray, List.set_cons_zero, List.set_cons_succ]
      refine wpAnyH_take (i := 11) (v := RV) rfl (by kernel_rfl) (by kernel_rfl) (by kernel_rfl) (fun _ _ _ h => h) (Or.inl ⟨by rfl, fun w hSw => by dsimp only at hSw; go_simp⟩) hHeld ?_
      simp only [Act.put, List.getElem_toArray, List.getElem_cons_zero, List.getElem_cons_succ, List.setIfInBounds_toArray, List.set_cons_zero, List.set_cons_succ]
      refine wpAnyH_done (by kernel_rfl) ?_ _
      go_wp2_with fail
      go_ret
      refine ⟨?_, bthen BW.out.drew BD.out⟩
      rw [← HRV.out, ← HRR.out, ← HR0.out]
      simp [jn, brk]
    | nd b2 lo2 hi2 v2 is2 =>
      have C2 := hide (C20 (by simp))
      clear C20
      simp only [ptr_nd, tv] at m1 HN C2
      go_enter Try.func46, Try.ntmps46
      go_wp2_with fail
      refine wp_loop_rounds 3 ?_
      rw [rounds_succ]
      go_wp2_with fail
      refine (C1.out _ (brefl w)).mono ?_
      rintro e w1 ⟨rfl, hb1⟩
      have BB := hide hb1
      obtain ⟨m0, m1, m2, m3, _⟩ := node_cells ((hb1.block b (lt_of_block HN.out)).trans HN.out)
      clear hb1
      go_wp2_with (at_builtin; go_must (refine append_text (w0 := w1) rfl _ _ rfl (.slice none 0 0) 0 [] rfl ⟨rfl, .inl ⟨rfl, rfl⟩⟩ s1 _ _ rfl (by simp [tv]) (by omega) (balloc (brefl w1) _) ?_))
      intro v2 w2 ho2 hb2
      have HO2 := hide ho2
      have B2 := hide hb2
      have BW2 := hide (bthen BB.out hb2)
      obtain ⟨m0, m1, m2, m3, _⟩ := node_cells ((BW2.out.block b (lt_of_block HN.out)).trans HN.out)
      clear ho2 hb2
      go_wp2_with fail
      rw [rounds_succ]
      go_wp2_with fail
      refine (C2.out _ BW2.out).mono ?_
      rintro e w3 ⟨rfl, hb3⟩
      have HO3 := hide (row_below HO2.out hb3)
      have B3 := hide (bthen B2.out hb3)
      have BW3 := hide (bthen BW2.out hb3)
      clear hb3
      go_wp2_with (at_builtin; go_must (refine append_text (w0 := w1) rfl _ _ rfl v2 1 [s1] rfl (HO3.out.alloc _) s2 _ _ rfl (by simp [tv]) (by omega) (balloc B3.out _) ?_))
      intro v4 w4 ho4 hb4
      have BW := hide (bthen BB.out hb4)
      obtain ⟨ar, cr, hv, hsl⟩ := ts_shape ho4 (by simp)
      subst hv
      have HSL0 := hide hsl
      obtain ⟨m0, m1, m2, m3, _⟩ := node_cells ((BW.out.block b (lt_of_block HN.out)).trans HN.out)
      clear ho4 hb4 hsl
      simp only [List.length_cons, List.length_nil, Nat.zero_add, Nat.reduceAdd] at HSL0 ⊢
      have HSL : Hid (Ts.slot w4.drew ar [s1, s2]) := HSL0
      have HBD : Hid (∀ x ∈ [s1, s2], x.length ≤ 100000) := by
        intro x hx
        simp only [List.mem_cons, List.not_mem_nil, or_false] at hx
        first | (rcases hx with rfl | rfl <;> assumption) | (subst hx; assumption)
      go_wp2_with fail
      rw [rounds_succ]
      go_wp2_with fail
      obtain ⟨R, hR⟩ : ∃ R, (jn [s1, s2] ++ if is = true then Lib.itoa v else []) = R := ⟨_, rfl⟩
      have CK := hide (join_is ar cr [s1, s2] v is w4.drew HSL.out (by simp) HBD.out HV.out)
      rw [hR] at CK
      have HRR := hide hR
      clear hR
      obtain ⟨RV, hRV⟩ : ∃ RV, tv R = RV := ⟨_, rfl⟩
      rw [hRV] at CK
      have HRV := hide hRV
      clear hRV
      have HLT : Hid (b < w4.drew.heap.size) := Nat.lt_of_lt_of_le (lt_of_block HN.out) BW.out.size
      simp only [List.length_cons, List.length_nil, Nat.zero_add, Nat.reduceAdd] at CK
      refine wp_region_held_drew (S := fun w' => w'.cell? ⟨b, 2, none⟩ = some (.int .i64 v) ∧ w'.cell? ⟨b, 3, none⟩ = some (.bool is)) (by kernel_rfl) ⟨m2, m3⟩ (fun hHeld => ?_)
      refine wpAnyH_take (i := 0) (v := .func (.func 16) #[] #[]) rfl (by kernel_rfl) (by kernel_rfl) (by kernel_rfl) (fun _ _ _ h => h) (Or.inl ⟨by rfl, fun w hSw => by dsimp only at hSw; go_simp⟩) hHeld ?_
      simp only [Act.put, List.getElem_toArray, List.getElem_cons_zero, List.setIfInBounds_toArray, List.set_cons_zero, List.set_cons_succ]
      refine wpAnyH_take (i := 1) (v := .slice ar 2 cr) rfl (by kernel_rfl) (by kernel_rfl) (by kernel_rfl) (fun _ _ _ h => h) (Or.inl ⟨by rfl, fun w hSw => by dsimp only at hSw; go_simp⟩) hHeld ?_
      simp only [Act.put, List.getElem_toArray, List.getElem_cons_zero, List.getElem_cons_succ, List.setIfInBounds_toArray, List.set_cons_zero, List.set_cons_succ]
      refine wpAnyH_take (i := 2) (v := .pointer (some ⟨b, 0, none⟩)) rfl (by kernel_rfl) (by kernel_rfl) (by kernel_rfl) (fun _ _ _ h => h) (Or.inl ⟨by rfl, fun w hSw => by dsimp only at hSw; go_simp⟩) hHeld ?_
      simp only [Act.put, List.getElem_toArray, List.getElem_cons_zero, List.getElem_cons_succ, List.setIfInBounds_toArray, List.set_cons_zero, List.set_cons_succ]
      refine wpAnyH_take (i := 3) (v := .pointer (some ⟨b, 0, none⟩)) rfl (by kernel_rfl) (by kernel_rfl) (by kernel_rfl) (fun _ _ _ h => h) (Or.inl ⟨by rfl, fun w hSw => by dsimp only at hSw; go_simp⟩) hHeld ?_
      simp only [Act.put, List.getElem_toArray, List.getElem_cons_zero, List.getElem_cons_succ, List.setIfInBounds_toArray, List.set_cons_zero, List.set_cons_succ]
      refine wpAnyH_take (i := 4) (v := .pointer (some ⟨b, 2, none⟩)) rfl (by kernel_rfl) (by kernel_rfl) (by kernel_rfl) (fun _ _ _ h => h) (Or.inl ⟨by rfl, fun w hSw => by dsimp only at hSw; go_simp⟩) hHeld ?_
      simp only [Act.put, List.getElem_toArray, List.getElem_cons_zero, List.getElem_cons_succ, List.setIfInBounds_toArray, List.set_cons_zero, List.set_cons_succ]
      refine wpAnyH_take (i := 5) (v := .int .i64 v) rfl (by kernel_rfl) (by kernel_rfl) (by kernel_rfl) (fun _ _ _ h => h) (Or.inl ⟨by rfl, fun w hSw => by dsimp only at hSw; go_simp⟩) hHeld ?_
      simp only [Act.put, List.getElem_toArray, List.getElem_cons_zero, List.getElem_cons_succ, List.setIfInBounds_toArray, List.set_cons_zero, List.set_cons_succ]
      refine wpAnyH_take (i := 6) (v := .pointer (some ⟨b, 0, none⟩)) rfl (by kernel_rfl) (by kernel_rfl) (by kernel_rfl) (fun _ _ _ h => h) (Or.inl ⟨by rfl, fun w hSw => by dsimp only at hSw; go_simp⟩) hHeld ?_
      simp only [Act.put, List.getElem_toArray, List.getElem_cons_zero, List.getElem_cons_succ, List.setIfInBounds_toArray, List.set_cons_zero, List.set_cons_succ]
      refine wpAnyH_take (i := 7) (v := .pointer (some ⟨b, 0, none⟩)) rfl (by kernel_rfl) (by kernel_rfl) (by kernel_rfl) (fun _ _ _ h => h) (Or.inl ⟨by rfl, fun w hSw => by dsimp only at hSw; go_simp⟩) hHeld ?_
      simp only [Act.put, List.getElem_toArray, List.getElem_cons_zero, List.getElem_cons_succ, List.setIfInBounds_toArray, List.set_cons_zero, List.set_cons_succ]
      refine wpAnyH_take (i := 8) (v := .pointer (some ⟨b, 3, none⟩)) rfl (by kernel_rfl) (by kernel_rfl) (by kernel_rfl) (fun _ _ _ h => h) (Or.inl ⟨by rfl, fun w hSw => by dsimp only at hSw; go_simp⟩) hHeld ?_
      simp only [Act.put, List.getElem_toArray, List.getElem_cons_zero, List.getElem_cons_succ, List.setIfInBounds_toArray, List.set_cons_zero, List.set_cons_succ]
      refine wpAnyH_take (i := 9) (v := .bool is) rfl (by kernel_rfl) (by kernel_rfl) (by kernel_rfl) (fun _ _ _ h => h) (Or.inl ⟨by rfl, fun w hSw => by dsimp only at hSw; go_simp⟩) hHeld ?_
      simp only [Act.put, List.getElem_toArray, List.getElem_cons_zero, List.getElem_cons_succ, List.setIfInBounds_toArray, List.set_cons_zero, List.set_cons_succ]
      refine wpAnyH_ready (rs := [10]) (by kernel_rfl) (by simp) ?_
      refine AllReadyH.cons rfl (fun K hK => ?_) AllReadyH.nil
      go_simp
      go_wp2_with (refine CK.out.mono ?_; rintro e wd ⟨rfl, hwd⟩; have BD := hide hwd; clear hwd)
      refine hK.out _ _ ⟨(BD.out.cell (p := ⟨b, 2, none⟩) HLT.out).trans m2, (BD.out.cell (p := ⟨b, 3, none⟩) HLT.out).trans m3⟩ (fun hHeld => ?_)
      clear hK K
      try simp only [Act.put, List.getElem_toArray, List.getElem_cons_zero, List.getElem_cons_succ, List.setIfInBounds_toArray, List.set_cons_zero, List.set_cons_succ]
      refine wpAnyH_take (i := 11) (v := RV) rfl (by kernel_rfl) (by kernel_rfl) (by kernel_rfl) (fun _ _ _ h => h) (Or.inl ⟨by rfl, fun w hSw => by dsimp only at hSw; go_simp⟩) hHeld ?_
      simp only [Act.put, List.getElem_toArray, List.getElem_cons_zero, List.getElem_cons_succ, List.setIfInBounds_toArray, List.set_cons_zero, List.set_cons_succ]
      refine wpAnyH_done (by kernel_rfl) ?_ _
      go_wp2_with fail
      go_ret
      refine ⟨?_, bthen BW.out.drew BD.out⟩
      rw [← HRV.out, ← HRR.out, ← HR0.out]
      simp [jn, brk]
end Go.Proofs.Ytechocnednepiaa
