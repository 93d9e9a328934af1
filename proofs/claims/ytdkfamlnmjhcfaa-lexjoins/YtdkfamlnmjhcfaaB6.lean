/- The law's mine. -/
import Derived.Test.YtdkfamlnmjhcfaaK3
namespace Go.Proofs.Ytdkfamlnmjhcfaa
open Go.RowKit Go.Sort

theorem Tv.enc_reads {w : World} {g E : Nat} {t : Tv} (hc : w.heap[g]? = some (.cells #[.int .i64 t.k, .string t.s, .int .i64 t.p, .int .i64 t.q] E (0, 0))) (j : Nat) (u : Value) (hu : (Tv.enc t)[j]? = some u) : w.cell? ((⟨g, 0, none⟩ : Addr).add j) = some u := by
  match j, hu with
  | 0, hu => simp [Tv.enc] at hu; subst hu; simp [Addr.add, World.cell?, hc]
  | 1, hu => simp [Tv.enc] at hu; subst hu; simp [Addr.add, World.cell?, hc]
  | 2, hu => simp [Tv.enc] at hu; subst hu; simp [Addr.add, World.cell?, hc]
  | 3, hu => simp [Tv.enc] at hu; subst hu; simp [Addr.add, World.cell?, hc]
  | j + 4, hu => simp [Tv.enc] at hu
theorem Tv.enc_one {t : Tv} (u : Value) (hu : u ∈ Tv.enc t) : u.oneCell' = true := by
  simp [Tv.enc] at hu
  rcases hu with rfl | rfl | rfl | rfl <;> rfl
theorem app_tvL {w : World} {o : Oper} {a : Act} {K : Act → World → Prop} {Q : Exit → Act → World → Prop} (s x : Operand)
    (ho : o.op = .call { callee := .builtin .append, args := #[s, x], argTypes := #[29, 29] }) (B : Nat) (v : Value) (xs : List Tv) (hs : a.eval s = v) (hown : w.ownsRow B 38 4 v xs.length (Tv.cells xs))
    (t : Tv) (g c : Nat) (hx : a.eval x = .slice (some ⟨g, 0, none⟩) 1 c) (hc : w.heap[g]? = some (.cells #[.int .i64 t.k, .string t.s, .int .i64 t.p, .int .i64 t.q] 38 (0, 0))) (hn : xs.length ≤ 100000) (hB : B ≤ w.heap.size)
    (h : ∀ v' w', w'.ownsRow B 38 4 v' (xs.length + 1) (Tv.cells xs ++ Tv.enc t) → w.grownBy w' v.ownBlock → K (a.put o.dst v') w') : Oper.wp Try.prog o a w K Q := by
  obtain ⟨i0, hi, hz0, hz1, hz2⟩ := info_partsL
  refine wp_append_own w s x 29 ho B 38 i0 _ 4 40 Try.underlying29 hi hz0 hz1 hz2 rfl (by decide) v xs.length (Tv.cells xs) hs hown ⟨g, 0, none⟩ 1 c (Tv.enc t) hx rfl (Tv.enc_reads hc) Tv.enc_one (by unfold maxLen; omega) (by omega) hB ?_
  intro v' w' ho' hg _
  exact h v' w' ho' hg
theorem cells_take {l : List Tv} {i : Nat} (h : i < l.length) : Tv.cells (l.take i) ++ Tv.enc l[i] = Tv.cells (l.take (i + 1)) := by
  rw [List.take_succ_eq_append_getElem h, Tv.cells, Tv.cells, List.flatMap_append, List.flatMap_singleton]
set_option maxHeartbeats 2000000 in
set_option maxRecDepth 100000 in
theorem mine_is (ao : Option Addr) (c : Nat) (l : List Tv) (N : Nat) (hN : l.length = N) (hb : N ≤ 1000) (w : World) (hr : Tv.slot w ao l) :
    Calls Try.prog 9 #[.slice ao N c] w fun e w' => ∃ v, e = .returned v ∧ w'.ownsRow w.heap.size 38 4 v N (Tv.cells l) ∧ Below w.heap.size w w' := by
  have HR0 := hide hr
  have HN := hide hN
  clear hr hN
  go_enter Try.func9, Try.ntmps9
  go_wp2_with fail
  go_loopw [3, 4] (fun v3 v4 wr => ∃ i : Nat, v4 = .int .i64 (i : Int) ∧ i ≤ N ∧ Hid (wr.ownsRow w.heap.size 38 4 v3 i (Tv.cells (l.take i))) ∧ Hid (Below w.heap.size w wr)) (fun _ v4 _ => N - (intOf v4).toNat)
  case atStart => exact ⟨0, rfl, Nat.zero_le _, World.ownsRow_nil _ _ _ _, brefl w⟩
  case round =>
    obtain ⟨i, rfl, hiN, HR, HB⟩ := hrel
    rcases Nat.lt_or_ge i N with hlt | hge
    · have h1 : (i : Int) < (N : Int) := by omega
      have hil : i < l.length := by rw [HN.out]; exact hlt
      have HTK := hide (cells_take hil)
      obtain ⟨b, off, rfl, hat⟩ : ∃ b off, ao = some ⟨b, off, none⟩ ∧ ∀ j (h : j < l.length), Tv.at_ w b (off + j * 4) l[j] := by
        rcases HR0.out with h | h
        · rw [h] at hil; simp at hil
        · exact h
      have hbw := World.block_lt_of_cell? _ _ (hat i hil).1
      obtain ⟨c0, c1, c2, c3⟩ := hat i hil
      have HBW := hide hbw
      have hbl : b < wr.heap.size := Nat.lt_of_lt_of_le hbw HB.out.size
      have c0 := (HB.out.cell (p := ⟨b, off + i * 4, none⟩) hbw).trans c0
      have c1 := (HB.out.cell (p := ⟨b, off + i * 4 + 1, none⟩) hbw).trans c1
      have c2 := (HB.out.cell (p := ⟨b, off + i * 4 + 2, none⟩) hbw).trans c2
      have c3 := (HB.out.cell (p := ⟨b, off + i * 4 + 3, none⟩) hbw).trans c3
      have HR : Hid (wr.ownsRow w.heap.size 38 4 u3 (l.take i).length (Tv.cells (l.take i))) := by
        show World.ownsRow _ _ _ _ _ _ _
        rw [List.length_take, Nat.min_eq_left (by omega)]
        exact HR.out
      clear hat hbw
      generalize l[i] = t at *
      obtain ⟨tk, tt, tp, tq⟩ := t
      simp only at c0 c1 c2 c3
      go_wp2_with fail
      have BD := hide (bthen HB.out (brefl wr).drew)
      have RD := hide (row_below HR.out (brefl wr).drew)
      refine wp_region_held_drew (S := fun w' => w'.cell? ⟨b, off + i * 4, none⟩ = some (.int .i64 tk) ∧ w'.cell? ⟨b, off + i * 4 + 1, none⟩ = some (.string tt) ∧ w'.cell? ⟨b, off + i * 4 + 2, none⟩ = some (.int .i64 tp) ∧ w'.cell? ⟨b, off + i * 4 + 3, none⟩ = some (.int .i64 tq)) (by kernel_rfl) ⟨((brefl wr).drew.cell (p := ⟨b, off + i * 4, none⟩) hbl).trans c0, ((brefl wr).drew.cell (p := ⟨b, off + i * 4 + 1, none⟩) hbl).trans c1, ((brefl wr).drew.cell (p := ⟨b, off + i * 4 + 2, none⟩) hbl).trans c2, ((brefl wr).drew.cell (p := ⟨b, off + i * 4 + 3, none⟩) hbl).trans c3⟩ (fun hHeld => ?_)
      have hbd : b < wr.drew.heap.size := hbl
      clear c0 c1 c2 c3
      generalize wr.drew = wd at *
      refine wpAnyH_take (i := 0) (v := u3) rfl (by kernel_rfl) (by kernel_rfl) (by kernel_rfl) (fun _ _ _ h => h) (Or.inl ⟨by rfl, fun w hSw => by dsimp only at hSw; go_simp⟩) hHeld ?_
      simp only [Act.put, List.getElem_toArray, List.getElem_cons_zero, List.setIfInBounds_toArray, List.set_cons_zero, List.set_cons_succ]
      refine wpAnyH_take (i := 1) (v := .slice (some ⟨b, off, none⟩) N c) rfl (by kernel_rfl) (by kernel_rfl) (by kernel_rfl) (fun _ _ _ h => h) (Or.inl ⟨by rfl, fun w hSw => by dsimp only at hSw; go_simp⟩) hHeld ?_
      simp only [Act.put, List.getElem_toArray, List.getElem_cons_zero, List.getElem_cons_succ, List.setIfInBounds_toArray, List.set_cons_zero, List.set_cons_succ]
      refine wpAnyH_take (i := 2) (v := .int .i64 (i : Int)) rfl (by kernel_rfl) (by kernel_rfl) (by kernel_rfl) (fun _ _ _ h => h) (Or.inl ⟨by rfl, fun w hSw => by dsimp only at hSw; go_simp⟩) hHeld ?_
      simp only [Act.put, List.getElem_toArray, List.getElem_cons_zero, List.getElem_cons_succ, List.setIfInBounds_toArray, List.set_cons_zero, List.set_cons_succ]
      refine wpAnyH_take (i := 3) (v := .pointer (some ⟨b, off + i * 4, none⟩)) rfl (by kernel_rfl) (by kernel_rfl) (by kernel_rfl) (fun _ _ _ h => h) (Or.inl ⟨by rfl, fun w hSw => by dsimp only at hSw; go_simp⟩) hHeld ?_
      simp only [Act.put, List.getElem_toArray, List.getElem_cons_zero, List.getElem_cons_succ, List.setIfInBounds_toArray, List.set_cons_zero, List.set_cons_succ]
      refine wpAnyH_take (i := 4) (v := .pointer (some ⟨b, off + i * 4, none⟩)) rfl (by kernel_rfl) (by kernel_rfl) (by kernel_rfl) (fun _ _ _ h => h) (Or.inl ⟨by rfl, fun w hSw => by dsimp only at hSw; go_simp⟩) hHeld ?_
      simp only [Act.put, List.getElem_toArray, List.getElem_cons_zero, List.getElem_cons_succ, List.setIfInBounds_toArray, List.set_cons_zero, List.set_cons_succ]
      refine wpAnyH_take (i := 5) (v := .int .i64 tk) rfl (by kernel_rfl) (by kernel_rfl) (by kernel_rfl) (fun _ _ _ h => h) (Or.inl ⟨by rfl, fun w hSw => by dsimp only at hSw; go_simp⟩) hHeld ?_
      simp only [Act.put, List.getElem_toArray, List.getElem_cons_zero, List.getElem_cons_succ, List.setIfInBounds_toArray, List.set_cons_zero, List.set_cons_succ]
      refine wpAnyH_take (i := 6) (v := .slice (some ⟨b, off, none⟩) N c) rfl (by kernel_rfl) (by kernel_rfl) (by kernel_rfl) (fun _ _ _ h => h) (Or.inl ⟨by rfl, fun w hSw => by dsimp only at hSw; go_simp⟩) hHeld ?_
      simp only [Act.put, List.getElem_toArray, List.getElem_cons_zero, List.getElem_cons_succ, List.setIfInBounds_toArray, List.set_cons_zero, List.set_cons_succ]
      refine wpAnyH_take (i := 7) (v := .int .i64 (i : Int)) rfl (by kernel_rfl) (by kernel_rfl) (by kernel_rfl) (fun _ _ _ h => h) (Or.inl ⟨by rfl, fun w hSw => by dsimp only at hSw; go_simp⟩) hHeld ?_
      simp only [Act.put, List.getElem_toArray, List.getElem_cons_zero, List.getElem_cons_succ, List.setIfInBounds_toArray, List.set_cons_zero, List.set_cons_succ]
      refine wpAnyH_take (i := 8) (v := .pointer (some ⟨b, off + i * 4, none⟩)) rfl (by kernel_rfl) (by kernel_rfl) (by kernel_rfl) (fun _ _ _ h => h) (Or.inl ⟨by rfl, fun w hSw => by dsimp only at hSw; go_simp⟩) hHeld ?_
      simp only [Act.put, List.getElem_toArray, List.getElem_cons_zero, List.getElem_cons_succ, List.setIfInBounds_toArray, List.set_cons_zero, List.set_cons_succ]
      refine wpAnyH_take (i := 9) (v := .pointer (some ⟨b, off + i * 4 + 1, none⟩)) rfl (by kernel_rfl) (by kernel_rfl) (by kernel_rfl) (fun _ _ _ h => h) (Or.inl ⟨by rfl, fun w hSw => by dsimp only at hSw; go_simp⟩) hHeld ?_
      simp only [Act.put, List.getElem_toArray, List.getElem_cons_zero, List.getElem_cons_succ, List.setIfInBounds_toArray, List.set_cons_zero, List.set_cons_succ]
      refine wpAnyH_take (i := 10) (v := .string tt) rfl (by kernel_rfl) (by kernel_rfl) (by kernel_rfl) (fun _ _ _ h => h) (Or.inl ⟨by rfl, fun w hSw => by dsimp only at hSw; go_simp⟩) hHeld ?_
      simp only [Act.put, List.getElem_toArray, List.getElem_cons_zero, List.getElem_cons_succ, List.setIfInBounds_toArray, List.set_cons_zero, List.set_cons_succ]
      refine wpAnyH_take (i := 11) (v := .slice (some ⟨b, off, none⟩) N c) rfl (by kernel_rfl) (by kernel_rfl) (by kernel_rfl) (fun _ _ _ h => h) (Or.inl ⟨by rfl, fun w hSw => by dsimp only at hSw; go_simp⟩) hHeld ?_
      simp only [Act.put, List.getElem_toArray, List.getElem_cons_zero, List.getElem_cons_succ, List.setIfInBounds_toArray, List.set_cons_zero, List.set_cons_succ]
      refine wpAnyH_take (i := 12) (v := .int .i64 (i : Int)) rfl (by kernel_rfl) (by kernel_rfl) (by kernel_rfl) (fun _ _ _ h => h) (Or.inl ⟨by rfl, fun w hSw => by dsimp only at hSw; go_simp⟩) hHeld ?_
      simp only [Act.put, List.getElem_toArray, List.getElem_cons_zero, List.getElem_cons_succ, List.setIfInBounds_toArray, List.set_cons_zero, List.set_cons_succ]
      refine wpAnyH_take (i := 13) (v := .pointer (some ⟨b, off + i * 4, none⟩)) rfl (by kernel_rfl) (by kernel_rfl) (by kernel_rfl) (fun _ _ _ h => h) (Or.inl ⟨by rfl, fun w hSw => by dsimp only at hSw; go_simp⟩) hHeld ?_
      simp only [Act.put, List.getElem_toArray, List.getElem_cons_zero, List.getElem_cons_succ, List.setIfInBounds_toArray, List.set_cons_zero, List.set_cons_succ]
      refine wpAnyH_take (i := 14) (v := .pointer (some ⟨b, off + i * 4 + 2, none⟩)) rfl (by kernel_rfl) (by kernel_rfl) (by kernel_rfl) (fun _ _ _ h => h) (Or.inl ⟨by rfl, fun w hSw => by dsimp only at hSw; go_simp⟩) hHeld ?_
      simp only [Act.put, List.getElem_toArray, List.getElem_cons_zero, List.getElem_cons_succ, List.setIfInBounds_toArray, List.set_cons_zero, List.set_cons_succ]
      refine wpAnyH_take (i := 15) (v := .agg #[.int .i64 tp, .int .i64 tq]) rfl (by kernel_rfl) (by kernel_rfl) (by kernel_rfl) (fun _ _ _ h => h) (Or.inl ⟨by rfl, fun w hSw => by dsimp only at hSw; go_simp⟩) hHeld ?_
      simp only [Act.put, List.getElem_toArray, List.getElem_cons_zero, List.getElem_cons_succ, List.setIfInBounds_toArray, List.set_cons_zero, List.set_cons_succ]
      refine wpAnyH_take (i := 16) (v := .agg #[.int .i64 tk, .string tt, .int .i64 tp, .int .i64 tq]) rfl (by kernel_rfl) (by kernel_rfl) (by kernel_rfl) (fun _ _ _ h => h) (Or.inl ⟨by rfl, fun w hSw => by dsimp only at hSw; go_simp⟩) hHeld ?_
      simp only [Act.put, List.getElem_toArray, List.getElem_cons_zero, List.getElem_cons_succ, List.setIfInBounds_toArray, List.set_cons_zero, List.set_cons_succ]
      refine wpAnyH_ready (rs := [17]) (by kernel_rfl) (by simp) ?_
      refine AllReadyH.cons rfl (fun K hK => ?_) AllReadyH.nil
      go_simp
      have A1 := hide (balloc (brefl wd) (.cells #[.int .i64 tk, .string tt, .int .i64 tp, .int .i64 tq] 38))
      have N2 := hide (heap_new wd #[.int .i64 tk, .string tt, .int .i64 tp, .int .i64 tq] 38)
      have B2 := hide (bthen BD.out A1.out)
      have R2 := hide (row_below RD.out A1.out)
      refine hK.out _ _ ⟨(A1.out.cell (p := ⟨b, off + i * 4, none⟩) hbd).trans hHeld.1, (A1.out.cell (p := ⟨b, off + i * 4 + 1, none⟩) hbd).trans hHeld.2.1, (A1.out.cell (p := ⟨b, off + i * 4 + 2, none⟩) hbd).trans hHeld.2.2.1, (A1.out.cell (p := ⟨b, off + i * 4 + 3, none⟩) hbd).trans hHeld.2.2.2⟩ (fun hHeld => ?_)
      clear hK K
      try simp only [Act.put, List.getElem_toArray, List.getElem_cons_zero, List.getElem_cons_succ, List.setIfInBounds_toArray, List.set_cons_zero, List.set_cons_succ]
      have hbl2 : b < (wd.alloc (.cells #[.int .i64 tk, .string tt, .int .i64 tp, .int .i64 tq] 38)).heap.size := Nat.lt_of_lt_of_le hbd A1.out.size
      generalize wd.alloc (.cells #[.int .i64 tk, .string tt, .int .i64 tp, .int .i64 tq] 38) = w2 at *
      generalize wd.heap.size = X at *
      clear A1 BD RD
      refine wpAnyH_ready (rs := [18]) (by kernel_rfl) (by simp) ?_
      refine AllReadyH.cons rfl (fun K hK => ?_) AllReadyH.nil
      rw [if_pos (by rfl)]
      refine app_tvL _ _ rfl w.heap.size u3 (l.take i) rfl R2.out ⟨tk, tt, tp, tq⟩ X 1 rfl N2.out (by rw [List.length_take]; omega) B2.out.size ?_
      intro v5 w5 o5 g5
      have hbo : some b ≠ u3.ownBlock := fun e => by have := (R2.out.lt b e.symm).1; have := HBW.out; omega
      have B5 := hide (Below.grown B2.out g5 B2.out.size (fun j hj => (R2.out.lt j hj).1))
      have R5 : Hid (w5.ownsRow w.heap.size 38 4 v5 (i + 1) (Tv.cells (l.take (i + 1)))) := by
        have h := o5
        rw [HTK.out, List.length_take, Nat.min_eq_left (by omega)] at h
        exact h
      refine hK.out _ _ ⟨(g5.cell (a := ⟨b, off + i * 4, none⟩) hHeld.1 hbo), (g5.cell (a := ⟨b, off + i * 4 + 1, none⟩) hHeld.2.1 hbo), (g5.cell (a := ⟨b, off + i * 4 + 2, none⟩) hHeld.2.2.1 hbo), (g5.cell (a := ⟨b, off + i * 4 + 3, none⟩) hHeld.2.2.2 hbo)⟩ (fun hHeld => ?_)
      clear hK K o5 g5
      try simp only [Act.put, List.getElem_toArray, List.getElem_cons_zero, List.getElem_cons_succ, List.setIfInBounds_toArray, List.set_cons_zero, List.set_cons_succ]
      refine wpAnyH_take (i := 19) (v := v5) rfl (by kernel_rfl) (by kernel_rfl) (by kernel_rfl) (fun _ _ _ h => h) (Or.inl ⟨by rfl, fun w hSw => by dsimp only at hSw; go_simp⟩) hHeld ?_
      simp only [Act.put, List.getElem_toArray, List.getElem_cons_zero, List.getElem_cons_succ, List.setIfInBounds_toArray, List.set_cons_zero, List.set_cons_succ]
      refine wpAnyH_done (by kernel_rfl) ?_ _
      clear B2 R2 N2 hHeld
      go_wp2_with fail
      exact ⟨⟨i + 1, by go_num, by omega, R5, B5⟩, by simp [intOf]; omega⟩
    · obtain rfl : i = N := by omega
      have h1 : ¬ (i : Int) < (i : Int) := by omega
      go_wp2_with fail
      go_ret
      refine ⟨_, rfl, ?_, HB.out⟩
      have h := HR.out
      rw [List.take_of_length_le (by rw [HN.out]; exact Nat.le_refl _)] at h
      exact h
end Go.Proofs.Ytdkfamlnmjhcfaa
