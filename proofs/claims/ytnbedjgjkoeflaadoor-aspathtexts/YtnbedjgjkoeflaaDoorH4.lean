/- The contract of the document's Runs. -/
import Derived.Test.YtnbedjgjkoeflaaDoorH3
namespace Go.Proofs.YtnbedjgjkoeflaaDoor
open Go.RowKit Go.Sort

/-- One number more: the last run is longer by one, or there is a new run. -/
def Ru.push (y : List Ru.C) (x : Int) : List Ru.C :=
  match y.getLast? with
  | some r => if r.1 = x then y.dropLast ++ [(r.1, r.2 + 1)] else y ++ [(x, 1)]
  | none => [(x, 1)]
def Ru.runs (l : List Int) : List Ru.C := l.foldl Ru.push []

theorem Ru.bang (x : List Ru.C) (k : Nat) (h : k < x.length) : x[k]! = x[k] := getElem!_pos x k h
theorem Ru.push_nil (x : Int) : Ru.push [] x = [(x, 1)] := rfl
theorem Ru.push_same (y : List Ru.C) (x n : Int) : Ru.push (y ++ [(x, n)]) x = y ++ [(x, n + 1)] := by simp [Ru.push]
theorem Ru.push_new (y : List Ru.C) (z n x : Int) (h : z ≠ x) : Ru.push (y ++ [(z, n)]) x = y ++ [(z, n)] ++ [(x, 1)] := by simp [Ru.push, h]
theorem Ru.runs_snoc (l : List Int) (x : Int) : Ru.runs (l ++ [x]) = Ru.push (Ru.runs l) x := by simp [Ru.runs]
theorem Ru.push_last (y : List Ru.C) (x : Int) : ∃ z n, Ru.push y x = z ++ [(x, n)] ∧ 1 ≤ n ∨ (∃ r ∈ y, r.2 < 1) ∧ Ru.push y x = z ++ [(x, n)] := by
  cases h : y.getLast? with
  | none => exact ⟨[], 1, .inl ⟨by simp [Ru.push, h], by decide⟩⟩
  | some r =>
    by_cases hr : r.1 = x
    · refine ⟨y.dropLast, r.2 + 1, ?_⟩
      by_cases h1 : r.2 < 1
      · right
        exact ⟨⟨r, List.mem_of_getLast? h, h1⟩, by simp [Ru.push, h, hr]⟩
      · left
        exact ⟨by simp [Ru.push, h, hr], by omega⟩
    · exact ⟨y, 1, .inl ⟨by simp [Ru.push, h, hr], by decide⟩⟩
theorem Ru.push_len (y : List Ru.C) (x : Int) : (Ru.push y x).length ≤ y.length + 1 := by
  unfold Ru.push
  split
  · split
    · simp
    · simp
  · simp
theorem Ru.runs_len (l : List Int) : (Ru.runs l).length ≤ l.length := by
  have key : ∀ (l : List Int) (y : List Ru.C), (l.foldl Ru.push y).length ≤ y.length + l.length := by
    intro l
    induction l with
    | nil => intro y; simp
    | cons x l ih =>
      intro y
      have h1 := ih (Ru.push y x)
      have h2 := Ru.push_len y x
      simp only [List.foldl_cons, List.length_cons]
      omega
  have := key l []
  rw [List.length_nil, Nat.zero_add] at this
  exact this
/-- The last run of what ends with x is one of x, with at least one and at most as many as there are. -/
theorem Ru.runs_last (l : List Int) (x : Int) : ∃ (y : List Ru.C) (n : Int), Ru.runs (l ++ [x]) = y ++ [(x, n)] ∧ 1 ≤ n ∧ n ≤ l.length + 1 ∧ y.length ≤ l.length := by
  have key : ∀ (m : Nat) (l : List Int) (x : Int), l.length = m → ∃ (y : List Ru.C) (n : Int), Ru.runs (l ++ [x]) = y ++ [(x, n)] ∧ 1 ≤ n ∧ n ≤ l.length + 1 ∧ y.length ≤ l.length := by
    intro m
    induction m with
    | zero =>
      intro l x hl
      obtain rfl := List.length_eq_zero_iff.1 hl
      exact ⟨[], 1, rfl, by decide, by decide, by decide⟩
    | succ m ih =>
      intro l x hl
      obtain ⟨k, z, rfl⟩ : ∃ k z, l = k ++ [z] := ⟨l.dropLast, l.getLast (by intro e; subst e; simp at hl), (List.dropLast_concat_getLast _).symm⟩
      obtain ⟨y, n, h1, h2, h3, h4⟩ := ih k z (by simpa using hl)
      rw [Ru.runs_snoc (k ++ [z]) x, h1]
      by_cases hz : z = x
      · subst hz
        exact ⟨y, n + 1, Ru.push_same y z n, by omega, by simp; omega, by simp; omega⟩
      · exact ⟨y ++ [(z, n)], 1, Ru.push_new y z n x hz, by decide, by simp; omega, by simp; omega⟩
  exact key l.length l x rfl

def RunsGood (w : World) (x : List Ru.C) (e : Ending) (w' : World) : Prop := ∃ (o : Option Addr) (c : Nat), e = .returned (.slice o x.length c) ∧ w'.ownsRow w.heap.size 42 2 (.slice o x.length c) x.length (Ru.cells x) ∧ Below w.heap.size w w'

theorem Ru.cells_set (y : List Ru.C) (x n m : Int) : (Ru.cells (y ++ [(x, n)])).set (y.length * 2 + 1) (.int .i64 m) = Ru.cells (y ++ [(x, m)]) := by
  rw [Ru.cells_app, Ru.cells_app, List.set_append_right _ _ (by rw [Ru.cells_length]; omega), Ru.cells_length, show y.length * 2 + 1 - y.length * 2 = 1 by omega]
  rfl

set_option maxHeartbeats 4000000 in
theorem refRuns_is (ao : Option Addr) (ca : Nat) (l : List Int) (x : List Ru.C) (hx : Ru.runs l = x) (w : World) (hA : Is.slot w ao l) (hl : l.length ≤ 1000) :
    Calls Tryd.prog 33 #[.slice ao l.length ca] w (RunsGood w x) := by
  have HA := hide hA
  have HX := hide hx
  clear hA hx
  go_enter Tryd.func33, Tryd.ntmps33
  go_wp2_with fail
  go_loopw [3, 4] (fun v3 v4 wr => ∃ (k : Nat) (o : Option Addr) (c : Nat) (y : List Ru.C), v4 = .int .i64 k ∧ v3 = .slice o y.length c ∧ k ≤ l.length ∧ Hid (Ru.runs (l.take k) = y) ∧ wr.ownsRow w.heap.size 42 2 (.slice o y.length c) y.length (Ru.cells y) ∧ Below w.heap.size w wr) (fun _ v4 _ => l.length - (intOf v4).toNat)
  case atStart => exact ⟨0, none, 0, [], rfl, rfl, Nat.zero_le _, hide rfl, World.ownsRow_nil _ _ _ _, brefl w⟩
  case round =>
    obtain ⟨k, o, c, y, rfl, rfl, hk, HY, hown, hbr⟩ := hrel
    have HO := hide hown
    have HBR := hide hbr
    clear hown hbr
    by_cases hkl : k < l.length
    · have hkl' : (k : Int) < (l.length : Int) := by omega
      obtain ⟨b, off, rfl, hrd⟩ := Is.slot_at HA.out hkl
      have RD := hide hrd
      have e0 := Is.reads_below hrd HBR.out k hkl
      clear hrd
      have HN : Hid (Ru.runs (l.take (k + 1)) = Ru.push y l[k]) := by
        show _ = _
        rw [List.take_succ_eq_append_getElem hkl, Ru.runs_snoc, HY.out]
      have RK := hide (fun W (hW : Below w.heap.size w W) => Is.reads_below RD.out hW k hkl)
      have hylen : y.length ≤ k := by
        rw [← HY.out]
        exact Nat.le_trans (Ru.runs_len _) (by rw [List.length_take]; omega)
      rcases Nat.eq_zero_or_pos k with h0 | h0
      · subst h0
        obtain rfl : y = [] := HY.out.symm
        generalize l[0] = u at *
        simp only [Nat.add_zero] at e0 RK
        have r0 := fun dd os => cell_regrown e0 dd os
        go_wp2_with fail
        refine wp_region_quiet_below (by kernel_rfl) (by kernel_rfl) ?_
        repeat (go_big_quiet_step (fail))
        refine wpQuiet_nil ?_
        rintro _ ⟨⟨dd, os⟩, rfl⟩
        have hb1 := below_regrown wr dd os
        generalize Sort.grow (redrawn wr dd) os = w1 at hb1
        have HO1 := hide (row_below HO.out hb1)
        have B1 := hide (bthen HBR.out hb1)
        clear hb1 r0 e0
        have f0 := RK.out _ B1.out
        go_wp2_with (at_builtin; go_must (refine append_runs (w0 := w) rfl _ _ rfl _ 0 [] rfl (HO1.out.alloc _) (some ⟨w1.heap.size, 0, none⟩) 1 _ [(u, 1)] rfl rfl (Ru.slot_one _ _ _ _ (two_new w1 u 1 42)) (came_some _ _ _) (by decide) (balloc B1.out _) ?_))
        intro v' w2 hnew hb2
        obtain ⟨no, nc, rfl⟩ := row_slice hnew
        have HNW := hide hnew
        have B2 := hide hb2
        clear hnew hb2 f0
        go_wp2_with fail
        exact ⟨⟨1, no, nc, [(u, 1)], rfl, rfl, by omega, hide (HN.out.trans (Ru.push_nil u)), HNW.out, B2.out⟩, by simp [intOf] <;> omega⟩
      · obtain ⟨m, rfl⟩ : ∃ m, k = m + 1 := ⟨k - 1, by omega⟩
        have hml : m < l.length := by omega
        have hml' : (m : Int) < (l.length : Int) := by omega
        have e1 := Is.reads_below RD.out HBR.out m hml
        obtain ⟨z, n, hy, hn1, hn2, hz⟩ := Ru.runs_last (l.take m) l[m]
        rw [← List.take_succ_eq_append_getElem hml, HY.out] at hy
        rw [List.length_take, Nat.min_eq_left (by omega)] at hn2 hz
        subst hy
        generalize l[m + 1] = u at *
        generalize l[m] = t at *
        have r0 := fun dd os => cell_regrown e0 dd os
        have r1 := fun dd os => cell_regrown e1 dd os
        by_cases htu : u = t
        · subst htu
          have HN2 := hide (HN.out.trans (Ru.push_same z u n))
          clear HN HY RK RD
          go_wp2_with fail
          refine wp_region_quiet_below (by kernel_rfl) (by kernel_rfl) ?_
          repeat (go_big_quiet_step (fail))
          refine wpQuiet_nil ?_
          rintro _ ⟨⟨dd, os⟩, rfl⟩
          have hb1 := below_regrown wr dd os
          generalize Sort.grow (redrawn wr dd) os = w1 at hb1
          have HO1 := hide (row_below HO.out hb1)
          have B1 := hide (bthen HBR.out hb1)
          clear hb1 r0 r1 e0 e1
          have hzl : (z ++ [(u, n)]).length = z.length + 1 := by simp
          rw [hzl] at HO1 ⊢
          obtain ⟨g, rfl⟩ : ∃ g, o = some ⟨g, 0, none⟩ := by
            rcases HO1.out.2 with ⟨_, h⟩ | ⟨g, cap', cur, hv, _⟩
            · exact absurd h (by omega)
            · simp only [Value.slice.injEq] at hv
              exact ⟨g, hv.1⟩
          have c1 : w1.cell? ⟨g, z.length * 2 + 1, none⟩ = some (.int .i64 n) := by
            rw [HO1.out.cellAt _ (by omega), Ru.cells_app, List.getElem?_append_right (by rw [Ru.cells_length]; omega), Ru.cells_length, show z.length * 2 + 1 - z.length * 2 = 1 by omega]
            rfl
          have f1 := HO1.out.frozenAt (z.length * 2 + 1)
          have hg := block_lt_of_cell c1
          have HS := hide (HO1.out.stored (z.length * 2 + 1) (.int .i64 (n + 1))).1
          rw [Ru.cells_set] at HS
          have hge : w.heap.size ≤ g := by
            rcases HO1.out.2 with ⟨_, h⟩ | ⟨g', cap', cur, hv, hge, _⟩
            · exact absurd h (by omega)
            · simp only [Value.slice.injEq, Option.some.injEq, Addr.mk.injEq, and_true] at hv
              rw [hv.1]
              exact hge
          have B2 := hide (bset B1.out (p := ⟨g, z.length * 2 + 1, none⟩) hge (.int .i64 (n + 1)))
          have HZL : Hid ((z ++ [(u, n + 1)]).length = z.length + 1) := by show _ = _; simp
          generalize hq : z.length = q at c1 f1 HS B2 HZL HO1 hz ⊢
          clear hq hzl hge
          go_wp2_with fail
          go_region
          go_wp2_with fail
          exact ⟨⟨m + 1 + 1, _, c, z ++ [(u, n + 1)], by go_num, by rw [HZL.out], by omega, HN2, by rw [HZL.out]; exact HS.out, B2.out.drew⟩, by simp [intOf] <;> omega⟩
        · have HN2 := hide (HN.out.trans (Ru.push_new z t n u (fun e => htu e.symm)))
          have hzl : (z ++ [(t, n)]).length = z.length + 1 := by simp
          have htu' : (u == t) = false := by simpa using htu
          clear HN HY RD
          go_wp2_with fail
          refine wp_region_quiet_below (by kernel_rfl) (by kernel_rfl) ?_
          repeat (go_big_quiet_step (fail))
          refine wpQuiet_nil ?_
          rintro _ ⟨⟨dd, os⟩, rfl⟩
          have hb1 := below_regrown wr dd os
          generalize Sort.grow (redrawn wr dd) os = w1 at hb1
          have HO1 := hide (row_below HO.out hb1)
          have B1 := hide (bthen HBR.out hb1)
          clear hb1 r0 r1 e0 e1
          have f0 := RK.out _ B1.out
          go_wp2_with (at_builtin; go_must (refine append_runs (w0 := w) rfl _ _ rfl _ _ (z ++ [(t, n)]) rfl (HO1.out.alloc _) (some ⟨w1.heap.size, 0, none⟩) 1 _ [(u, 1)] rfl rfl (Ru.slot_one _ _ _ _ (two_new w1 u 1 42)) (came_some _ _ _) (by omega) (balloc B1.out _) ?_))
          intro v' w2 hnew hb2
          obtain ⟨no, nc, rfl⟩ := row_slice hnew
          have HNW := hide hnew
          have B2 := hide hb2
          clear hnew hb2 f0
          go_wp2_with fail
          exact ⟨⟨m + 1 + 1, no, nc, z ++ [(t, n)] ++ [(u, 1)], by go_num, by simp, by omega, HN2, by simpa using HNW.out, B2.out⟩, by simp [intOf] <;> omega⟩
    · have hkl' : ¬ (k : Int) < (l.length : Int) := by omega
      obtain rfl : k = l.length := by omega
      obtain rfl : y = x := by rw [← HX.out, ← HY.out, List.take_length]
      go_wp2_with fail
      go_ret
      exact ⟨_, _, rfl, HO.out, HBR.out⟩
end Go.Proofs.YtnbedjgjkoeflaaDoor
