/- The program's Runs. -/
import Derived.Test.YtnbedjgjkoeflaaDoorK2
namespace Go.Proofs.YtnbedjgjkoeflaaDoor
open Go.RowKit Go.Sort

/-- The last run of a row of the call's own, longer by one. -/
theorem run_last {w w0 : World} {o : Option Addr} {c : Nat} (z : List Ru.C) (u n : Int) (hown : w.ownsRow w0.heap.size 42 2 (.slice o (z.length + 1) c) (z.length + 1) (Ru.cells (z ++ [(u, n)]))) (hb : Below w0.heap.size w0 w) :
    ∃ g, o = some ⟨g, 0, none⟩ ∧ w.cell? ⟨g, z.length * 2 + 1, none⟩ = some (.int .i64 n) ∧ w.frozen? ⟨g, z.length * 2 + 1, none⟩ = false ∧
      ∀ m : Int, (w.setCell ⟨g, z.length * 2 + 1, none⟩ (.int .i64 m)).ownsRow w0.heap.size 42 2 (.slice o (z.length + 1) c) (z.length + 1) (Ru.cells (z ++ [(u, m)])) ∧ Below w0.heap.size w0 (w.setCell ⟨g, z.length * 2 + 1, none⟩ (.int .i64 m)) := by
  obtain ⟨g, rfl, hge⟩ : ∃ g, o = some ⟨g, 0, none⟩ ∧ w0.heap.size ≤ g := by
    rcases hown.2 with ⟨_, h⟩ | ⟨g, cap', cur, hv, hge, _⟩
    · exact absurd h (by omega)
    · simp only [Value.slice.injEq] at hv
      exact ⟨g, hv.1, hge⟩
  refine ⟨g, rfl, ?_, hown.frozenAt _, fun m => ⟨?_, bset hb (p := ⟨g, z.length * 2 + 1, none⟩) hge _⟩⟩
  · rw [hown.cellAt _ (by omega), Ru.cells_app, List.getElem?_append_right (by rw [Ru.cells_length]; omega), Ru.cells_length, show z.length * 2 + 1 - z.length * 2 = 1 by omega]
    rfl
  · have h := (hown.stored (z.length * 2 + 1) (.int .i64 m)).1
    rw [Ru.cells_set] at h
    exact h

set_option maxHeartbeats 4000000 in
theorem runs_is (ao : Option Addr) (ca : Nat) (l : List Int) (x : List Ru.C) (hx : Ru.runs l = x) (w : World) (hA : Is.slot w ao l) (hl : l.length ≤ 1000) :
    Calls Tryd.prog 29 #[.slice ao l.length ca] w (RunsGood w x) := by
  have HA := hide hA
  have HX := hide hx
  clear hA hx
  go_enter Tryd.func29, Tryd.ntmps29
  go_wp2_with fail
  go_loopw [3, 8] (fun v3 v8 wr => ∃ (k : Nat) (o : Option Addr) (c : Nat) (y : List Ru.C), v8 = .int .i64 k ∧ v3 = .slice o y.length c ∧ k ≤ l.length ∧ Hid (Ru.runs (l.take k) = y) ∧ wr.ownsRow w.heap.size 42 2 (.slice o y.length c) y.length (Ru.cells y) ∧ Below w.heap.size w wr) (fun _ v8 _ => l.length - (intOf v8).toNat)
  case atStart => exact ⟨0, none, 0, [], rfl, rfl, Nat.zero_le _, hide rfl, World.ownsRow_nil _ _ _ _, brefl w⟩
  case round =>
    obtain ⟨k, o, c, y, rfl, rfl, hk, HY, hown, hbr⟩ := hrel
    have HO := hide hown
    have HBR := hide hbr
    clear hown hbr
    by_cases hkl : k < l.length
    · have hkl' : (k : Int) < (l.length : Int) := by omega
      obtain ⟨b, off, rfl, hrd⟩ := Is.slot_at HA.out hkl
      have RD := hide hrd
      have e0 := Is.reads_below hrd HBR.out k hkl
      clear hrd
      have HN : Hid (Ru.runs (l.take (k + 1)) = Ru.push y l[k]) := by
        show _ = _
        rw [List.take_succ_eq_append_getElem hkl, Ru.runs_snoc, HY.out]
      have hylen : y.length ≤ k := by
        rw [← HY.out]
        exact Nat.le_trans (Ru.runs_len _) (by rw [List.length_take]; omega)
      rcases Nat.eq_zero_or_pos k with h0 | h0
      · subst h0
        obtain rfl : y = [] := HY.out.symm
        generalize l[0] = u at *
        simp only [Nat.add_zero] at e0
        go_wp2_with (at_builtin; go_must (refine append_runs (w0 := w) rfl _ _ rfl _ 0 [] rfl (HO.out.alloc _) (some ⟨wr.heap.size, 0, none⟩) 1 _ [(u, 0)] rfl rfl (Ru.slot_one _ _ _ _ (two_new wr u 0 42)) (came_some _ _ _) (by decide) (balloc HBR.out _) ?_))
        intro v' w2 hnew hb2
        obtain ⟨no, nc, rfl⟩ := row_slice hnew
        obtain ⟨g, rfl, c1, f1, hset⟩ := run_last [] u 0 hnew hb2
        simp only [List.length_nil, Nat.zero_mul, Nat.zero_add] at c1 f1 hset
        have HS := hide (hset 1)
        clear hnew hb2 hset e0
        go_wp2_with fail
        go_region
        go_wp2_with fail
        exact ⟨⟨1, _, nc, [(u, 1)], rfl, rfl, by omega, hide (HN.out.trans (Ru.push_nil u)), HS.out.1, HS.out.2.drew⟩, by simp [intOf] <;> omega⟩
      · obtain ⟨m, rfl⟩ : ∃ m, k = m + 1 := ⟨k - 1, by omega⟩
        have hml : m < l.length := by omega
        have hml' : (m : Int) < (l.length : Int) := by omega
        have e1 := Is.reads_below RD.out HBR.out m hml
        obtain ⟨z, n, hy, hn1, hn2, hz⟩ := Ru.runs_last (l.take m) l[m]
        rw [← List.take_succ_eq_append_getElem hml, HY.out] at hy
        rw [List.length_take, Nat.min_eq_left (by omega)] at hn2 hz
        subst hy
        have hzl : (z ++ [(l[m], n)]).length = z.length + 1 := by simp
        generalize l[m + 1] = u at *
        generalize l[m] = t at *
        by_cases htu : t = u
        · subst htu
          rw [hzl] at HO ⊢
          have HN2 := hide (HN.out.trans (Ru.push_same z t n))
          obtain ⟨g, rfl, c1, f1, hset⟩ := run_last z t n HO.out HBR.out
          have HS := hide (hset (n + 1))
          have HZL : Hid ((z ++ [(t, n + 1)]).length = z.length + 1) := by show _ = _; simp
          clear HN HY RD hset HO hzl hylen
          generalize hq : z.length = q at *
          clear hq
          go_wp2_with fail
          go_region
          go_wp2_with fail
          exact ⟨⟨m + 1 + 1, some ⟨g, 0, none⟩, c, z ++ [(t, n + 1)], by go_num, by rw [HZL.out], by omega, HN2, by rw [HZL.out]; exact HS.out.1, HS.out.2.drew⟩, by simp [intOf] <;> omega⟩
        · have HN2 := hide (HN.out.trans (Ru.push_new z t n u htu))
          have htu' : (t != u) = true := by simpa using htu
          obtain ⟨Z, hZ⟩ : ∃ Z, z ++ [(t, n)] = Z := ⟨_, rfl⟩
          rw [hZ] at HN2 HO hzl ⊢
          have HZL : Hid ((Z ++ [(u, 1)]).length = Z.length + 1) := by show _ = _; simp
          have hzb : Z.length ≤ 1000 := by omega
          clear HN HY RD hylen hZ hzl
          go_wp2_with (at_builtin; go_must (refine append_runs (w0 := w) rfl _ _ rfl _ Z.length Z rfl (HO.out.alloc _) (some ⟨wr.heap.size, 0, none⟩) 1 _ [(u, 0)] rfl rfl (Ru.slot_one _ _ _ _ (two_new wr u 0 42)) (came_some _ _ _) (by omega) (balloc HBR.out _) ?_))
          intro v' w2 hnew hb2
          obtain ⟨no, nc, rfl⟩ := row_slice hnew
          obtain ⟨g, rfl, c1, f1, hset⟩ := run_last Z u 0 hnew hb2
          have HS := hide (hset 1)
          clear hnew hb2 hset e0 e1 HO
          generalize hq : Z.length = q at c1 f1 HS HZL hzb ⊢
          clear hq
          go_wp2_with fail
          go_region
          go_wp2_with fail
          exact ⟨⟨m + 1 + 1, some ⟨g, 0, none⟩, nc, Z ++ [(u, 1)], by go_num, by rw [HZL.out], by omega, HN2, by rw [HZL.out]; exact HS.out.1, HS.out.2.drew⟩, by simp [intOf] <;> omega⟩
    · have hkl' : ¬ (k : Int) < (l.length : Int) := by omega
      obtain rfl : k = l.length := by omega
      obtain rfl : y = x := by rw [← HX.out, ← HY.out, List.take_length]
      go_wp2_with fail
      go_ret
      exact ⟨_, _, rfl, HO.out, HBR.out⟩
end Go.Proofs.YtnbedjgjkoeflaaDoor
