/- The program's mayRuns. -/
import Derived.Test.YtnbedjgjkoeflaaDoorK4
namespace Go.Proofs.YtnbedjgjkoeflaaDoor
open Go.RowKit Go.Sort

theorem mayAS_b (n : Int) (r : Bool) (h : Is.as n = r) (w : World) : Calls Tryd.prog 38 #[.int .i64 n] w fun e w' => e = .returned (.bool r) ∧ Below w.heap.size w w' :=
  (mayAS_is n r h w).mono fun e w' ⟨h1, h2⟩ => ⟨h1, by rw [h2]; exact brefl w⟩

set_option maxHeartbeats 8000000 in
theorem mayRuns_is (ao : Option Addr) (ca : Nat) (x : List Ru.C) (r : Bool) (h : Ru.good x = r) (w : World) (hA : Ru.slot w ao x) (hx : x.length ≤ 1000) :
    Calls Tryd.prog 53 #[.slice ao x.length ca] w fun e w' => e = .returned (.bool r) ∧ Below w.heap.size w w' := by
  have HA := hide hA
  have HBAD : Hid (∀ k, k < x.length → Ru.okAt x k = false → r = false) := by
    intro k hk hb
    cases hr : r
    · rfl
    · rw [hr] at h
      rw [(Ru.good_iff x).1 h k hk] at hb
      cases hb
  have HEND : Hid ((∀ j, j < x.length → Ru.okAt x j = true) → r = true) := by
    intro hall
    rw [← h]
    exact (Ru.good_iff x).2 hall
  clear hA h
  go_enter Tryd.func53, Tryd.ntmps53
  go_wp2_with fail
  go_loopw [7] (fun v wr => ∃ k : Nat, v = .int .i64 k ∧ k ≤ x.length ∧ Hid (∀ j, j < k → Ru.okAt x j = true) ∧ Below w.heap.size w wr) (fun v _ => x.length - (intOf v).toNat)
  case atStart => exact ⟨0, rfl, Nat.zero_le _, hide fun j hj => absurd hj (Nat.not_lt_zero _), brefl w⟩
  case round =>
    obtain ⟨k, rfl, hk, HALL, hbr⟩ := hrel
    have HBR := hide hbr
    clear hbr
    by_cases hkl : k < x.length
    · have hkl' : (k : Int) < (x.length : Int) := by omega
      obtain ⟨b, off, rfl, hrd⟩ := Ru.slot_at HA.out hkl
      have RD := hide hrd
      obtain ⟨e0, e1⟩ := Ru.reads_at (Ru.reads_below hrd HBR.out) k hkl
      clear hrd
      have HB := hide (HBAD.out k hkl)
      have HNX : Hid (Ru.okAt x k = true → ∀ j, j < k + 1 → Ru.okAt x j = true) := by
        intro h j hj
        rcases Nat.lt_or_ge j k with h1 | h1
        · exact HALL.out j h1
        · obtain rfl : j = k := by omega
          exact h
      rcases Nat.eq_zero_or_pos k with h0 | h0
      · subst h0
        rw [Ru.ok_zero x hkl] at HB HNX
        generalize x[0] = u at *
        obtain ⟨u0, u1⟩ := u
        simp only [Nat.zero_mul, Nat.add_zero] at e0 e1
        have f0 : (wr.alloc (.cells #[.int .i64 u0, .int .i64 u1] 42)).cell? ⟨wr.heap.size, 0, none⟩ = some (.int .i64 u0) := by simp
        have f1 : (wr.alloc (.cells #[.int .i64 u0, .int .i64 u1] 42)).cell? ⟨wr.heap.size, 1, none⟩ = some (.int .i64 u1) := by simp
        have B0 := hide (balloc HBR.out (.cells #[.int .i64 u0, .int .i64 u1] 42))
        cases ha : Is.as u0
        · obtain rfl := HB.out (by rw [ha]; rfl)
          have CA := hide (fun W => mayAS_b u0 false ha W)
          clear HB HNX ha
          go_wp2_with fail
          generalize wr.alloc (.cells #[.int .i64 u0, .int .i64 u1] 42) = W1 at *
          generalize wr.heap.size = n at *
          have r0 := fun dd os => cell_regrown f0 dd os
          have r1 := fun dd os => cell_regrown f1 dd os
          refine wp_region_quiet_below (by kernel_rfl) (by kernel_rfl) ?_
          repeat (go_big_quiet_step ((go_at_call 38; exact Calls.regrown_of (CA.out _))))
          refine wpQuiet_nil ?_
          rintro _ ⟨⟨dd, os⟩, rfl⟩
          have hb1 := below_regrown W1 dd os
          generalize Sort.grow (redrawn W1 dd) os = w1 at hb1
          have B1 := hide (bthen B0.out hb1)
          clear hb1 r0 r1 f0 f1
          go_wp2_with fail
          go_ret
          exact ⟨rfl, B1.out⟩
        · have CA := hide (fun W => mayAS_b u0 true ha W)
          by_cases h1 : 0 < u1
          · have hd1 : decide (u1 < 1) = false := decide_eq_false (by omega)
            have HNX := hide (HNX.out (by rw [ha, Bool.true_and]; exact decide_eq_true h1))
            clear HB ha h1
            go_wp2_with fail
            generalize wr.alloc (.cells #[.int .i64 u0, .int .i64 u1] 42) = W1 at *
            generalize wr.heap.size = n at *
            have r0 := fun dd os => cell_regrown f0 dd os
            have r1 := fun dd os => cell_regrown f1 dd os
            refine wp_region_quiet_below (by kernel_rfl) (by kernel_rfl) ?_
            repeat (go_big_quiet_step ((go_at_call 38; exact Calls.regrown_of (CA.out _))))
            refine wpQuiet_nil ?_
            rintro _ ⟨⟨dd, os⟩, rfl⟩
            have hb1 := below_regrown W1 dd os
            generalize Sort.grow (redrawn W1 dd) os = w1 at hb1
            have B1 := hide (bthen B0.out hb1)
            clear hb1 r0 r1 f0 f1
            go_wp2_with fail
            exact ⟨⟨0 + 1, by go_num, by omega, HNX, B1.out⟩, by simp [intOf] <;> omega⟩
          · obtain rfl := HB.out (by rw [ha, Bool.true_and]; exact decide_eq_false h1)
            have hd1 : u1 < 1 := by omega
            clear HB HNX ha h1
            go_wp2_with fail
            generalize wr.alloc (.cells #[.int .i64 u0, .int .i64 u1] 42) = W1 at *
            generalize wr.heap.size = n at *
            have r0 := fun dd os => cell_regrown f0 dd os
            have r1 := fun dd os => cell_regrown f1 dd os
            refine wp_region_quiet_below (by kernel_rfl) (by kernel_rfl) ?_
            repeat (go_big_quiet_step ((go_at_call 38; exact Calls.regrown_of (CA.out _))))
            refine wpQuiet_nil ?_
            rintro _ ⟨⟨dd, os⟩, rfl⟩
            have hb1 := below_regrown W1 dd os
            generalize Sort.grow (redrawn W1 dd) os = w1 at hb1
            have B1 := hide (bthen B0.out hb1)
            clear hb1 r0 r1 f0 f1
            go_wp2_with fail
            go_ret
            exact ⟨rfl, B1.out⟩
      · obtain ⟨m, rfl⟩ : ∃ m, k = m + 1 := ⟨k - 1, by omega⟩
        have hml : m < x.length := by omega
        have hml' : (m : Int) < (x.length : Int) := by omega
        rw [Ru.ok_succ x m hkl] at HB HNX
        have RM := hide (fun W (hW : Below w.heap.size w W) => (Ru.reads_at (Ru.reads_below RD.out hW) m hml).1)
        generalize x[m + 1] = u at *
        generalize (x[m]).1 = t at *
        obtain ⟨u0, u1⟩ := u
        have f0 : (wr.alloc (.cells #[.int .i64 u0, .int .i64 u1] 42)).cell? ⟨wr.heap.size, 0, none⟩ = some (.int .i64 u0) := by simp
        have f1 : (wr.alloc (.cells #[.int .i64 u0, .int .i64 u1] 42)).cell? ⟨wr.heap.size, 1, none⟩ = some (.int .i64 u1) := by simp
        have B0 := hide (balloc HBR.out (.cells #[.int .i64 u0, .int .i64 u1] 42))
        have f2 := RM.out _ B0.out
        clear RM
        cases ha : Is.as u0
        · obtain rfl := HB.out (by rw [ha]; rfl)
          have CA := hide (fun W => mayAS_b u0 false ha W)
          clear HB HNX ha
          go_wp2_with fail
          generalize wr.alloc (.cells #[.int .i64 u0, .int .i64 u1] 42) = W1 at *
          generalize wr.heap.size = n at *
          have r0 := fun dd os => cell_regrown f0 dd os
          have r1 := fun dd os => cell_regrown f1 dd os
          have r2 := fun dd os => cell_regrown f2 dd os
          refine wp_region_quiet_below (by kernel_rfl) (by kernel_rfl) ?_
          repeat (go_big_quiet_step ((go_at_call 38; exact Calls.regrown_of (CA.out _))))
          refine wpQuiet_nil ?_
          rintro _ ⟨⟨dd, os⟩, rfl⟩
          have hb1 := below_regrown W1 dd os
          generalize Sort.grow (redrawn W1 dd) os = w1 at hb1
          have B1 := hide (bthen B0.out hb1)
          clear hb1 r0 r1 r2 f0 f1 f2
          go_wp2_with fail
          go_ret
          exact ⟨rfl, B1.out⟩
        · have CA := hide (fun W => mayAS_b u0 true ha W)
          by_cases h1 : 0 < u1
          · have hd1 : decide (u1 < 1) = false := decide_eq_false (by omega)
            by_cases h2 : u0 = t
            · subst h2
              obtain rfl := HB.out (by simp)
              clear HB HNX ha h1
              go_wp2_with fail
              generalize wr.alloc (.cells #[.int .i64 u0, .int .i64 u1] 42) = W1 at *
              generalize wr.heap.size = n at *
              have r0 := fun dd os => cell_regrown f0 dd os
              have r1 := fun dd os => cell_regrown f1 dd os
              have r2 := fun dd os => cell_regrown f2 dd os
              refine wp_region_quiet_below (by kernel_rfl) (by kernel_rfl) ?_
              repeat (go_big_quiet_step ((go_at_call 38; exact Calls.regrown_of (CA.out _))))
              refine wpQuiet_nil ?_
              rintro _ ⟨⟨dd, os⟩, rfl⟩
              have hb1 := below_regrown W1 dd os
              generalize Sort.grow (redrawn W1 dd) os = w1 at hb1
              have B1 := hide (bthen B0.out hb1)
              clear hb1 r0 r1 r2 f0 f1 f2
              go_wp2_with fail
              go_ret
              exact ⟨rfl, B1.out⟩
            · have HNX := hide (HNX.out (by rw [ha, decide_eq_true h1]; simpa using h2))
              have hd2 : (t == u0) = false := by simpa using fun e : t = u0 => h2 e.symm
              clear HB ha h1 h2
              go_wp2_with fail
              generalize wr.alloc (.cells #[.int .i64 u0, .int .i64 u1] 42) = W1 at *
              generalize wr.heap.size = n at *
              have r0 := fun dd os => cell_regrown f0 dd os
              have r1 := fun dd os => cell_regrown f1 dd os
              have r2 := fun dd os => cell_regrown f2 dd os
              refine wp_region_quiet_below (by kernel_rfl) (by kernel_rfl) ?_
              repeat (go_big_quiet_step ((go_at_call 38; exact Calls.regrown_of (CA.out _))))
              refine wpQuiet_nil ?_
              rintro _ ⟨⟨dd, os⟩, rfl⟩
              have hb1 := below_regrown W1 dd os
              generalize Sort.grow (redrawn W1 dd) os = w1 at hb1
              have B1 := hide (bthen B0.out hb1)
              clear hb1 r0 r1 r2 f0 f1 f2
              go_wp2_with fail
              exact ⟨⟨m + 1 + 1, by go_num, by omega, HNX, B1.out⟩, by simp [intOf] <;> omega⟩
          · obtain rfl := HB.out (by rw [decide_eq_false h1, Bool.and_false, Bool.false_and])
            have hd1 : u1 < 1 := by omega
            clear HB HNX ha h1
            go_wp2_with fail
            generalize wr.alloc (.cells #[.int .i64 u0, .int .i64 u1] 42) = W1 at *
            generalize wr.heap.size = n at *
            have r0 := fun dd os => cell_regrown f0 dd os
            have r1 := fun dd os => cell_regrown f1 dd os
            have r2 := fun dd os => cell_regrown f2 dd os
            refine wp_region_quiet_below (by kernel_rfl) (by kernel_rfl) ?_
            repeat (go_big_quiet_step ((go_at_call 38; exact Calls.regrown_of (CA.out _))))
            refine wpQuiet_nil ?_
            rintro _ ⟨⟨dd, os⟩, rfl⟩
            have hb1 := below_regrown W1 dd os
            generalize Sort.grow (redrawn W1 dd) os = w1 at hb1
            have B1 := hide (bthen B0.out hb1)
            clear hb1 r0 r1 r2 f0 f1 f2
            go_wp2_with fail
            go_ret
            exact ⟨rfl, B1.out⟩
    · obtain rfl : k = x.length := by omega
      obtain rfl : r = true := HEND.out HALL.out
      go_wp2_with fail
      go_ret
      exact ⟨rfl, HBR.out⟩
end Go.Proofs.YtnbedjgjkoeflaaDoor
