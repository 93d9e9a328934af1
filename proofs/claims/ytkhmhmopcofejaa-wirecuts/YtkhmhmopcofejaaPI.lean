import Derived.Test.YtkhmhmopcofejaaRF
import Derived.Test.YtkhmhmopcofejaaXM1
/- The contract of wire's mayPrefixes. -/
namespace Go.Proofs.Ytkhmhmopcofejaa
open Go.RowKit Go.Sort

theorem before_is (x y : Int × Int) (hx : Gp x) (hy : Gp y) (r : Bool) (h : decide (pLt x y) = r) (w : World) :
    Calls Try.prog 56 #[.agg #[.int .u32 x.1, .int .i64 x.2], .agg #[.int .u32 y.1, .int .i64 y.2]] w fun e w' => e = .returned (.bool r) ∧ Below w.heap.size w w' := by
  have e : Ax.Ad.before x.1 x.2 y.1 y.2 = r := by
    rw [← h]
    have m1 : Ax.Ad.may x.1 x.2 = true := (gp_may hx.1 hx.2.1).trans (decide_eq_true hx)
    have m2 : Ax.Ad.may y.1 y.2 = true := (gp_may hy.1 hy.2.1).trans (decide_eq_true hy)
    unfold pLt Ax.Ad.before
    rw [m1, m2]
    by_cases hq : x.1 = y.1
    · simp [hq]
    · simp [hq]
  rw [← e]
  exact Ax.before_any x.1 x.2 y.1 y.2 w hx.1 hx.2.1 hy.1 hy.2.1
set_option maxHeartbeats 4000000 in
set_option maxRecDepth 100000 in
theorem mayPrefixes_is (ao : Option Addr) (ca : Nat) (l : List (Int × Int)) (r : Bool) (hr : r = true ↔ Ups l) (hf : Ax.Ad.fits l) (hl : l.length ≤ 100000) (w : World) (hA : Ax.Ad.rowAt w ao l) :
    Calls Try.prog 29 #[.slice ao l.length ca] w fun e w' => e = .returned (.bool r) ∧ Below w.heap.size w w' := by
  have HR := hide hr
  have HF := hide hf
  have HA := hide hA
  clear hr hf hA
  have HNO : Hid (¬ Ups l → r = false) := fun h => by
    cases r
    · rfl
    · exact absurd (HR.out.1 rfl) h
  by_cases h32 : 32 < l.length
  · have HN := hide (HNO.out (ups_no32 h32))
    have h32' : (32 : Int) < (l.length : Int) := by omega
    go_enter Try.func29, Try.ntmps29
    go_wp2_with fail
    go_ret
    exact ⟨ret_bool HN.out.symm, brefl w⟩
  have h32' : ¬ (32 : Int) < (l.length : Int) := by omega
  go_enter Try.func29, Try.ntmps29
  go_wp2_with fail
  go_loopw [10] (fun v10 wr => ∃ i : Nat, v10 = .int .i64 i ∧ i ≤ l.length ∧ Hid (UpsTo l i) ∧ Below w.heap.size w wr) (fun v10 _ => l.length - (intOf v10).toNat)
  case atStart => exact ⟨0, rfl, Nat.zero_le _, ⟨fun _ _ h => absurd h (Nat.not_lt_zero _), fun _ _ h => absurd h (Nat.not_lt_zero _)⟩, brefl w⟩
  case round =>
    obtain ⟨i, rfl, hi, HU, hb⟩ := hrel
    have HBR := hide hb
    clear hb
    by_cases hil : i < l.length
    · have hil' : (i : Int) < (l.length : Int) := by omega
      obtain ⟨b, off, rfl, hrd⟩ : ∃ b off, ao = some ⟨b, off, none⟩ ∧ Ax.Ad.reads wr b off l := by
        rcases Ax.Ad.rowAt_below HA.out HBR.out with h | h
        · rw [h] at hil; simp at hil
        · exact h
      obtain ⟨c0, c1⟩ := Ax.Ad.reads_at hrd i hil
      have hfi := HF.out l[i] (List.getElem_mem hil)
      by_cases hg : Gp l[i]
      · have CM := hide (fun W => Ax.may_is l[i].1 l[i].2 true ((gp_may hfi.1 hfi.2).trans (decide_eq_true hg)) W hfi.1 hfi.2)
        by_cases hi0 : i = 0
        · subst hi0
          have HU1 := hide (ups_zero hil hg)
          rw [Nat.zero_mul, Nat.add_zero] at c0 c1
          generalize l[0] = y at *
          obtain ⟨y1, y2⟩ := y
          simp only at *
          have A1 := hide (balloc (brefl wr) (.cells #[.int .u32 y1, .int .i64 y2] 56))
          have q0 := fun dd os => cell_regrown (show (wr.alloc (.cells #[.int .u32 y1, .int .i64 y2] 56)).cell? ⟨wr.heap.size, 0, none⟩ = some (.int .u32 y1) by simp) dd os
          have q1 := fun dd os => cell_regrown (show (wr.alloc (.cells #[.int .u32 y1, .int .i64 y2] 56)).cell? ⟨wr.heap.size, 1, none⟩ = some (.int .i64 y2) by simp) dd os
          clear hrd hg
          go_upto_region 6 with fail
          clear c0 c1
          generalize wr.alloc (.cells #[.int .u32 y1, .int .i64 y2] 56) = W at *
          refine wp_region_quiet_below (by kernel_rfl) (by kernel_rfl) ?_
          repeat (go_big_quiet_step ((go_at_call 42; exact Calls.regrown_of (CM.out _))))
          refine wpQuiet_nil ?_
          rintro _ ⟨⟨dd, os⟩, rfl⟩
          have hb3 := below_regrown W dd os
          generalize Sort.grow (redrawn W dd) os = w3 at hb3
          have B3 := hide (bthen (bthen HBR.out A1.out) hb3)
          clear hb3
          go_wp2_with fail
          exact ⟨⟨1, by go_num, hil, HU1, B3.out⟩, by simp [intOf] <;> omega⟩
        · obtain ⟨m, hm⟩ : ∃ m, i = m + 1 := ⟨i - 1, by omega⟩
          obtain ⟨e0, e1⟩ := Ax.Ad.reads_at hrd m (by omega)
          have hgm : Gp (l[m]'(by omega)) := HU.out.1 m (by omega) (by omega)
          have hpos : (0 : Int) < (i : Int) := by omega
          have hposN : 0 < i := by omega
          have hsub : (i : Int) - 1 = (m : Int) := by omega
          have hml : (m : Int) < (l.length : Int) := by omega
          have hmw : IntKind.i64.wrap (m : Int) = (m : Int) := by rw [IntKind.wrap_i64]; omega
          by_cases hp : pLt (l[m]'(by omega)) l[i]
          · have CB := hide (fun W => before_is (l[m]'(by omega)) l[i] hgm hg true (decide_eq_true hp) W)
            have HU1 := hide (ups_next hm hil HU.out hg hp)
            generalize l[i] = y at *
            generalize l[m] = x at *
            obtain ⟨y1, y2⟩ := y
            obtain ⟨x1, x2⟩ := x
            simp only at *
            have A1 := hide (balloc (brefl wr) (.cells #[.int .u32 y1, .int .i64 y2] 56))
            have q0 := fun dd os => cell_regrown (show (wr.alloc (.cells #[.int .u32 y1, .int .i64 y2] 56)).cell? ⟨wr.heap.size, 0, none⟩ = some (.int .u32 y1) by simp) dd os
            have q1 := fun dd os => cell_regrown (show (wr.alloc (.cells #[.int .u32 y1, .int .i64 y2] 56)).cell? ⟨wr.heap.size, 1, none⟩ = some (.int .i64 y2) by simp) dd os
            have q2 := fun dd os => cell_regrown ((A1.out.cell (p := ⟨b, off + m * 2, none⟩) (block_lt_of_cell e0)).trans e0) dd os
            have q3 := fun dd os => cell_regrown ((A1.out.cell (p := ⟨b, off + m * 2 + 1, none⟩) (block_lt_of_cell e1)).trans e1) dd os
            clear hrd hg hgm hp hm hi0
            go_upto_region 6 with fail
            clear c0 c1 e0 e1
            generalize wr.alloc (.cells #[.int .u32 y1, .int .i64 y2] 56) = W at *
            refine wp_region_quiet_below (by kernel_rfl) (by kernel_rfl) ?_
            repeat (go_big_quiet_step ((first | (go_at_call 42; exact Calls.regrown_of (CM.out _)) | (go_at_call 56; exact Calls.regrown_of (CB.out _)))))
            refine wpQuiet_nil ?_
            rintro _ ⟨⟨dd, os⟩, rfl⟩
            have hb3 := below_regrown W dd os
            generalize Sort.grow (redrawn W dd) os = w3 at hb3
            have B3 := hide (bthen (bthen HBR.out A1.out) hb3)
            clear hb3
            go_wp2_with fail
            exact ⟨⟨i + 1, by go_num, hil, HU1, B3.out⟩, by simp [intOf] <;> omega⟩
          · have CB := hide (fun W => before_is (l[m]'(by omega)) l[i] hgm hg false (decide_eq_false hp) W)
            have HN := hide (HNO.out (ups_not hm hil hp))
            generalize l[i] = y at *
            generalize l[m] = x at *
            obtain ⟨y1, y2⟩ := y
            obtain ⟨x1, x2⟩ := x
            simp only at *
            have A1 := hide (balloc (brefl wr) (.cells #[.int .u32 y1, .int .i64 y2] 56))
            have q0 := fun dd os => cell_regrown (show (wr.alloc (.cells #[.int .u32 y1, .int .i64 y2] 56)).cell? ⟨wr.heap.size, 0, none⟩ = some (.int .u32 y1) by simp) dd os
            have q1 := fun dd os => cell_regrown (show (wr.alloc (.cells #[.int .u32 y1, .int .i64 y2] 56)).cell? ⟨wr.heap.size, 1, none⟩ = some (.int .i64 y2) by simp) dd os
            have q2 := fun dd os => cell_regrown ((A1.out.cell (p := ⟨b, off + m * 2, none⟩) (block_lt_of_cell e0)).trans e0) dd os
            have q3 := fun dd os => cell_regrown ((A1.out.cell (p := ⟨b, off + m * 2 + 1, none⟩) (block_lt_of_cell e1)).trans e1) dd os
            clear hrd hg hgm hp hm hi0
            go_upto_region 6 with fail
            clear c0 c1 e0 e1
            generalize wr.alloc (.cells #[.int .u32 y1, .int .i64 y2] 56) = W at *
            refine wp_region_quiet_below (by kernel_rfl) (by kernel_rfl) ?_
            repeat (go_big_quiet_step ((first | (go_at_call 42; exact Calls.regrown_of (CM.out _)) | (go_at_call 56; exact Calls.regrown_of (CB.out _)))))
            refine wpQuiet_nil ?_
            rintro _ ⟨⟨dd, os⟩, rfl⟩
            have hb3 := below_regrown W dd os
            generalize Sort.grow (redrawn W dd) os = w3 at hb3
            have B3 := hide (bthen (bthen HBR.out A1.out) hb3)
            clear hb3
            go_wp2_with fail
            go_ret
            exact ⟨ret_bool HN.out.symm, B3.out⟩
      · have CM := hide (fun W => Ax.may_is l[i].1 l[i].2 false ((gp_may hfi.1 hfi.2).trans (decide_eq_false hg)) W hfi.1 hfi.2)
        have HN := hide (HNO.out (ups_nogp hil hg))
        generalize l[i] = y at *
        obtain ⟨y1, y2⟩ := y
        simp only at *
        have A1 := hide (balloc (brefl wr) (.cells #[.int .u32 y1, .int .i64 y2] 56))
        have q0 := fun dd os => cell_regrown (show (wr.alloc (.cells #[.int .u32 y1, .int .i64 y2] 56)).cell? ⟨wr.heap.size, 0, none⟩ = some (.int .u32 y1) by simp) dd os
        have q1 := fun dd os => cell_regrown (show (wr.alloc (.cells #[.int .u32 y1, .int .i64 y2] 56)).cell? ⟨wr.heap.size, 1, none⟩ = some (.int .i64 y2) by simp) dd os
        clear hrd hg
        go_upto_region 6 with fail
        clear c0 c1
        generalize wr.alloc (.cells #[.int .u32 y1, .int .i64 y2] 56) = W at *
        refine wp_region_quiet_below (by kernel_rfl) (by kernel_rfl) ?_
        repeat (go_big_quiet_step ((go_at_call 42; exact Calls.regrown_of (CM.out _))))
        refine wpQuiet_nil ?_
        rintro _ ⟨⟨dd, os⟩, rfl⟩
        have hb3 := below_regrown W dd os
        generalize Sort.grow (redrawn W dd) os = w3 at hb3
        have B3 := hide (bthen (bthen HBR.out A1.out) hb3)
        clear hb3
        go_wp2_with fail
        go_ret
        exact ⟨ret_bool HN.out.symm, B3.out⟩
    · obtain rfl : i = l.length := by omega
      have HN := hide (HR.out.2 (ups_all (by omega) HU.out))
      go_wp2_with fail
      go_ret
      exact ⟨ret_bool HN.out.symm, HBR.out⟩
end Go.Proofs.Ytkhmhmopcofejaa
