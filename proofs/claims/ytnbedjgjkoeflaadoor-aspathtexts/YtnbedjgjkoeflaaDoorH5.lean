/- The contract of the document's Loops. -/
import Derived.Test.YtnbedjgjkoeflaaDoorH4
namespace Go.Proofs.YtnbedjgjkoeflaaDoor
open Go.RowKit Go.Sort

/-- Does a number stand in two of the runs? -/
def Ru.twice (x : List Ru.C) : Bool := (List.range x.length).any fun i => (List.range i).any fun k => (x[i]!).1 == (x[k]!).1
def Is.loops (l : List Int) : Bool := Ru.twice (Ru.runs l)
theorem Ru.twice_yes (x : List Ru.C) (i k : Nat) (hi : i < x.length) (hk : k < i) (h : (x[i]).1 = (x[k]'(by omega)).1) : Ru.twice x = true := by
  unfold Ru.twice
  rw [List.any_eq_true]
  refine ⟨i, List.mem_range.2 hi, ?_⟩
  rw [List.any_eq_true]
  refine ⟨k, List.mem_range.2 hk, ?_⟩
  rw [Ru.bang x i hi, Ru.bang x k (by omega), beq_iff_eq]
  exact h
theorem Ru.twice_no (x : List Ru.C) (h : ∀ i k (hi : i < x.length) (hk : k < i), (x[i]).1 ≠ (x[k]'(by omega)).1) : Ru.twice x = false := by
  cases ht : Ru.twice x
  · rfl
  · unfold Ru.twice at ht
    rw [List.any_eq_true] at ht
    obtain ⟨i, hi, ht⟩ := ht
    rw [List.mem_range] at hi
    rw [List.any_eq_true] at ht
    obtain ⟨k, hk, ht⟩ := ht
    rw [List.mem_range] at hk
    rw [Ru.bang x i hi, Ru.bang x k (by omega), beq_iff_eq] at ht
    exact absurd ht (h i k hi hk)

set_option maxHeartbeats 4000000 in
theorem refLoops_is (ao : Option Addr) (ca : Nat) (l : List Int) (r : Bool) (hr : Is.loops l = r) (w : World) (hA : Is.slot w ao l) (hl : l.length ≤ 1000) :
    Calls Tryd.prog 25 #[.slice ao l.length ca] w fun e w' => e = .returned (.bool r) ∧ Below w.heap.size w w' := by
  obtain ⟨x, hx⟩ : ∃ x, Ru.runs l = x := ⟨_, rfl⟩
  have CR := hide (refRuns_is ao ca l x hx w hA hl)
  have HR : Hid (Ru.twice x = r) := by show _ = _; rw [← hx]; exact hr
  have hxl : x.length ≤ 1000 := by rw [← hx]; exact Nat.le_trans (Ru.runs_len l) hl
  clear hx hA hr
  go_enter Tryd.func25, Tryd.ntmps25
  go_wp2_with fail
  refine CR.out.mono ?_
  rintro e w1 ⟨o, c, rfl, hown, hb1⟩
  have HS := hide (Ru.slot_own hown)
  have B1 := hide hb1
  clear hown hb1 CR
  go_wp2_with fail
  go_loopw [4, 5] (fun v4 _ wr => ∃ i : Nat, v4 = .int .i64 i ∧ i ≤ x.length ∧ Hid (∀ i' k (hi : i' < x.length) (hk : k < i'), i' < i → (x[i']).1 ≠ (x[k]'(by omega)).1) ∧ Below w1.heap.size w1 wr) (fun v4 _ _ => x.length - (intOf v4).toNat)
  case atStart => exact ⟨0, rfl, Nat.zero_le _, hide fun i k _ _ h => absurd h (Nat.not_lt_zero _), brefl w1⟩
  case round =>
    obtain ⟨i, rfl, hi, HI, hbr⟩ := hrel
    have HBR := hide hbr
    clear hbr
    by_cases hil : i < x.length
    · have hil' : (i : Int) < (x.length : Int) := by omega
      obtain ⟨b, off, rfl, hrd⟩ := Ru.slot_at HS.out hil
      have RD := hide hrd
      clear hrd
      go_wp2_with fail
      go_loopw [5] (fun v5 wq => ∃ k : Nat, v5 = .int .i64 k ∧ k ≤ i ∧ Hid (∀ k' (hk : k' < i), k' < k → (x[i]).1 ≠ (x[k']'(by omega)).1) ∧ Below w1.heap.size w1 wq) (fun v5 _ => i - (intOf v5).toNat)
      case atStart => exact ⟨0, rfl, Nat.zero_le _, hide fun k _ h => absurd h (Nat.not_lt_zero _), HBR.out⟩
      case round =>
        obtain ⟨k, rfl, hk, HK, hbq⟩ := hrel
        have HBQ := hide hbq
        clear hbq
        by_cases hki : k < i
        · have hki' : (k : Int) < (i : Int) := by omega
          have hkl : k < x.length := by omega
          have hkl' : (k : Int) < (x.length : Int) := by omega
          have e0 := (Ru.reads_at (Ru.reads_below RD.out HBQ.out) i hil).1
          have e1 := (Ru.reads_at (Ru.reads_below RD.out HBQ.out) k hkl).1
          have HY := hide (Ru.twice_yes x i k hil hki)
          have HE := hide (fun (h : (x[i]).1 ≠ (x[k]).1) => h)
          generalize hu : (x[i]).1 = u at e0 HY HE
          generalize hv : (x[k]).1 = v at e1 HY HE
          have HUV : Hid (u ≠ v → (x[i]).1 ≠ (x[k]).1) := by show _ → _; rw [hu, hv]; exact id
          have HU := hide hu
          clear hu hv HE
          have r0 := fun dd os => cell_regrown e0 dd os
          have r1 := fun dd os => cell_regrown e1 dd os
          by_cases huv : u = v
          · have HN := hide (HR.out.symm.trans (HY.out huv))
            subst huv
            clear HY HUV
            go_wp2_with fail
            refine wp_region_quiet_below (by kernel_rfl) (by kernel_rfl) ?_
            repeat (go_big_quiet_step (fail))
            refine wpQuiet_nil ?_
            rintro _ ⟨⟨dd, os⟩, rfl⟩
            have hb2 := below_regrown wr dd os
            generalize Sort.grow (redrawn wr dd) os = w2 at hb2
            have B2 := hide (bthen B1.out (bthen HBQ.out hb2))
            clear hb2 r0 r1 e0 e1
            go_wp2_with fail
            go_ret
            exact ⟨ret_bool HN.out.symm, B2.out⟩
          · have HN := hide (HUV.out huv)
            have huv' : (u == v) = false := by simpa using huv
            clear HY HUV
            go_wp2_with fail
            refine wp_region_quiet_below (by kernel_rfl) (by kernel_rfl) ?_
            repeat (go_big_quiet_step (fail))
            refine wpQuiet_nil ?_
            rintro _ ⟨⟨dd, os⟩, rfl⟩
            have hb2 := below_regrown wr dd os
            generalize Sort.grow (redrawn wr dd) os = w2 at hb2
            have B2 := hide (bthen HBQ.out hb2)
            clear hb2 r0 r1 e0 e1
            go_wp2_with fail
            refine ⟨⟨k + 1, by go_num, by omega, hide fun k' hk' h => ?_, B2.out⟩, by simp [intOf] <;> omega⟩
            rcases Nat.lt_or_ge k' k with h1 | h1
            · rw [← HU.out]
              exact HK.out k' hk' h1
            · obtain rfl : k' = k := by omega
              rw [← HU.out]
              exact HN.out
        · obtain rfl : k = i := by omega
          go_wp2_with fail
          refine ⟨⟨k + 1, by go_num, by omega, hide fun i' k' hi' hk' h => ?_, HBQ.out⟩, by simp [intOf] <;> omega⟩
          rcases Nat.lt_or_ge i' k with h1 | h1
          · exact HI.out i' k' hi' hk' h1
          · obtain rfl : i' = k := by omega
            exact HK.out k' hk' hk'
    · obtain rfl : i = x.length := by omega
      have HN := hide (HR.out.symm.trans (Ru.twice_no x fun i k hi hk => HI.out i k hi hk hi))
      go_wp2_with fail
      go_ret
      exact ⟨ret_bool HN.out.symm, bthen B1.out HBR.out⟩
end Go.Proofs.YtnbedjgjkoeflaaDoor
