/- comm's Set of whatever list; the document's Set and In. -/
import Derived.Test.YtngfoijmknclhaaGreatDoorJ04
namespace Go.Proofs.YtngfoijmknclhaaGreatDoor.Cm
open Go.RowKit Go.Sort
set_option maxHeartbeats 1000000 in
theorem set_is (ao : Option Addr) (ca : Nat) (l : List Co.C) (r : Bool) (hr : Co.set l = r) (w : World) (hA : Co.slot w ao l) :
    Calls Tryz.prog 85 #[.slice ao l.length ca] w fun e w' => e = .returned (.bool r) ∧ Below w.heap.size w w' := by
  by_cases h8 : l.length ≤ 8
  · subst hr
    exact set_row ao ca l w hA h8
  · obtain rfl : false = r := by rw [← hr, Co.set_long l (by omega)]
    have hgt : (8 : Int) < (l.length : Int) := by omega
    clear hr hA
    go_enter Tryz.func85, Tryz.ntmps85
    go_wp2_with fail
    go_ret
    exact ⟨rfl, brefl w⟩

set_option maxHeartbeats 4000000 in
theorem refSet_is (ao : Option Addr) (ca : Nat) (l : List Co.C) (r : Bool) (hr : Co.set l = r) (w : World) (hA : Co.slot w ao l) (h200 : l.length ≤ 200) :
    Calls Tryz.prog 68 #[.slice ao l.length ca] w fun e w' => e = .returned (.bool r) ∧ Below w.heap.size w w' := by
  have HA := hide hA
  have HR := hide hr
  clear hA hr
  go_enter Tryz.func68, Tryz.ntmps68
  go_wp2_with fail
  go_loopw [3] (fun v wr => ∃ k : Nat, v = .int .i64 k ∧ k ≤ l.length ∧ k ≤ 8 ∧ (∀ j, j < k → Co.okAt l j = true) ∧ Below w.heap.size w wr) (fun v _ => l.length - (intOf v).toNat)
  case atStart => exact ⟨0, rfl, Nat.zero_le _, by decide, fun j hj => absurd hj (Nat.not_lt_zero _), brefl w⟩
  case round =>
    obtain ⟨k, rfl, hk, hk8, hall, hbr⟩ := hrel
    have HALL := hide hall
    have HBR := hide hbr
    clear hall hbr
    by_cases hkl : k < l.length
    · have hkl' : (k : Int) < (l.length : Int) := by omega
      obtain ⟨b, off, rfl, hrd⟩ := Co.slot_at HA.out hkl
      have hrd' := Co.reads_below hrd HBR.out
      obtain ⟨e0, e1⟩ := Co.reads_at hrd' k hkl
      have HM0 := hide (Co.ok_may l k hkl)
      have HRD := hide hrd'
      clear hrd hrd'
      obtain ⟨y, hy⟩ : ∃ y, y = l[k] := ⟨_, rfl⟩
      rw [← hy] at e0 e1 HM0
      have HY := hide hy
      clear hy
      obtain ⟨y0, y1⟩ := y
      have r0 := fun dd os => cell_regrown e0 dd os
      have r1 := fun dd os => cell_regrown e1 dd os
      by_cases hk88 : k = 8
      · subst hk88
        go_wp2_with fail
        refine wp_region_quiet_below (by kernel_rfl) (by kernel_rfl) ?_
        repeat (go_big_quiet_step (fail))
        refine wpQuiet_nil ?_
        rintro _ ⟨⟨dd, os⟩, rfl⟩
        have hb1 := below_regrown wr dd os
        generalize Sort.grow (redrawn wr dd) os = w2 at hb1
        have B2 := hide (bthen HBR.out hb1)
        clear hb1 r0 r1 e0 e1
        go_wp2_with fail
        go_ret
        exact ⟨ret_bool ((Co.set_long l hkl).symm.trans HR.out), B2.out⟩
      · have h8d : decide ((8 : Int) ≤ (k : Int)) = false := by simp; omega
        cases hm : Co.may (y0, y1)
        · have HM := hide hm
          clear hm
          go_wp2_with fail
          refine wp_region_quiet_below (by kernel_rfl) (by kernel_rfl) ?_
          repeat (go_big_quiet_step ((go_at_call 54; exact Calls.regrown_of (refMay_is _ _ _ HM.out _))))
          refine wpQuiet_nil ?_
          rintro _ ⟨⟨dd, os⟩, rfl⟩
          have hb1 := below_regrown wr dd os
          generalize Sort.grow (redrawn wr dd) os = w2 at hb1
          have B2 := hide (bthen HBR.out hb1)
          clear hb1 r0 r1 e0 e1
          go_wp2_with fail
          go_ret
          exact ⟨ret_bool ((Co.set_bad l k hkl (HM0.out HM.out)).symm.trans HR.out), B2.out⟩
        · have HM := hide hm
          clear hm
          rcases Nat.eq_zero_or_pos k with hk0 | hk0
          · subst hk0
            have HOK : Hid (Co.okAt l 0 = true) := (Co.ok_zero l hkl).trans (by rw [← HY.out]; exact HM.out)
            simp only [Nat.zero_mul, Nat.add_zero] at e0 e1 r0 r1
            go_wp2_with fail
            refine wp_region_quiet_below (by kernel_rfl) (by kernel_rfl) ?_
            repeat (go_big_quiet_step ((go_at_call 54; exact Calls.regrown_of (refMay_is _ _ _ HM.out _))))
            refine wpQuiet_nil ?_
            rintro _ ⟨⟨dd, os⟩, rfl⟩
            have hb1 := below_regrown wr dd os
            generalize Sort.grow (redrawn wr dd) os = w2 at hb1
            have B2 := hide (bthen HBR.out hb1)
            clear hb1 r0 r1 e0 e1
            go_wp2_with fail
            refine ⟨⟨1, by go_num, by omega, by decide, fun j hj => ?_, B2.out⟩, by simp [intOf] <;> omega⟩
            obtain rfl : j = 0 := by omega
            exact HOK.out
          · obtain ⟨m, rfl⟩ : ∃ m, k = m + 1 := ⟨k - 1, by omega⟩
            obtain ⟨f0, f1⟩ := Co.reads_at HRD.out m (by omega)
            have HOK := hide (Co.ok_succ l m hkl)
            obtain ⟨z, hz⟩ : ∃ z, z = l[m] := ⟨_, rfl⟩
            rw [← hz] at f0 f1 HOK
            rw [← HY.out] at HOK
            clear hz
            obtain ⟨z0, z1⟩ := z
            obtain ⟨o, ho⟩ : ∃ o, Co.bef (z0, z1) (y0, y1) = o := ⟨_, rfl⟩
            rw [HM.out, ho, Bool.true_and] at HOK
            have HO := hide ho
            clear ho
            have hml : (m : Int) < (l.length : Int) := by omega
            have hpos : (0 : Int) < (m : Int) + 1 := by omega
            have h8e : decide ((8 : Int) ≤ (m : Int) + 1) = false := by simp; omega
            have hkl2 : (m : Int) + 1 < (l.length : Int) := by omega
            have hw1 : IntKind.i64.wrap ((m : Int) + 1 - 1) = m := by rw [IntKind.wrap_i64]; omega
            have hw2 : ((m : Int) + 1 - 1) = m := by omega
            have s0 := fun dd os => cell_regrown f0 dd os
            have s1 := fun dd os => cell_regrown f1 dd os
            cases o
            all_goals
              go_wp2_with fail
              refine wp_region_quiet_below (by kernel_rfl) (by kernel_rfl) ?_
              repeat (go_big_quiet_step ((first | (go_at_call 54; exact Calls.regrown_of (refMay_is _ _ _ HM.out _)) | (go_at_call 110; exact Calls.regrown_of (refBefore_is _ _ _ _ _ HO.out _)))))
              refine wpQuiet_nil ?_
              rintro _ ⟨⟨dd, os⟩, rfl⟩
              have hb1 := below_regrown wr dd os
              generalize Sort.grow (redrawn wr dd) os = w2 at hb1
              have B2 := hide (bthen HBR.out hb1)
              clear hb1 r0 r1 s0 s1 f0 f1 e0 e1
              go_wp2_with fail
            · go_ret
              exact ⟨ret_bool ((Co.set_bad l (m + 1) hkl HOK.out).symm.trans HR.out), B2.out⟩
            · refine ⟨⟨m + 1 + 1, by go_num, by omega, by omega, fun j hj => ?_, B2.out⟩, by simp [intOf] <;> omega⟩
              rcases Nat.lt_succ_iff_lt_or_eq.1 hj with h1 | rfl
              · exact HALL.out j h1
              · exact HOK.out
    · have hkl' : ¬ (k : Int) < (l.length : Int) := by omega
      go_wp2_with fail
      go_ret
      exact ⟨ret_bool ((Co.set_ok l (by omega) fun j hj => HALL.out j (by omega)).symm.trans HR.out), HBR.out⟩

/-- Is a community in a list? -/
def Co.inL (l : List Co.C) (c : Co.C) : Bool := l.any fun y => y.1 == c.1 && y.2 == c.2
end Go.Proofs.YtngfoijmknclhaaGreatDoor.Cm
