import Derived.Test.YtbceoinhmpnjaaaGreatDoorH1
import Derived.Test.YtbceoinhmpnjaaaGreatDoorH8
/- The contract of the document's Compare of paths. -/
namespace Go.Proofs.YtbceoinhmpnjaaaGreatDoor
open Go.RowKit Go.Sort
set_option maxHeartbeats 4000000 in
theorem refCompare_same (ao bo : Option Addr) (ca cb : Nat) (a b : List Int) (w : World) (hA : Is.slot w ao a) (hB : Is.slot w bo b) (hl : a.length = b.length) (h300 : a.length ≤ 300) :
    Calls Tryz.prog 22 #[.slice ao a.length ca, .slice bo b.length cb] w fun e w' => e = .returned (.int .i64 (Is.lex a b)) ∧ Below w.heap.size w w' := by
  have HA := hide hA
  have HB := hide hB
  have HL := hide hl
  clear hA hB
  have hle : (a.length : Int) = (b.length : Int) := by omega
  have h300b : b.length ≤ 300 := by omega
  clear hl
  go_enter Tryz.func22, Tryz.ntmps22
  go_wp2_with fail
  go_loopw [5] (fun v wr => ∃ k : Nat, v = .int .i64 k ∧ k ≤ a.length ∧ Hid (Is.lex a b = Is.lex (a.drop k) (b.drop k)) ∧ Below w.heap.size w wr) (fun v _ => a.length - (intOf v).toNat)
  case atStart => exact ⟨0, rfl, Nat.zero_le _, hide rfl, brefl w⟩
  case round =>
    obtain ⟨k, rfl, hk, HX, hbr⟩ := hrel
    have HBR := hide hbr
    clear hbr
    by_cases hka : k < a.length
    · have hkb : k < b.length := by have := HL.out; omega
      have hkA : (k : Int) < (a.length : Int) := by omega
      have hkB : (k : Int) < (b.length : Int) := by omega
      obtain ⟨b1, o1, rfl, hr1⟩ := Is.slot_at HA.out hka
      obtain ⟨b2, o2, rfl, hr2⟩ := Is.slot_at HB.out hkb
      have e0 := Is.reads_below hr1 HBR.out k hka
      have f0 := Is.reads_below hr2 HBR.out k hkb
      clear hr1 hr2
      have HS := hide (Is.lex_step a b k hka hkb)
      generalize a[k] = y at *
      generalize b[k] = z at *
      have r0 := fun dd os => cell_regrown e0 dd os
      have s0 := fun dd os => cell_regrown f0 dd os
      by_cases h1 : y < z
      · have HN := hide (HX.out.trans (HS.out.trans (if_pos h1)))
        clear HS
        go_wp2_with fail
        refine wp_region_quiet_below (by kernel_rfl) (by kernel_rfl) ?_
        repeat (go_big_quiet_step (fail))
        refine wpQuiet_nil ?_
        rintro _ ⟨⟨dd, os⟩, rfl⟩
        have hb1 := below_regrown wr dd os
        generalize Sort.grow (redrawn wr dd) os = w1 at hb1
        have B1 := hide (bthen HBR.out hb1)
        clear hb1 r0 s0 e0 f0
        go_wp2_with fail
        go_ret
        exact ⟨ret_int HN.out.symm, B1.out⟩
      · have HS1 := hide (HX.out.trans (HS.out.trans (if_neg h1)))
        clear HS
        go_wp2_with fail
        refine wp_region_quiet_below (by kernel_rfl) (by kernel_rfl) ?_
        repeat (go_big_quiet_step (fail))
        refine wpQuiet_nil ?_
        rintro _ ⟨⟨dd, os⟩, rfl⟩
        have hb1 := below_regrown wr dd os
        have E0 := r0 dd os
        have F0 := s0 dd os
        generalize Sort.grow (redrawn wr dd) os = w1 at hb1 E0 F0
        have B1 := hide (bthen HBR.out hb1)
        clear hb1 r0 s0 e0 f0
        have r0 := fun dd os => cell_regrown E0 dd os
        have s0 := fun dd os => cell_regrown F0 dd os
        by_cases h2 : z < y
        · have HN := hide (HS1.out.trans (if_pos h2))
          clear HS1
          go_wp2_with fail
          refine wp_region_quiet_below (by kernel_rfl) (by kernel_rfl) ?_
          repeat (go_big_quiet_step (fail))
          refine wpQuiet_nil ?_
          rintro _ ⟨⟨dd2, os2⟩, rfl⟩
          have hb2 := below_regrown w1 dd2 os2
          generalize Sort.grow (redrawn w1 dd2) os2 = w2 at hb2
          have B2 := hide (bthen B1.out hb2)
          clear hb2 r0 s0 E0 F0
          go_wp2_with fail
          go_ret
          exact ⟨ret_int HN.out.symm, B2.out⟩
        · have HN := hide (HS1.out.trans (if_neg h2))
          clear HS1
          go_wp2_with fail
          refine wp_region_quiet_below (by kernel_rfl) (by kernel_rfl) ?_
          repeat (go_big_quiet_step (fail))
          refine wpQuiet_nil ?_
          rintro _ ⟨⟨dd2, os2⟩, rfl⟩
          have hb2 := below_regrown w1 dd2 os2
          generalize Sort.grow (redrawn w1 dd2) os2 = w2 at hb2
          have B2 := hide (bthen B1.out hb2)
          clear hb2 r0 s0 E0 F0
          go_wp2_with fail
          exact ⟨⟨k + 1, by go_num, by omega, hide HN.out, B2.out⟩, by simp [intOf] <;> omega⟩
    · have HN := hide (HX.out.trans (Is.lex_end a b k (by omega)))
      obtain rfl : k = a.length := by omega
      go_wp2_with fail
      go_ret
      exact ⟨ret_int HN.out.symm, HBR.out⟩

theorem refCompare_is (ao bo : Option Addr) (ca cb : Nat) (a b : List Int) (x : Int) (hx : Is.compare a b = x) (w : World) (hA : Is.slot w ao a) (hB : Is.slot w bo b) (ha : a.length ≤ 300) :
    Calls Tryz.prog 22 #[.slice ao a.length ca, .slice bo b.length cb] w fun e w' => e = .returned (.int .i64 x) ∧ Below w.heap.size w w' := by
  subst hx
  unfold Is.compare
  by_cases h1 : a.length < b.length
  · rw [if_pos h1]
    have h1' : (a.length : Int) < (b.length : Int) := by omega
    have h2' : ¬ (a.length : Int) = (b.length : Int) := by omega
    go_enter Tryz.func22, Tryz.ntmps22
    go_wp2_with fail
    go_ret
    exact ⟨rfl, brefl w⟩
  · rw [if_neg h1]
    by_cases h2 : b.length < a.length
    · rw [if_pos h2]
      have h1' : ¬ (a.length : Int) < (b.length : Int) := by omega
      have h2' : ¬ (a.length : Int) = (b.length : Int) := by omega
      go_enter Tryz.func22, Tryz.ntmps22
      go_wp2_with fail
      go_ret
      exact ⟨rfl, brefl w⟩
    · rw [if_neg h2]
      exact refCompare_same ao bo ca cb a b w hA hB (by omega) ha

end Go.Proofs.YtbceoinhmpnjaaaGreatDoor
