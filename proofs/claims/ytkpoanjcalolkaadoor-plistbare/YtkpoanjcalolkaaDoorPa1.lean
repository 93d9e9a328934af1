import Derived.Test.YtkpoanjcalolkaaDoorPl5
import Derived.Test.YtkpoanjcalolkaaDoorPl8
/- The law PlistLets walked. -/
namespace Go.Proofs.YtkpoanjcalolkaaDoor
open Go.RowKit

theorem lets_is (ao : Option Addr) (cap : Nat) (l : List Ad.R) (c d i : Int) (r : Bool) (h : Ad.lets l c d = (r, i)) (w : World) (hR : Ad.slotR w ao l) (hf : Ad.fitsR l) (hc : 0 ≤ c) (hc2 : c ≤ 4294967295) :
    Calls Tryd.prog 9 #[.slice ao l.length cap, .agg #[.int .u32 c, .int .i64 d]] w fun e w' => e = .returned (.tuple #[.bool r, .int .i64 i]) ∧ Below w.heap.size w w' := by
  have := lets_any ao cap l c d w hR hf hc hc2
  rw [h] at this
  exact this
theorem refLets_is (ao : Option Addr) (cap : Nat) (l : List Ad.R) (c d i : Int) (r : Bool) (h : Ad.lets l c d = (r, i)) (w : World) (hR : Ad.slotR w ao l) (hf : Ad.fitsR l) (hc : 0 ≤ c) (hc2 : c ≤ 4294967295) :
    Calls Tryd.prog 10 #[.slice ao l.length cap, .agg #[.int .u32 c, .int .i64 d]] w fun e w' => e = .returned (.tuple #[.bool r, .int .i64 i]) ∧ Below w.heap.size w w' := by
  have := refLets_any ao cap l c d w hR hf hc hc2
  rw [h] at this
  exact this

set_option maxHeartbeats 2000000 in
theorem law_lets (ao : Option Addr) (cap : Nat) (l : List Ad.R) (c d : Int) (w : World) (hR : Ad.slotR w ao l) (hf : Ad.fitsR l) (hc : 0 ≤ c) (hc2 : c ≤ 4294967295) :
    Calls Tryd.prog 3 #[.slice ao l.length cap, .agg #[.int .u32 c, .int .i64 d]] w fun e w' => e = .returned (.bool true) ∧ Below w.heap.size w w' := by
  obtain ⟨⟨r, i⟩, hl⟩ : ∃ x, Ad.lets l c d = x := ⟨_, rfl⟩
  obtain ⟨x, hx⟩ : ∃ x, Ad.rwhy l = x := ⟨_, rfl⟩
  have HL := hide hl
  have HX := hide hx
  have HR := hide (Ad.slotR_below hR (balloc (brefl w) (.cells #[.int .u32 c, .int .i64 d] 25)))
  have HF := hide hf
  clear hl hx hR hf
  have T0 := hide (two_of (W := w.alloc (.cells #[.int .u32 c, .int .i64 d] 25)) (n := w.heap.size) (a := c) (b := d) (by simp) (by simp))
  go_enter Tryd.func3, Tryd.ntmps3
  go_wp2_with fail
  refine (lets_is ao cap l c d i r HL.out _ HR.out HF.out hc hc2).mono ?_
  rintro e w1 ⟨rfl, hb1⟩
  have HR1 := hide (Ad.slotR_below HR.out hb1)
  have T1 := hide (two_below hb1 T0.out.1 T0.out.2.1)
  have B1 := hide (bthen (balloc (brefl w) _) hb1)
  clear hb1 HR T0
  obtain ⟨p0, p1, p2, p3⟩ := T1.out
  go_wp2_with fail
  refine (refLets_is ao cap l c d i r HL.out _ HR1.out HF.out hc hc2).mono ?_
  rintro e w2 ⟨rfl, hb2⟩
  have HR2 := hide (Ad.slotR_below HR1.out hb2)
  have T2 := hide (two_below hb2 T1.out.1 T1.out.2.1)
  have B2 := hide (bthen B1.out hb2)
  clear hb2 HR1 T1 B1 p0 p1 p2 p3
  obtain ⟨p0, p1, p2, p3⟩ := T2.out
  go_wp2_with fail
  refine (pmay_is ao cap l x HX.out _ HR2.out HF.out).mono ?_
  rintro e w3 ⟨rfl, hb3⟩
  have HR3 := hide (Ad.slotR_below HR2.out hb3)
  have T3 := hide (two_below hb3 T2.out.1 T2.out.2.1)
  have B3 := hide (bthen B2.out hb3)
  clear hb3 HR2 T2 B2 p0 p1 p2 p3
  go_wp2_with fail
  refine (refRWhy_is ao cap l x HX.out _ HR3.out HF.out).mono ?_
  rintro e w4 ⟨rfl, hb4⟩
  have HR4 := hide (Ad.slotR_below HR3.out hb4)
  have T4 := hide (two_below hb4 T3.out.1 T3.out.2.1)
  have B4 := hide (bthen B3.out hb4)
  clear hb4 HR3 T3 B3
  go_wp2_with fail
  go_loopw [9] (fun n wr => ∃ k : Nat, k ≤ l.length ∧ k ≤ 40 ∧ n = .int .i64 k ∧ Below w.heap.size w wr ∧ Two wr w.heap.size c d ∧ Ad.slotR wr ao l) (fun n _ => 40 - (intOf n).toNat)
  case atStart => exact ⟨0, Nat.zero_le _, by decide, rfl, B4.out, T4.out, HR4.out⟩
  case round =>
    obtain ⟨k, hk, hk40, rfl, hbr, htw, hsl⟩ := hrel
    have HB := hide hbr
    have HT := hide htw
    have HSL := hide hsl
    clear hbr hsl HR4 T4 B4
    obtain ⟨t0, t1, t2, t3⟩ := htw
    by_cases hlt : k < l.length
    · by_cases h40 : k < 40
      · obtain ⟨b, off, rfl, hrd⟩ := Ad.slotR_at HSL.out hlt
        obtain ⟨e0, e1, e2, e3, e4⟩ := Ad.readsR_at hrd k hlt
        clear hrd
        have hx := hide (HF.out l[k] (List.getElem_mem hlt))
        generalize l[k] = y at *
        obtain ⟨a, bb, g, t, p⟩ := y
        have hx0 : 0 ≤ a := hx.out.1
        have hx1 : a ≤ 4294967295 := hx.out.2
        have r0 := fun dd os => cell_regrown e0 dd os
        have r1 := fun dd os => cell_regrown e1 dd os
        have r2 := fun dd os => cell_regrown e2 dd os
        have r3 := fun dd os => cell_regrown e3 dd os
        have r4 := fun dd os => cell_regrown e4 dd os
        have s0 := fun dd os => cell_regrown t0 dd os
        have s1 := fun dd os => cell_regrown t1 dd os
        obtain ⟨q, hm⟩ : ∃ q, Ad.met (a, bb, g, t, p) c d = q := ⟨_, rfl⟩
        have HM := hide hm
        clear hm
        go_wp2_with fail
        refine wp_region_quiet_below (by kernel_rfl) (by kernel_rfl) ?_
        repeat (go_big_quiet_step (first | (go_at_call 13; exact Calls.regrown_of (met_is _ _ _ _ _ _ _ _ HM.out _ hx0 hx1 hc hc2)) | (go_at_call 14; exact Calls.regrown_of (refMet_is _ _ _ _ _ _ _ _ HM.out _ hx0 hx1 hc hc2))))
        refine wpQuiet_nil ?_
        rintro _ ⟨⟨dd, os⟩, rfl⟩
        have hb5 := below_regrown wr dd os
        generalize Sort.grow (redrawn wr dd) os = w5 at hb5
        have HB5 := hide (bthen HB.out hb5)
        have HT5 := hide (two_below hb5 t0 t1)
        have HS5 := hide (Ad.slotR_below HSL.out hb5)
        go_wp2_with fail
        exact ⟨⟨k + 1, by omega, by omega, by go_num, HB5.out, HT5.out, HS5.out⟩, by simp [intOf]; omega⟩
      · have hk' : k = 40 := by omega
        subst hk'
        go_wp2_with fail
        refine (lives_any _).mono ?_
        rintro e w6 ⟨rfl, hb6⟩
        go_wp2_with fail
        go_ret
        exact ⟨rfl, bthen HB.out hb6⟩
    · go_wp2_with fail
      refine (lives_any _).mono ?_
      rintro e w6 ⟨rfl, hb6⟩
      go_wp2_with fail
      go_ret
      exact ⟨rfl, bthen HB.out hb6⟩
end Go.Proofs.YtkpoanjcalolkaaDoor
