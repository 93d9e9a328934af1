/- The law PlistBare walked. -/
import Derived.Test.YtkpoanjcalolkaaDoorBl1
namespace Go.Proofs.YtkpoanjcalolkaaDoor
open Go.RowKit

set_option maxHeartbeats 4000000 in
theorem bare_law_bad (ao : Option Addr) (ca : Nat) (l : List Ad.R) (c d x : Int) (w : World) (hR : Ad.slotR w ao l) (hf : Ad.fitsR l) (hx : Hid (Ad.rwhy l = x)) (hx0 : (x != 0) = true) :
    Calls Tryd.prog 7 #[.slice ao l.length ca, .agg #[.int .u32 c, .int .i64 d]] w fun e w' => e = .returned (.bool true) ∧ Below w.heap.size w w' := by
  have HR := hide (Ad.slotR_below hR (balloc (brefl w) (.cells #[.int .u32 c, .int .i64 d] 25)))
  have HF := hide hf
  clear hR hf
  have B0 := hide (balloc (brefl w) (.cells #[.int .u32 c, .int .i64 d] 25))
  go_enter Tryd.func7, Tryd.ntmps7
  go_wp2_with fail
  generalize w.alloc (.cells #[.int .u32 c, .int .i64 d] 25) = W0 at HR B0 ⊢
  refine (bare_bad ao ca l x _ HR.out HF.out hx hx0).mono ?_
  rintro e w1 ⟨rfl, hb1⟩
  have HR1 := hide (Ad.slotR_below HR.out hb1)
  have B1 := hide (bthen B0.out hb1)
  clear hb1 HR B0
  go_wp2_with fail
  refine (pmay_is ao ca l x hx.out _ HR1.out HF.out).mono ?_
  rintro e w2 ⟨rfl, hb2⟩
  have HR2 := hide (Ad.slotR_below HR1.out hb2)
  have B2 := hide (bthen B1.out hb2)
  clear hb2 HR1 B1
  go_wp2_with fail
  refine (pmay_is ao ca l x hx.out _ HR2.out HF.out).mono ?_
  rintro e w3 ⟨rfl, hb3⟩
  have B3 := hide (bthen B2.out hb3)
  clear hb3 HR2 B2
  go_wp2_with fail
  refine (lives_any _).mono ?_
  rintro e w7 ⟨rfl, hb7⟩
  go_wp2_with fail
  go_ret
  exact ⟨rfl, bthen B3.out hb7⟩

set_option maxHeartbeats 8000000 in
set_option maxRecDepth 100000 in
theorem bare_law_good (ao : Option Addr) (ca : Nat) (l : List Ad.R) (c d : Int) (w : World) (hR : Ad.slotR w ao l) (hf : Ad.fitsR l) (hx : Hid (Ad.rwhy l = 0)) (hc : 0 ≤ c) (hc2 : c ≤ 4294967295) :
    Calls Tryd.prog 7 #[.slice ao l.length ca, .agg #[.int .u32 c, .int .i64 d]] w fun e w' => e = .returned (.bool true) ∧ Below w.heap.size w w' := by
  have HR := hide (Ad.slotR_below hR (balloc (brefl w) (.cells #[.int .u32 c, .int .i64 d] 25)))
  have HF := hide hf
  clear hR hf
  have hlen := Ad.rwhy_len l hx.out
  have B0 := hide (balloc (brefl w) (.cells #[.int .u32 c, .int .i64 d] 25))
  have T0 := hide (two_of (W := w.alloc (.cells #[.int .u32 c, .int .i64 d] 25)) (n := w.heap.size) (a := c) (b := d) (by simp) (by simp))
  have LA := hide (Ad.lets_good l c d hx.out)
  go_enter Tryd.func7, Tryd.ntmps7
  go_wp2_with fail
  generalize w.alloc (.cells #[.int .u32 c, .int .i64 d] 25) = W0 at HR B0 T0 ⊢
  refine (bare_good ao ca l _ HR.out HF.out hx).mono ?_
  rintro e w1 ⟨b, bo, bc, rfl, hba, hbo, hb1⟩
  have HBA := hide hba
  have SB1 := hide hbo
  have HR1 := hide (Ad.slotR_below HR.out hb1)
  have T1 := hide (two_below hb1 T0.out.1 T0.out.2.1)
  have B1 := hide (bthen B0.out hb1)
  have FB := hide (Ad.bare_fit_all hba hx.out HF.out)
  have LB := hide (Ad.lets_good b c d FB.out.1)
  rw [Ad.bare_ps_all hba c d hc hc2] at LB
  have hlb := Ad.rwhy_len b FB.out.1
  clear hb1 HR B0 T0 hba hbo
  go_wp2_with fail
  refine (pmay_is ao ca l 0 hx.out _ HR1.out HF.out).mono ?_
  rintro e w2 ⟨rfl, hb2⟩
  have HR2 := hide (Ad.slotR_below HR1.out hb2)
  have SB2 := hide (Ad.slotR_below SB1.out hb2)
  have T2 := hide (two_below hb2 T1.out.1 T1.out.2.1)
  have B2 := hide (bthen B1.out hb2)
  clear hb2 HR1 SB1 T1 B1
  generalize Ad.ps l c d = ps at *
  generalize Ad.first l c d = i1 at *
  generalize Ad.first b c d = i2 at *
  obtain ⟨t0, t1, t2, t3⟩ := T2.out
  go_wp2_with fail
  refine (lets_is ao ca l c d _ _ LA.out _ HR2.out HF.out hc hc2).mono ?_
  rintro e w3 ⟨rfl, hb3⟩
  have HR3 := hide (Ad.slotR_below HR2.out hb3)
  have SB3 := hide (Ad.slotR_below SB2.out hb3)
  have T3 := hide (two_below hb3 T2.out.1 T2.out.2.1)
  have B3 := hide (bthen B2.out hb3)
  clear hb3 HR2 SB2 T2 B2 t0 t1 t2 t3
  obtain ⟨t0, t1, t2, t3⟩ := T3.out
  go_wp2_with fail
  refine (lets_is bo bc b c d _ _ LB.out _ SB3.out FB.out.2 hc hc2).mono ?_
  rintro e w4 ⟨rfl, hb4⟩
  have HR4 := hide (Ad.slotR_below HR3.out hb4)
  have SB4 := hide (Ad.slotR_below SB3.out hb4)
  have B4 := hide (bthen B3.out hb4)
  clear hb4 HR3 SB3 T3 B3 t0 t1 t2 t3
  have HS0 := hide (Ad.bare_sub_all HBA.out)
  go_wp2_with fail
  go_loopw [11, 12] (fun v11 v12 wr => ∃ (k i : Nat), v11 = .int .i64 k ∧ v12 = .int .i64 i ∧ k ≤ l.length ∧ i ≤ b.length ∧ (b.drop i).Sublist (l.drop k) ∧ Below w4.heap.size w4 wr) (fun _ v12 _ => b.length - (intOf v12).toNat)
  case atStart => exact ⟨0, 0, rfl, rfl, Nat.zero_le _, Nat.zero_le _, HS0.out, brefl w4⟩
  case round =>
    obtain ⟨k, i, rfl, rfl, hk, hi, hsub, hbr⟩ := hrel
    have HS := hide hsub
    have HB := hide hbr
    clear hsub hbr HS0
    by_cases hib : i < b.length
    · have hib' : (i : Int) < (b.length : Int) := by omega
      go_wp2_with fail
      go_loopw [11] (fun v11 wr => ∃ (k : Nat), v11 = .int .i64 k ∧ k ≤ l.length ∧ (b.drop i).Sublist (l.drop k) ∧ Below w4.heap.size w4 wr) (fun v11 _ => l.length - (intOf v11).toNat)
      case atStart => exact ⟨k, rfl, hk, HS.out, HB.out⟩
      case round =>
        clear HS HB
        obtain ⟨k, rfl, hk, hsub, hbr⟩ := hrel
        obtain ⟨hkl, hse, hsn⟩ := Ad.sub_step hib hsub
        have HSE := hide hse
        have HSN := hide hsn
        have HB := hide hbr
        clear hsub hbr hse hsn
        have hkl' : (k : Int) < (l.length : Int) := by omega
        have CI := hide fun W (hW : Below w4.heap.size w4 W) => pidle_in bo bc b i W (Ad.slotR_below SB4.out hW) FB.out.2 FB.out.1 (by omega) (by omega)
        have HID := hide (Ad.bare_idle HBA.out i hib)
        obtain ⟨b1, off, rfl, hrd⟩ := Ad.slotR_at HR4.out hkl
        obtain ⟨b2, off2, rfl, hrd2⟩ := Ad.slotR_at SB4.out hib
        obtain ⟨e0, e1, e2, e3, e4⟩ := Ad.readsR_at (Ad.readsR_below hrd HB.out) k hkl
        obtain ⟨f0, f1, f2, f3, f4⟩ := Ad.readsR_at (Ad.readsR_below hrd2 HB.out) i hib
        clear hrd hrd2
        generalize l[k] = y at *
        generalize b[i] = z at *
        have s0 := fun dd os => cell_regrown f0 dd os
        have s1 := fun dd os => cell_regrown f1 dd os
        have s2 := fun dd os => cell_regrown f2 dd os
        have s3 := fun dd os => cell_regrown f3 dd os
        have s4 := fun dd os => cell_regrown f4 dd os
        have r0 := fun dd os => cell_regrown e0 dd os
        have r1 := fun dd os => cell_regrown e1 dd os
        have r2 := fun dd os => cell_regrown e2 dd os
        have r3 := fun dd os => cell_regrown e3 dd os
        have r4 := fun dd os => cell_regrown e4 dd os
        by_cases hyz : y = z
        · have HSX := hide (HSE.out hyz)
          subst hyz
          clear HSE HSN
          obtain ⟨y0, y1, y2, y3, y4⟩ := y
          go_wp2_with fail
          refine wp_region_quiet_below (by kernel_rfl) (by kernel_rfl) ?_
          repeat (go_big_quiet_step (fail))
          refine wpQuiet_nil ?_
          rintro _ ⟨⟨dd, os⟩, rfl⟩
          have hb1 := below_regrown wr dd os
          generalize Sort.grow (redrawn wr dd) os = w5 at hb1
          have B5 := hide (bthen HB.out hb1)
          clear hb1 r0 r1 r2 r3 r4 s0 s1 s2 s3 s4 e0 e1 e2 e3 e4 f0 f1 f2 f3 f4
          go_wp2_with fail
          refine (CI.out _ B5.out).mono ?_
          rintro e w6 ⟨r, rfl, hid, hb6⟩
          obtain rfl : false = r := Ad.idle_one _ _ _ _ HID.out hid
          have B6 := hide (bthen B5.out hb6)
          clear hb6 hid
          go_wp2_with fail
          exact ⟨⟨k + 1, i + 1, by go_num, by go_num, by omega, by omega, HSX.out, B6.out⟩, by simp [intOf] <;> omega⟩
        · have HSX := hide (HSN.out hyz)
          clear HSE HSN
          obtain ⟨y0, y1, y2, y3, y4⟩ := y
          obtain ⟨z0, z1, z2, z3, z4⟩ := z
          have hne := fun W => neR y0 y1 y2 y3 z0 z1 z2 z3 y4 z4 W hyz
          have hgd := guardR
          clear hyz
          go_wp2_with fail
          refine wp_region_quiet_below (by kernel_rfl) (by kernel_rfl) ?_
          repeat (go_big_quiet_step (fail))
          refine wpQuiet_nil ?_
          rintro _ ⟨⟨dd, os⟩, rfl⟩
          have hb1 := below_regrown wr dd os
          generalize Sort.grow (redrawn wr dd) os = w5 at hb1
          have B5 := hide (bthen HB.out hb1)
          clear hb1 r0 r1 r2 r3 r4 s0 s1 s2 s3 s4 e0 e1 e2 e3 e4 f0 f1 f2 f3 f4
          go_wp2_with fail
          exact ⟨⟨k + 1, by go_num, by omega, HSX.out, B5.out⟩, by simp [intOf] <;> omega⟩
    · have hib' : ¬ (i : Int) < (b.length : Int) := by omega
      have CB := hide fun W (hW : Below w4.heap.size w4 W) => bare_good bo bc b W (Ad.slotR_below SB4.out hW) FB.out.2 FB.out.1
      go_wp2_with fail
      refine (CB.out _ HB.out).mono ?_
      rintro e w5 ⟨c2, co, cc, rfl, hba2, hco, hb5⟩
      obtain rfl := Ad.bare_again HBA.out hba2
      have SC5 := hide hco
      have B5 := hide (bthen HB.out hb5)
      clear hba2 hco hb5
      have CS := hide (refSame_any co bo cc bc c2 w5 SC5.out (Ad.slotR_below SB4.out B5.out) (by omega))
      go_wp2_with fail
      refine CS.out.mono ?_
      rintro e w6 ⟨rfl, hb6⟩
      have B6 := hide (bthen B5.out hb6)
      clear hb6
      go_wp2_with fail
      refine (lives_any _).mono ?_
      rintro e w7 ⟨rfl, hb7⟩
      go_wp2_with fail
      go_ret
      exact ⟨rfl, bthen B4.out (bthen B6.out hb7)⟩

theorem bare_law_any (ao : Option Addr) (ca : Nat) (l : List Ad.R) (c d : Int) (w : World) (hR : Ad.slotR w ao l) (hf : Ad.fitsR l) (hc : 0 ≤ c) (hc2 : c ≤ 4294967295) :
    Calls Tryd.prog 7 #[.slice ao l.length ca, .agg #[.int .u32 c, .int .i64 d]] w fun e w' => e = .returned (.bool true) ∧ Below w.heap.size w w' := by
  by_cases hx : Ad.rwhy l = 0
  · exact bare_law_good ao ca l c d w hR hf hx hc hc2
  · exact bare_law_bad ao ca l c d _ w hR hf rfl (by simpa using hx)
end Go.Proofs.YtkpoanjcalolkaaDoor
