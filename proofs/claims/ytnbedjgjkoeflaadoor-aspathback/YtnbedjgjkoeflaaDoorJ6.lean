/- The law AspathBack, over the contracts of the program's functions. -/
import Derived.Test.YtnbedjgjkoeflaaDoorJ3
import Derived.Test.YtnbedjgjkoeflaaDoorJ5
namespace Go.Proofs.YtnbedjgjkoeflaaDoor
open Go.RowKit Go.Sort

set_option maxHeartbeats 4000000 in
theorem back_long {T : World → Prop} (K : Kit T) (ao bo : Option Addr) (ca cb na nb : Nat) (n t : Int) (w : World) (hT : T w) (h : 300 < na ∨ (na ≤ 300 ∧ 300 < nb)) :
    Calls Tryd.prog 7 #[.slice ao na ca, .slice bo nb cb, .agg #[.int .i64 n, .int .i64 t]] w fun e w' => e = .returned (.bool true) ∧ Below w.heap.size w w' := by
  have B0 := hide (balloc (brefl w) (.cells #[.int .i64 n, .int .i64 t] 42))
  have T0 := hide (two_new w n t 42)
  have CL := hide (fun W (hW : Below w.heap.size w W) => lives_is K W (K.on hT hW))
  clear hT
  rcases h with h | ⟨h1, h⟩
  · have F1 := hide (fun W => few_is ao na ca false (by simp; omega) W)
    clear h
    go_enter Tryd.func7, Tryd.ntmps7
    go_wp2_with fail
    generalize w.alloc (.cells #[.int .i64 n, .int .i64 t] 42) = W0 at *
    generalize hR : w.heap.size = R at T0 ⊢
    clear hR
    obtain ⟨p0, p1, p2, p3⟩ := T0.out
    have r0 := fun dd os => cell_regrown p0 dd os
    have r1 := fun dd os => cell_regrown p1 dd os
    refine wp_region_quiet_below (by kernel_rfl) (by kernel_rfl) ?_
    repeat (go_big_quiet_step (fail))
    refine wpQuiet_nil ?_
    rintro _ ⟨⟨dd, os⟩, rfl⟩
    have hb1 := below_regrown W0 dd os
    generalize Sort.grow (redrawn W0 dd) os = w1 at hb1
    have B1 := hide (bthen B0.out hb1)
    clear hb1 r0 r1 p0 p1 p2 p3 T0 B0
    go_wp2_with fail
    refine (F1.out _).mono ?_
    rintro e w1 ⟨rfl, rfl⟩
    go_wp2_with fail
    refine (CL.out _ B1.out).mono ?_
    rintro e w2 ⟨rfl, hb2⟩
    go_wp2_with fail
    go_ret
    exact ⟨rfl, bthen B1.out hb2⟩
  · have F1 := hide (fun W => few_is ao na ca true (by simp; omega) W)
    have h' : (300 : Int) < (nb : Int) := by omega
    clear h h1
    go_enter Tryd.func7, Tryd.ntmps7
    go_wp2_with fail
    generalize w.alloc (.cells #[.int .i64 n, .int .i64 t] 42) = W0 at *
    generalize hR : w.heap.size = R at T0 ⊢
    clear hR
    obtain ⟨p0, p1, p2, p3⟩ := T0.out
    have r0 := fun dd os => cell_regrown p0 dd os
    have r1 := fun dd os => cell_regrown p1 dd os
    refine wp_region_quiet_below (by kernel_rfl) (by kernel_rfl) ?_
    repeat (go_big_quiet_step (fail))
    refine wpQuiet_nil ?_
    rintro _ ⟨⟨dd, os⟩, rfl⟩
    have hb1 := below_regrown W0 dd os
    generalize Sort.grow (redrawn W0 dd) os = w1 at hb1
    have B1 := hide (bthen B0.out hb1)
    clear hb1 r0 r1 p0 p1 p2 p3 T0 B0
    go_wp2_with fail
    refine (F1.out _).mono ?_
    rintro e w1 ⟨rfl, rfl⟩
    go_wp2_with fail
    refine (CL.out _ B1.out).mono ?_
    rintro e w2 ⟨rfl, hb2⟩
    go_wp2_with fail
    go_ret
    exact ⟨rfl, bthen B1.out hb2⟩

set_option maxHeartbeats 16000000 in
theorem back_short {T : World → Prop} (K : Kit T) (ao bo : Option Addr) (ca cb : Nat) (l : List Int) (r : List Ru.C) (n t : Int) (x : List Ru.C) (m : Bool) (y1 y2 z : List Int) (q1 q2 g : Int) (w : World) (hT : T w) (hA : Is.slot w ao l) (hB : Ru.slot w bo r) (cA : came ao ca) (hl : l.length ≤ 300) (hr : r.length ≤ 300)
    (hx : Ru.runs l = x) (hm : Is.may l = m) (h1 : Is.of x = (y1, q1)) (h2 : Is.of r = (y2, q2)) (hz : Is.prepend l n t = (z, g)) :
    Calls Tryd.prog 7 #[.slice ao l.length ca, .slice bo r.length cb, .agg #[.int .i64 n, .int .i64 t]] w fun e w' => e = .returned (.bool true) ∧ Below w.heap.size w w' := by
  have hxl : x.length ≤ 300 := by rw [← hx]; exact Nat.le_trans (Ru.runs_len l) hl
  have HQ1 : Hid (m = true → q1 = 0 ∧ y1 = l) := by
    show _ → _
    intro e
    have := Is.of_runs l (hm.trans e)
    rw [hx, h1] at this
    simp only [Prod.mk.injEq] at this
    exact ⟨this.2, this.1⟩
  have hy1 := Is.of_len x y1 q1 h1
  have hy2 := Is.of_len r y2 q2 h2
  have HQ2 : Hid (q2 = 0 → Ru.runs y2 = r ∧ Is.may y2 = true) := by
    show _ → _
    rintro rfl
    exact Is.of_ok r y2 h2
  have HG0 : Hid (g = 0 → (z.length : Int) = (l.length : Int) + t ∧ z.length ≤ 16 ∧ Is.tail z l = true ∧ (t = 0 ∨ (Is.first z = n ∧ z.contains n = true)) ∧ Is.may z = true) := by
    show _ → _
    rintro rfl
    exact Is.prepend_ok l n t z hz
  have HG1 := hide (Is.prepend_bad l n t z g hz)
  have B0 := hide (balloc (brefl w) (.cells #[.int .i64 n, .int .i64 t] 42))
  have T0 := hide (two_new w n t 42)
  have F1 := hide (fun W => few_is ao l.length ca true (by simpa using hl) W)
  have CR := hide (fun W (hW : Below w.heap.size w W) => K.runs ao ca l x hx W (K.on hT hW) (Is.slot_below hA hW) (by omega))
  have CO1 := hide (fun o c W (hW : Below w.heap.size w W) (hs : Ru.slot W o x) => K.of o c x y1 q1 h1 W (K.on hT hW) hs (by omega))
  have CM := hide (fun W (hW : Below w.heap.size w W) => K.may ao ca l m hm W (K.on hT hW) (Is.slot_below hA hW) (by omega))
  have CS := hide (fun o c W (hW : Below w.heap.size w W) (hs : Is.slot W o l) => same_is o ao c ca l l true (by simp) W hs (Is.slot_below hA hW) (by omega))
  have CO2 := hide (fun W (hW : Below w.heap.size w W) => K.of bo cb r y2 q2 h2 W (K.on hT hW) (Ru.slot_below hB hW) (by omega))
  have CR2 := hide (fun o c (h : Ru.runs y2 = r) W (hW : Below w.heap.size w W) (hs : Is.slot W o y2) => K.runs o c y2 r h W (K.on hT hW) hs (by omega))
  have CM2 := hide (fun o c (h : Is.may y2 = true) W (hW : Below w.heap.size w W) (hs : Is.slot W o y2) => K.may o c y2 true h W (K.on hT hW) hs (by omega))
  have CX := hide (fun o c W (hW : Below w.heap.size w W) (hs : Ru.slot W o r) => sameRuns_is o bo c cb r r true (by simp) W hs (Ru.slot_below hB hW) (by omega))
  have CP := hide (fun W (hW : Below w.heap.size w W) => K.prepend ao ca l n t z g hz W (K.on hT hW) (Is.slot_below hA hW) cA (by omega))
  have CT := hide (fun o c (h : Is.tail z l = true) (h16 : z.length ≤ 16) (hc : came o c) W (hW : Below w.heap.size w W) (hs : Is.slot W o z) => K.tail o ao c ca z l true h W (K.on hT hW) hs (Is.slot_below hA hW) hc (by omega) (by omega))
  have CF := hide (fun o c (h : Is.first z = n) (h16 : z.length ≤ 16) W (hW : Below w.heap.size w W) (hs : Is.slot W o z) => K.first o c z n h W (K.on hT hW) hs (by omega))
  have CH := hide (fun o c (h : z.contains n = true) (h16 : z.length ≤ 16) W (hW : Below w.heap.size w W) (hs : Is.slot W o z) => K.has o c z n true h W (K.on hT hW) hs (by omega))
  have CMZ := hide (fun o c (h : Is.may z = true) (h16 : z.length ≤ 16) W (hW : Below w.heap.size w W) (hs : Is.slot W o z) => K.may o c z true h W (K.on hT hW) hs (by omega))
  have CL := hide (fun W (hW : Below w.heap.size w W) => lives_is K W (K.on hT hW))
  have hr' : ¬ (300 : Int) < (r.length : Int) := by omega
  clear hT hA hB hx hm h1 h2 hz cA
  go_enter Tryd.func7, Tryd.ntmps7
  go_wp2_with fail
  generalize w.alloc (.cells #[.int .i64 n, .int .i64 t] 42) = W0 at *
  generalize hR : w.heap.size = R at T0 ⊢
  clear hR
  obtain ⟨p0, p1, p2, p3⟩ := T0.out
  have r0 := fun dd os => cell_regrown p0 dd os
  have r1 := fun dd os => cell_regrown p1 dd os
  refine wp_region_quiet_below (by kernel_rfl) (by kernel_rfl) ?_
  repeat (go_big_quiet_step (fail))
  refine wpQuiet_nil ?_
  rintro _ ⟨⟨dd, os⟩, rfl⟩
  have hb1 := below_regrown W0 dd os
  generalize Sort.grow (redrawn W0 dd) os = w1 at hb1
  have B1 := hide (bthen B0.out hb1)
  clear hb1 r0 r1 p0 p1 p2 p3 T0 B0
  go_wp2_with fail
  refine (F1.out _).mono ?_
  rintro e w1 ⟨rfl, rfl⟩
  go_wp2_with fail
  refine (CR.out _ B1.out).mono ?_
  rintro e w2 ⟨o1, c1, rfl, hown, hb2⟩
  have S2 := hide (Ru.slot_own hown)
  have B2 := hide (bthen B1.out hb2)
  clear hown hb2 B1 CR
  go_wp2_with fail
  refine (CO1.out o1 c1 _ B2.out S2.out).mono ?_
  rintro e w3 ⟨o2, c2, rfl, hown, hb3⟩
  have P3 := hide (Is.slot_own hown)
  have B3 := hide (bthen B2.out hb3)
  clear hown hb3 B2 S2 CO1
  go_wp2_with fail
  refine (CM.out _ B3.out).mono ?_
  rintro e w4 ⟨rfl, hb4⟩
  have P4 := hide (Is.slot_below P3.out hb4)
  have B4 := hide (bthen B3.out hb4)
  clear hb4 B3 P3 CM
  cases m
  · have B5 := hide B4.out
    clear B4 P4 CS
    go_wp2_with fail
    refine (CO2.out _ B5.out).mono ?_
    rintro e w6 ⟨o3, c3, rfl, hown, hb6⟩
    have P6 := hide (Is.slot_own hown)
    have B6 := hide (bthen B5.out hb6)
    clear hown hb6 B5 CO2
    by_cases hq2 : q2 = 0
    · obtain ⟨hr2, hm2⟩ := HQ2.out hq2
      have CR3 := hide (CR2.out o3 c3 hr2)
      have CM3 := hide (CM2.out o3 c3 hm2)
      subst hq2
      clear hr2 hm2 HQ2
      go_wp2_with fail
      refine (CR3.out _ B6.out P6.out).mono ?_
      rintro e w7 ⟨o5, c5, rfl, hown, hb7⟩
      have S7 := hide (Ru.slot_own hown)
      have P7 := hide (Is.slot_below P6.out hb7)
      have B7 := hide (bthen B6.out hb7)
      clear hown hb7 B6 P6
      go_wp2_with fail
      refine (CX.out o5 c5 _ B7.out S7.out).mono ?_
      rintro e w8 ⟨rfl, hb8⟩
      have P8 := hide (Is.slot_below P7.out hb8)
      have B8 := hide (bthen B7.out hb8)
      clear hb8 B7 P7 S7
      go_wp2_with fail
      refine (CM3.out _ B8.out P8.out).mono ?_
      rintro e w9 ⟨rfl, hb9⟩
      have B20 := hide (bthen B8.out hb9)
      clear hb9 B8 P8
      go_wp2_with fail
      refine (CP.out _ B20.out).mono ?_
      rintro e w21 ⟨o4, c4, rfl, hown, hb21⟩
      have Z21 := hide hown.slot
      have HCZ := hide hown.2
      have B21 := hide (bthen B20.out hb21)
      clear hown hb21 B20 CP
      by_cases hg : g = 0
      · obtain ⟨hzl, h16, htl, hfh, hmz⟩ := HG0.out hg
        have CT1 := hide (CT.out o4 c4 htl h16 HCZ.out _ B21.out Z21.out)
        have CMZ1 := hide (CMZ.out o4 c4 hmz h16)
        subst hg
        have hzb : ((z.length : Int) == (l.length : Int) + t) = true := by rw [hzl]; simp
        have hz0 : (z.length : Int) = (l.length : Int) + t := hzl
        have hbl : -300 ≤ t ∧ t ≤ 16 ∧ l.length ≤ 300 ∧ 0 ≤ (l.length : Int) + t := by omega
        obtain ⟨hbl1, hbl2, hbl3, hbl4⟩ := hbl
        clear CT CMZ HG0 HG1 htl hmz HCZ hzl
        go_wp2_with fail
        refine CT1.out.mono ?_
        rintro e w22 ⟨rfl, hb22⟩
        have Z22 := hide (Is.slot_below Z21.out hb22)
        have B22 := hide (bthen B21.out hb22)
        clear hb22 B21 Z21 CT1
        rcases hfh with rfl | ⟨hf, hh⟩
        · go_wp2_with fail
          refine (CMZ1.out _ B22.out Z22.out).mono ?_
          rintro e w29 ⟨rfl, hb29⟩
          have B30 := hide (bthen B22.out hb29)
          clear hb29 B22
          go_wp2_with fail
          refine (CL.out _ B30.out).mono ?_
          rintro e w31 ⟨rfl, hb31⟩
          go_wp2_with fail
          go_ret
          exact ⟨rfl, bthen B30.out hb31⟩
        · by_cases ht0 : t = 0
          · subst ht0
            go_wp2_with fail
            refine (CMZ1.out _ B22.out Z22.out).mono ?_
            rintro e w29 ⟨rfl, hb29⟩
            have B30 := hide (bthen B22.out hb29)
            clear hb29 B22
            go_wp2_with fail
            refine (CL.out _ B30.out).mono ?_
            rintro e w31 ⟨rfl, hb31⟩
            go_wp2_with fail
            go_ret
            exact ⟨rfl, bthen B30.out hb31⟩
          · have CF1 := hide (CF.out o4 c4 hf h16)
            have CH1 := hide (CH.out o4 c4 hh h16)
            clear hf hh CF CH
            go_wp2_with fail
            refine (CF1.out _ B22.out Z22.out).mono ?_
            rintro e w23 ⟨rfl, hb23⟩
            have Z23 := hide (Is.slot_below Z22.out hb23)
            have B23 := hide (bthen B22.out hb23)
            clear hb23 B22 Z22
            go_wp2_with fail
            refine (CH1.out _ B23.out Z23.out).mono ?_
            rintro e w24 ⟨rfl, hb24⟩
            have Z24 := hide (Is.slot_below Z23.out hb24)
            have B24 := hide (bthen B23.out hb24)
            clear hb24 B23 Z23
            go_wp2_with fail
            refine (CMZ1.out _ B24.out Z24.out).mono ?_
            rintro e w29 ⟨rfl, hb29⟩
            have B30 := hide (bthen B24.out hb29)
            clear hb29 B24
            go_wp2_with fail
            refine (CL.out _ B30.out).mono ?_
            rintro e w31 ⟨rfl, hb31⟩
            go_wp2_with fail
            go_ret
            exact ⟨rfl, bthen B30.out hb31⟩
      · obtain rfl := HG1.out hg
        have B30 := hide B21.out
        go_wp2_with fail
        refine (CL.out _ B30.out).mono ?_
        rintro e w31 ⟨rfl, hb31⟩
        go_wp2_with fail
        go_ret
        exact ⟨rfl, bthen B30.out hb31⟩
    · have B20 := hide B6.out
      clear B6 P6
      go_wp2_with fail
      refine (CP.out _ B20.out).mono ?_
      rintro e w21 ⟨o4, c4, rfl, hown, hb21⟩
      have Z21 := hide hown.slot
      have HCZ := hide hown.2
      have B21 := hide (bthen B20.out hb21)
      clear hown hb21 B20 CP
      by_cases hg : g = 0
      · obtain ⟨hzl, h16, htl, hfh, hmz⟩ := HG0.out hg
        have CT1 := hide (CT.out o4 c4 htl h16 HCZ.out _ B21.out Z21.out)
        have CMZ1 := hide (CMZ.out o4 c4 hmz h16)
        subst hg
        have hzb : ((z.length : Int) == (l.length : Int) + t) = true := by rw [hzl]; simp
        have hz0 : (z.length : Int) = (l.length : Int) + t := hzl
        have hbl : -300 ≤ t ∧ t ≤ 16 ∧ l.length ≤ 300 ∧ 0 ≤ (l.length : Int) + t := by omega
        obtain ⟨hbl1, hbl2, hbl3, hbl4⟩ := hbl
        clear CT CMZ HG0 HG1 htl hmz HCZ hzl
        go_wp2_with fail
        refine CT1.out.mono ?_
        rintro e w22 ⟨rfl, hb22⟩
        have Z22 := hide (Is.slot_below Z21.out hb22)
        have B22 := hide (bthen B21.out hb22)
        clear hb22 B21 Z21 CT1
        rcases hfh with rfl | ⟨hf, hh⟩
        · go_wp2_with fail
          refine (CMZ1.out _ B22.out Z22.out).mono ?_
          rintro e w29 ⟨rfl, hb29⟩
          have B30 := hide (bthen B22.out hb29)
          clear hb29 B22
          go_wp2_with fail
          refine (CL.out _ B30.out).mono ?_
          rintro e w31 ⟨rfl, hb31⟩
          go_wp2_with fail
          go_ret
          exact ⟨rfl, bthen B30.out hb31⟩
        · by_cases ht0 : t = 0
          · subst ht0
            go_wp2_with fail
            refine (CMZ1.out _ B22.out Z22.out).mono ?_
            rintro e w29 ⟨rfl, hb29⟩
            have B30 := hide (bthen B22.out hb29)
            clear hb29 B22
            go_wp2_with fail
            refine (CL.out _ B30.out).mono ?_
            rintro e w31 ⟨rfl, hb31⟩
            go_wp2_with fail
            go_ret
            exact ⟨rfl, bthen B30.out hb31⟩
          · have CF1 := hide (CF.out o4 c4 hf h16)
            have CH1 := hide (CH.out o4 c4 hh h16)
            clear hf hh CF CH
            go_wp2_with fail
            refine (CF1.out _ B22.out Z22.out).mono ?_
            rintro e w23 ⟨rfl, hb23⟩
            have Z23 := hide (Is.slot_below Z22.out hb23)
            have B23 := hide (bthen B22.out hb23)
            clear hb23 B22 Z22
            go_wp2_with fail
            refine (CH1.out _ B23.out Z23.out).mono ?_
            rintro e w24 ⟨rfl, hb24⟩
            have Z24 := hide (Is.slot_below Z23.out hb24)
            have B24 := hide (bthen B23.out hb24)
            clear hb24 B23 Z23
            go_wp2_with fail
            refine (CMZ1.out _ B24.out Z24.out).mono ?_
            rintro e w29 ⟨rfl, hb29⟩
            have B30 := hide (bthen B24.out hb29)
            clear hb29 B24
            go_wp2_with fail
            refine (CL.out _ B30.out).mono ?_
            rintro e w31 ⟨rfl, hb31⟩
            go_wp2_with fail
            go_ret
            exact ⟨rfl, bthen B30.out hb31⟩
      · obtain rfl := HG1.out hg
        have B30 := hide B21.out
        go_wp2_with fail
        refine (CL.out _ B30.out).mono ?_
        rintro e w31 ⟨rfl, hb31⟩
        go_wp2_with fail
        go_ret
        exact ⟨rfl, bthen B30.out hb31⟩
  · obtain ⟨rfl, hy⟩ := HQ1.out rfl
    have hy' := hy.symm
    subst hy'
    clear hy
    go_wp2_with fail
    refine (CS.out o2 c2 _ B4.out P4.out).mono ?_
    rintro e w5 ⟨rfl, hb5⟩
    have B5 := hide (bthen B4.out hb5)
    clear hb5 B4 P4 CS
    go_wp2_with fail
    refine (CO2.out _ B5.out).mono ?_
    rintro e w6 ⟨o3, c3, rfl, hown, hb6⟩
    have P6 := hide (Is.slot_own hown)
    have B6 := hide (bthen B5.out hb6)
    clear hown hb6 B5 CO2
    by_cases hq2 : q2 = 0
    · obtain ⟨hr2, hm2⟩ := HQ2.out hq2
      have CR3 := hide (CR2.out o3 c3 hr2)
      have CM3 := hide (CM2.out o3 c3 hm2)
      subst hq2
      clear hr2 hm2 HQ2
      go_wp2_with fail
      refine (CR3.out _ B6.out P6.out).mono ?_
      rintro e w7 ⟨o5, c5, rfl, hown, hb7⟩
      have S7 := hide (Ru.slot_own hown)
      have P7 := hide (Is.slot_below P6.out hb7)
      have B7 := hide (bthen B6.out hb7)
      clear hown hb7 B6 P6
      go_wp2_with fail
      refine (CX.out o5 c5 _ B7.out S7.out).mono ?_
      rintro e w8 ⟨rfl, hb8⟩
      have P8 := hide (Is.slot_below P7.out hb8)
      have B8 := hide (bthen B7.out hb8)
      clear hb8 B7 P7 S7
      go_wp2_with fail
      refine (CM3.out _ B8.out P8.out).mono ?_
      rintro e w9 ⟨rfl, hb9⟩
      have B20 := hide (bthen B8.out hb9)
      clear hb9 B8 P8
      go_wp2_with fail
      refine (CP.out _ B20.out).mono ?_
      rintro e w21 ⟨o4, c4, rfl, hown, hb21⟩
      have Z21 := hide hown.slot
      have HCZ := hide hown.2
      have B21 := hide (bthen B20.out hb21)
      clear hown hb21 B20 CP
      by_cases hg : g = 0
      · obtain ⟨hzl, h16, htl, hfh, hmz⟩ := HG0.out hg
        have CT1 := hide (CT.out o4 c4 htl h16 HCZ.out _ B21.out Z21.out)
        have CMZ1 := hide (CMZ.out o4 c4 hmz h16)
        subst hg
        have hzb : ((z.length : Int) == (l.length : Int) + t) = true := by rw [hzl]; simp
        have hz0 : (z.length : Int) = (l.length : Int) + t := hzl
        have hbl : -300 ≤ t ∧ t ≤ 16 ∧ l.length ≤ 300 ∧ 0 ≤ (l.length : Int) + t := by omega
        obtain ⟨hbl1, hbl2, hbl3, hbl4⟩ := hbl
        clear CT CMZ HG0 HG1 htl hmz HCZ hzl
        go_wp2_with fail
        refine CT1.out.mono ?_
        rintro e w22 ⟨rfl, hb22⟩
        have Z22 := hide (Is.slot_below Z21.out hb22)
        have B22 := hide (bthen B21.out hb22)
        clear hb22 B21 Z21 CT1
        rcases hfh with rfl | ⟨hf, hh⟩
        · go_wp2_with fail
          refine (CMZ1.out _ B22.out Z22.out).mono ?_
          rintro e w29 ⟨rfl, hb29⟩
          have B30 := hide (bthen B22.out hb29)
          clear hb29 B22
          go_wp2_with fail
          refine (CL.out _ B30.out).mono ?_
          rintro e w31 ⟨rfl, hb31⟩
          go_wp2_with fail
          go_ret
          exact ⟨rfl, bthen B30.out hb31⟩
        · by_cases ht0 : t = 0
          · subst ht0
            go_wp2_with fail
            refine (CMZ1.out _ B22.out Z22.out).mono ?_
            rintro e w29 ⟨rfl, hb29⟩
            have B30 := hide (bthen B22.out hb29)
            clear hb29 B22
            go_wp2_with fail
            refine (CL.out _ B30.out).mono ?_
            rintro e w31 ⟨rfl, hb31⟩
            go_wp2_with fail
            go_ret
            exact ⟨rfl, bthen B30.out hb31⟩
          · have CF1 := hide (CF.out o4 c4 hf h16)
            have CH1 := hide (CH.out o4 c4 hh h16)
            clear hf hh CF CH
            go_wp2_with fail
            refine (CF1.out _ B22.out Z22.out).mono ?_
            rintro e w23 ⟨rfl, hb23⟩
            have Z23 := hide (Is.slot_below Z22.out hb23)
            have B23 := hide (bthen B22.out hb23)
            clear hb23 B22 Z22
            go_wp2_with fail
            refine (CH1.out _ B23.out Z23.out).mono ?_
            rintro e w24 ⟨rfl, hb24⟩
            have Z24 := hide (Is.slot_below Z23.out hb24)
            have B24 := hide (bthen B23.out hb24)
            clear hb24 B23 Z23
            go_wp2_with fail
            refine (CMZ1.out _ B24.out Z24.out).mono ?_
            rintro e w29 ⟨rfl, hb29⟩
            have B30 := hide (bthen B24.out hb29)
            clear hb29 B24
            go_wp2_with fail
            refine (CL.out _ B30.out).mono ?_
            rintro e w31 ⟨rfl, hb31⟩
            go_wp2_with fail
            go_ret
            exact ⟨rfl, bthen B30.out hb31⟩
      · obtain rfl := HG1.out hg
        have B30 := hide B21.out
        go_wp2_with fail
        refine (CL.out _ B30.out).mono ?_
        rintro e w31 ⟨rfl, hb31⟩
        go_wp2_with fail
        go_ret
        exact ⟨rfl, bthen B30.out hb31⟩
    · have B20 := hide B6.out
      clear B6 P6
      go_wp2_with fail
      refine (CP.out _ B20.out).mono ?_
      rintro e w21 ⟨o4, c4, rfl, hown, hb21⟩
      have Z21 := hide hown.slot
      have HCZ := hide hown.2
      have B21 := hide (bthen B20.out hb21)
      clear hown hb21 B20 CP
      by_cases hg : g = 0
      · obtain ⟨hzl, h16, htl, hfh, hmz⟩ := HG0.out hg
        have CT1 := hide (CT.out o4 c4 htl h16 HCZ.out _ B21.out Z21.out)
        have CMZ1 := hide (CMZ.out o4 c4 hmz h16)
        subst hg
        have hzb : ((z.length : Int) == (l.length : Int) + t) = true := by rw [hzl]; simp
        have hz0 : (z.length : Int) = (l.length : Int) + t := hzl
        have hbl : -300 ≤ t ∧ t ≤ 16 ∧ l.length ≤ 300 ∧ 0 ≤ (l.length : Int) + t := by omega
        obtain ⟨hbl1, hbl2, hbl3, hbl4⟩ := hbl
        clear CT CMZ HG0 HG1 htl hmz HCZ hzl
        go_wp2_with fail
        refine CT1.out.mono ?_
        rintro e w22 ⟨rfl, hb22⟩
        have Z22 := hide (Is.slot_below Z21.out hb22)
        have B22 := hide (bthen B21.out hb22)
        clear hb22 B21 Z21 CT1
        rcases hfh with rfl | ⟨hf, hh⟩
        · go_wp2_with fail
          refine (CMZ1.out _ B22.out Z22.out).mono ?_
          rintro e w29 ⟨rfl, hb29⟩
          have B30 := hide (bthen B22.out hb29)
          clear hb29 B22
          go_wp2_with fail
          refine (CL.out _ B30.out).mono ?_
          rintro e w31 ⟨rfl, hb31⟩
          go_wp2_with fail
          go_ret
          exact ⟨rfl, bthen B30.out hb31⟩
        · by_cases ht0 : t = 0
          · subst ht0
            go_wp2_with fail
            refine (CMZ1.out _ B22.out Z22.out).mono ?_
            rintro e w29 ⟨rfl, hb29⟩
            have B30 := hide (bthen B22.out hb29)
            clear hb29 B22
            go_wp2_with fail
            refine (CL.out _ B30.out).mono ?_
            rintro e w31 ⟨rfl, hb31⟩
            go_wp2_with fail
            go_ret
            exact ⟨rfl, bthen B30.out hb31⟩
          · have CF1 := hide (CF.out o4 c4 hf h16)
            have CH1 := hide (CH.out o4 c4 hh h16)
            clear hf hh CF CH
            go_wp2_with fail
            refine (CF1.out _ B22.out Z22.out).mono ?_
            rintro e w23 ⟨rfl, hb23⟩
            have Z23 := hide (Is.slot_below Z22.out hb23)
            have B23 := hide (bthen B22.out hb23)
            clear hb23 B22 Z22
            go_wp2_with fail
            refine (CH1.out _ B23.out Z23.out).mono ?_
            rintro e w24 ⟨rfl, hb24⟩
            have Z24 := hide (Is.slot_below Z23.out hb24)
            have B24 := hide (bthen B23.out hb24)
            clear hb24 B23 Z23
            go_wp2_with fail
            refine (CMZ1.out _ B24.out Z24.out).mono ?_
            rintro e w29 ⟨rfl, hb29⟩
            have B30 := hide (bthen B24.out hb29)
            clear hb29 B24
            go_wp2_with fail
            refine (CL.out _ B30.out).mono ?_
            rintro e w31 ⟨rfl, hb31⟩
            go_wp2_with fail
            go_ret
            exact ⟨rfl, bthen B30.out hb31⟩
      · obtain rfl := HG1.out hg
        have B30 := hide B21.out
        go_wp2_with fail
        refine (CL.out _ B30.out).mono ?_
        rintro e w31 ⟨rfl, hb31⟩
        go_wp2_with fail
        go_ret
        exact ⟨rfl, bthen B30.out hb31⟩

theorem back_law {T : World → Prop} (K : Kit T) (ao bo : Option Addr) (ca cb : Nat) (l : List Int) (r : List Ru.C) (n t : Int) (w : World) (hT : T w) (hA : Is.slot w ao l) (hB : Ru.slot w bo r) (cA : came ao ca) :
    Calls Tryd.prog 7 #[.slice ao l.length ca, .slice bo r.length cb, .agg #[.int .i64 n, .int .i64 t]] w fun e w' => e = .returned (.bool true) ∧ Below w.heap.size w w' := by
  by_cases ha : l.length ≤ 300
  · by_cases hb : r.length ≤ 300
    · exact back_short K ao bo ca cb l r n t _ _ _ _ _ _ _ _ w hT hA hB cA ha hb rfl rfl rfl rfl rfl
    · exact back_long K ao bo ca cb _ _ n t w hT (.inr ⟨ha, by omega⟩)
  · exact back_long K ao bo ca cb _ _ n t w hT (.inl (by omega))
end Go.Proofs.YtnbedjgjkoeflaaDoor
