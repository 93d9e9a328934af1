import Derived.Test.YtbceoinhmpnjaaaGreatDoorZ4
import Derived.Test.YtbceoinhmpnjaaaGreatDoorY6
/- The law AsreLeast. -/
namespace Go.Proofs.YtbceoinhmpnjaaaGreatDoor
open Go.RowKit Go.Sort

set_option maxHeartbeats 16000000 in
set_option maxRecDepth 100000 in
theorem least_law (s : ByteArray) (m : Int) (ao : Option Addr) (ca : Nat) (p : List Int) (w : World) (hT : T5 w) (hA : Is.slot w ao p) :
    Calls Tryz.prog 8 #[.string s, .int .i64 m, .slice ao p.length ca] w fun e w' => e = .returned (.bool true) ∧ Below w.heap.size w w' := by
  have CL := hide (fun W (hW : Below w.heap.size w W) => lives_is kit5 W (T5.on hT hW))
  by_cases hs : s.size ≤ 64
  · have hs' : ¬ (64 : Int) < (s.size : Int) := by omega
    by_cases hl : p.length ≤ 300
    · have hl' : ¬ (300 : Int) < (p.length : Int) := by omega
      have N1 := hide least_nil
      have N2 := hide text_nil
      have N3 := hide meets_nil
      have N4 := hide whole_nil
      have N5 := hide size_nil
      have HA := hide (fun W (hW : Below w.heap.size w W) => Is.slot_below hA hW)
      cases hp : Px.parse s.data.toList with
      | error q =>
        have hq := err_ne hp
        have hq' : (q != 0) = true := by simpa using hq
        have C1 := hide (parse_bad kit5 s q hp (by omega) w hT)
        clear hp hT hA HA
        go_enter Tryz.func8, Tryz.ntmps8
        go_wp2_with fail
        refine C1.out.mono ?_
        rintro e w1 ⟨rfl, hb1⟩
        have B1 := hide hb1
        clear hb1 C1
        go_wp2_with fail
        refine (N1.out _ _).mono ?_
        rintro e w2 ⟨rfl, hw⟩
        have hw' := hw.symm
        clear hw
        subst hw'
        go_wp2_with fail
        refine (N2.out _).mono ?_
        rintro e w2 ⟨rfl, hw⟩
        have hw' := hw.symm
        clear hw
        subst hw'
        go_wp2_with fail
        refine (N3.out _ _).mono ?_
        rintro e w2 ⟨rfl, hw⟩
        have hw' := hw.symm
        clear hw
        subst hw'
        go_wp2_with fail
        refine (N4.out _ _).mono ?_
        rintro e w2 ⟨rfl, hb2⟩
        have B2 := hide (bthen B1.out hb2)
        have BN := hide hb2
        clear hb2
        go_wp2_with fail
        refine (N5.out _).mono ?_
        rintro e w3 ⟨rfl, hw⟩
        have hw' := hw.symm
        clear hw
        subst hw'
        go_wp2_with fail
        refine (CL.out _ B2.out).mono ?_
        rintro e w3 ⟨rfl, hb3⟩
        go_wp2_with fail
        go_ret
        exact ⟨rfl, bthen B2.out hb3⟩
      | ok x =>
        have C1 := hide (parse_ok kit5 s x hp (by omega) w hT)
        have HP := hide hp
        have HMY := hide (fun b h W (hW : Below w.heap.size w W) => refMay_is ao ca p b h W (HA.out W hW) hl)
        have HWP := hide (fun v b h W (hW : Below w.heap.size w W) hR => kit5.whole v x ao ca p b h W (T5.on hT hW) hR (HA.out W hW) (by omega))
        have HT := hide (fun W (hW : Below w.heap.size w W) => T5.on hT hW)
        clear hp hT hA
        go_enter Tryz.func8, Tryz.ntmps8
        go_wp2_with fail
        refine C1.out.mono ?_
        rintro e w1 ⟨a, rfl, hr1, hb1⟩
        have B1 := hide hb1
        have R1 := hide hr1
        clear hb1 hr1 C1
        go_wp2_with fail
        refine (N1.out _ _).mono ?_
        rintro e w2 ⟨rfl, hw⟩
        have hw' := hw.symm
        clear hw
        subst hw'
        go_wp2_with fail
        refine (N2.out _).mono ?_
        rintro e w2 ⟨rfl, hw⟩
        have hw' := hw.symm
        clear hw
        subst hw'
        go_wp2_with fail
        refine (N3.out _ _).mono ?_
        rintro e w2 ⟨rfl, hw⟩
        have hw' := hw.symm
        clear hw
        subst hw'
        go_wp2_with fail
        refine (N4.out _ _).mono ?_
        rintro e w2 ⟨rfl, hb2⟩
        have B2 := hide (bthen B1.out hb2)
        have BN := hide hb2
        clear hb2
        go_wp2_with fail
        refine (N5.out _).mono ?_
        rintro e w3 ⟨rfl, hw⟩
        have hw' := hw.symm
        clear hw
        subst hw'
        go_wp2_with fail
        have R2 := hide (Rep5.on R1.out BN.out)
        have DL := hide (least_is5 _ x m _ R2.out)
        refine DL.out.mono ?_
        rintro e w3 ⟨⟨L, o, c, hL, hLN, hLS, hor⟩, hb3⟩
        have B3 := hide (bthen B2.out hb3)
        have R3 := hide (Rep5.on R2.out hb3)
        have HL := hide hL
        have HLS := hide hLS
        have h16 : max 0 (min m 16) ≤ 16 := by omega
        clear hb3 hL hLS DL
        cases hmy : Is.may p with
        | false =>
          have CM := hide (fun W hW => HMY.out false hmy W hW)
          clear HMY hmy HWP
          rcases hor with ⟨hle, rfl⟩ | ⟨hgt, rfl⟩
          · have hle' : ¬ max 0 (min m 16) < (L.length : Int) := by omega
            have HWL : Hid (Is.may L = true ∧ Ex.Whole x L) := ⟨least_may HP.out HL.out.1 (by omega), HL.out.1⟩
            have CQ := hide (kit5.whole _ x o c L true ⟨fun _ => HWL.out, fun _ => rfl⟩ _ (HT.out _ B3.out) R3.out HLS.out (by omega))
            go_wp2_with fail
            refine CQ.out.mono ?_
            rintro e w4 ⟨rfl, hb4⟩
            have B4 := hide (bthen B3.out hb4)
            have R4 := hide (Rep5.on R3.out hb4)
            have HLS4 := hide (Is.slot_below HLS.out hb4)
            clear hb4 CQ
            go_wp2_with fail
            refine (CM.out _ B4.out).mono ?_
            rintro e w5 ⟨rfl, hw⟩
            have hw' := hw.symm
            clear hw
            subst hw'
            go_wp2_with fail
            refine (CL.out _ B4.out).mono ?_
            rintro e w9 ⟨rfl, hb9⟩
            go_wp2_with fail
            go_ret
            exact ⟨rfl, bthen B4.out hb9⟩
          · go_wp2_with fail
            refine (CM.out _ B3.out).mono ?_
            rintro e w5 ⟨rfl, hw⟩
            have hw' := hw.symm
            clear hw
            subst hw'
            go_wp2_with fail
            refine (CL.out _ B3.out).mono ?_
            rintro e w9 ⟨rfl, hb9⟩
            go_wp2_with fail
            go_ret
            exact ⟨rfl, bthen B3.out hb9⟩
        | true =>
          have CM := hide (fun W hW => HMY.out true hmy W hW)
          have HMP := hide hmy
          clear HMY hmy
          by_cases hpl : (p.length : Int) ≤ max 0 (min m 16)
          · have hpl' : ¬ max 0 (min m 16) < (p.length : Int) := by omega
            obtain ⟨b, hbw⟩ := bool_of (Is.may p = true ∧ Ex.Whole x p)
            have CW := hide (fun v W hW hR => HWP.out v b hbw W hW hR)
            clear HWP
            cases b with
            | false =>
              clear hbw
              rcases hor with ⟨hle, rfl⟩ | ⟨hgt, rfl⟩
              · have hle' : ¬ max 0 (min m 16) < (L.length : Int) := by omega
                have HWL : Hid (Is.may L = true ∧ Ex.Whole x L) := ⟨least_may HP.out HL.out.1 (by omega), HL.out.1⟩
                have CQ := hide (kit5.whole _ x o c L true ⟨fun _ => HWL.out, fun _ => rfl⟩ _ (HT.out _ B3.out) R3.out HLS.out (by omega))
                go_wp2_with fail
                refine CQ.out.mono ?_
                rintro e w4 ⟨rfl, hb4⟩
                have B4 := hide (bthen B3.out hb4)
                have R4 := hide (Rep5.on R3.out hb4)
                have HLS4 := hide (Is.slot_below HLS.out hb4)
                clear hb4 CQ
                go_wp2_with fail
                refine (CM.out _ B4.out).mono ?_
                rintro e w5 ⟨rfl, hw⟩
                have hw' := hw.symm
                clear hw
                subst hw'
                go_wp2_with fail
                refine (CW.out _ _ B4.out R4.out).mono ?_
                rintro e w6 ⟨rfl, hb6⟩
                have B6 := hide (bthen B4.out hb6)
                clear hb6
                go_wp2_with fail
                refine (CL.out _ B6.out).mono ?_
                rintro e w9 ⟨rfl, hb9⟩
                go_wp2_with fail
                go_ret
                exact ⟨rfl, bthen B6.out hb9⟩
              · go_wp2_with fail
                refine (CM.out _ B3.out).mono ?_
                rintro e w5 ⟨rfl, hw⟩
                have hw' := hw.symm
                clear hw
                subst hw'
                go_wp2_with fail
                refine (CW.out _ _ B3.out R3.out).mono ?_
                rintro e w6 ⟨rfl, hb6⟩
                have B6 := hide (bthen B3.out hb6)
                clear hb6
                go_wp2_with fail
                refine (CL.out _ B6.out).mono ?_
                rintro e w9 ⟨rfl, hb9⟩
                go_wp2_with fail
                go_ret
                exact ⟨rfl, bthen B6.out hb9⟩
            | true =>
              have hW2 := (hbw.1 rfl).2
              have hcp := HL.out.2 p hW2
              have hlp : L.length ≤ p.length := by
                rcases (cmp_le L p).1 hcp with h | h <;> omega
              have HCP := hide (fun W (hW : Below w.heap.size w W) (hS : Is.slot W o L) => refCompare_is o ao c ca L p (Is.compare L p) rfl W hS (HA.out W hW) hLN)
              clear hbw hW2
              generalize Is.compare L p = z at *
              rcases hor with ⟨hle, rfl⟩ | ⟨hgt, rfl⟩
              · have hle' : ¬ max 0 (min m 16) < (L.length : Int) := by omega
                have HWL : Hid (Is.may L = true ∧ Ex.Whole x L) := ⟨least_may HP.out HL.out.1 (by omega), HL.out.1⟩
                have CQ := hide (kit5.whole _ x o c L true ⟨fun _ => HWL.out, fun _ => rfl⟩ _ (HT.out _ B3.out) R3.out HLS.out (by omega))
                go_wp2_with fail
                refine CQ.out.mono ?_
                rintro e w4 ⟨rfl, hb4⟩
                have B4 := hide (bthen B3.out hb4)
                have R4 := hide (Rep5.on R3.out hb4)
                have HLS4 := hide (Is.slot_below HLS.out hb4)
                clear hb4 CQ
                go_wp2_with fail
                refine (CM.out _ B4.out).mono ?_
                rintro e w5 ⟨rfl, hw⟩
                have hw' := hw.symm
                clear hw
                subst hw'
                go_wp2_with fail
                refine (CW.out _ _ B4.out R4.out).mono ?_
                rintro e w6 ⟨rfl, hb6⟩
                have B6 := hide (bthen B4.out hb6)
                have HLS6 := hide (Is.slot_below HLS4.out hb6)
                clear hb6
                go_wp2_with fail
                refine (HCP.out _ B6.out HLS6.out).mono ?_
                rintro e w7 ⟨rfl, hb7⟩
                have B7 := hide (bthen B6.out hb7)
                clear hb7
                go_wp2_with fail
                refine (CL.out _ B7.out).mono ?_
                rintro e w8 ⟨rfl, hb8⟩
                go_wp2_with fail
                go_ret
                exact ⟨rfl, bthen B7.out hb8⟩
              · omega
          · have hpl' : max 0 (min m 16) < (p.length : Int) := by omega
            clear HWP
            rcases hor with ⟨hle, rfl⟩ | ⟨hgt, rfl⟩
            · have hle' : ¬ max 0 (min m 16) < (L.length : Int) := by omega
              have HWL : Hid (Is.may L = true ∧ Ex.Whole x L) := ⟨least_may HP.out HL.out.1 (by omega), HL.out.1⟩
              have CQ := hide (kit5.whole _ x o c L true ⟨fun _ => HWL.out, fun _ => rfl⟩ _ (HT.out _ B3.out) R3.out HLS.out (by omega))
              go_wp2_with fail
              refine CQ.out.mono ?_
              rintro e w4 ⟨rfl, hb4⟩
              have B4 := hide (bthen B3.out hb4)
              have R4 := hide (Rep5.on R3.out hb4)
              have HLS4 := hide (Is.slot_below HLS.out hb4)
              clear hb4 CQ
              go_wp2_with fail
              refine (CM.out _ B4.out).mono ?_
              rintro e w5 ⟨rfl, hw⟩
              have hw' := hw.symm
              clear hw
              subst hw'
              go_wp2_with fail
              refine (CL.out _ B4.out).mono ?_
              rintro e w9 ⟨rfl, hb9⟩
              go_wp2_with fail
              go_ret
              exact ⟨rfl, bthen B4.out hb9⟩
            · go_wp2_with fail
              refine (CM.out _ B3.out).mono ?_
              rintro e w5 ⟨rfl, hw⟩
              have hw' := hw.symm
              clear hw
              subst hw'
              go_wp2_with fail
              refine (CL.out _ B3.out).mono ?_
              rintro e w9 ⟨rfl, hb9⟩
              go_wp2_with fail
              go_ret
              exact ⟨rfl, bthen B3.out hb9⟩
    · have hl' : (300 : Int) < (p.length : Int) := by omega
      have C0 := hide (CL.out w (brefl w))
      clear hT CL hA
      go_enter Tryz.func8, Tryz.ntmps8
      go_wp2_with fail
      refine C0.out.mono ?_
      rintro e w1 ⟨rfl, hb1⟩
      go_wp2_with fail
      go_ret
      exact ⟨rfl, hb1⟩
  · have hs' : (64 : Int) < (s.size : Int) := by omega
    have C0 := hide (CL.out w (brefl w))
    clear hT CL hA
    go_enter Tryz.func8, Tryz.ntmps8
    go_wp2_with fail
    refine C0.out.mono ?_
    rintro e w1 ⟨rfl, hb1⟩
    go_wp2_with fail
    go_ret
    exact ⟨rfl, hb1⟩
end Go.Proofs.YtbceoinhmpnjaaaGreatDoor
