import Derived.Test.YtbceoinhmpnjaaaGreatDoorQ7
/- The law AsreParts, over the contracts of the program's functions: its loop. -/
namespace Go.Proofs.YtbceoinhmpnjaaaGreatDoor
open Go.RowKit Go.Sort

set_option maxHeartbeats 16000000 in
set_option maxRecDepth 100000 in
theorem parts_good {T : World → Prop} {Rep : World → Value → Xp → Prop} (K : Kit5 T Rep) (a b : ByteArray) (ao : Option Addr) (ca : Nat) (l : List Int) (w : World) (hT : T w) (hA : Is.slot w ao l) (hca : l.length ≤ ca) (ha : a.size ≤ 20) (hb : b.size ≤ 20) (hl : l.length ≤ 16) (x y : Xp) (hx : Px.parse a.data.toList = .ok x) (hy : Px.parse b.data.toList = .ok y) (x2 y2 : Xp) (hx2 : Px.parse (40 :: (a.data.toList ++ [41])) = .ok x2) (hy2 : Px.parse (40 :: (b.data.toList ++ [41])) = .ok y2) :
    Calls Tryz.prog 6 #[.string a, .string b, .slice ao l.length ca] w fun e w' => e = .returned (.bool true) ∧ Below w.heap.size w w' := by
  have h1 : ¬ (20 : Int) < (a.size : Int) := by omega
  have h2 : ¬ (20 : Int) < (b.size : Int) := by omega
  have h3 : ¬ (16 : Int) < (l.length : Int) := by omega
  have CL := hide (fun W (hW : Below w.heap.size w W) => lives_is K W (K.on hT hW))
  have C1 := hide (parse_ok K a x hx (by omega) w hT)
  have C2 := hide (fun W (hW : Below w.heap.size w W) => parse_ok K b y hy (by omega) W (K.on hT hW))
  obtain ⟨u, v, u2, u3, v2, v3, t1, t2, t3, t4, t5, t6, ⟨A1, A2, A3, A4, A5, A6, A7, A8, A9, A10, A11, A12⟩, ⟨e1, e2, e3, e4, e5, e6⟩, z1, z2, z3, z4, z5, z6⟩ := parts_texts a b ha hb
  obtain ⟨xf, xl, c⟩ := x
  obtain ⟨yf, yl, d⟩ := y
  obtain ⟨rfl, rfl, hpa⟩ := par_of hx hx2
  obtain ⟨rfl, rfl, hpb⟩ := par_of hy hy2
  have hsz : ∀ t : ByteArray, t.data.toList.length = t.size := fun t => Array.length_toList
  have D1 := hide (fun W (hW : Below w.heap.size w W) => parse_ok K t1 _ (e1 ▸ parse_par hpa (by rw [← e1, hsz]; omega)) (by omega) W (K.on hT hW))
  have D2 := hide (fun W (hW : Below w.heap.size w W) => parse_ok K t2 _ (e2 ▸ parse_par hpb (by rw [← e2, hsz]; omega)) (by omega) W (K.on hT hW))
  have D3 := hide (fun W (hW : Below w.heap.size w W) => parse_ok K t3 _ (e3 ▸ parse_either hpa hpb (by rw [← e3, hsz]; omega)) (by omega) W (K.on hT hW))
  have D4 := hide (fun W (hW : Below w.heap.size w W) => parse_ok K t4 _ (e4 ▸ parse_both hpa hpb (by rw [← e4, hsz]; omega)) (by omega) W (K.on hT hW))
  have D5 := hide (fun W (hW : Below w.heap.size w W) => parse_ok K t5 _ (e5 ▸ parse_signed hpa 63 5 (by decide) (by decide) (by decide) (by rw [← e5, hsz]; omega)) (by omega) W (K.on hT hW))
  have D6 := hide (fun W (hW : Below w.heap.size w W) => parse_ok K t6 _ (e6 ▸ parse_signed hpa 43 4 (by decide) (by decide) (by decide) (by rw [← e6, hsz]; omega)) (by omega) W (K.on hT hW))
  have CM := hide (fun r (hr : Is.may l = r) W (hW : Below w.heap.size w W) => refMay_is ao ca l r hr W (Is.slot_below hA hW) (by omega))
  obtain ⟨fX, hX⟩ := row_of fun k => Nd.MetRows c (l.take k)
  obtain ⟨fY, hY⟩ := row_of fun k => Nd.MetRows d (l.drop k)
  obtain ⟨fS, hS⟩ := row_of fun k => Plus (Nd.MetRows c) (l.drop k)
  obtain ⟨bx, hbx⟩ := bool_of (Nd.MetRows c l)
  obtain ⟨bz, hbz⟩ := bool_of (Nd.MetRows d l)
  have KX := hide (fun (hm : Is.may l = true) v W (hW : Below w.heap.size w W) (hR : Rep W v (false, false, [[.ch c]])) (k : Nat) (hk : k ≤ l.length) =>
    whole_to K v _ ao ca l (fX k) k hk hca hm hl ((hX k).trans (met_ch c _).symm) W (K.on hT hW) hR (Is.slot_below hA hW))
  have KY := hide (fun (hm : Is.may l = true) v W (hW : Below w.heap.size w W) (hR : Rep W v (false, false, [[.ch d]])) (k : Nat) (hk : k ≤ l.length) =>
    whole_from K v _ ao ca l (fY k) k hk hca hm hl ((hY k).trans (met_ch d _).symm) W (K.on hT hW) hR (Is.slot_below hA hW))
  have KS := hide (fun (hm : Is.may l = true) v W (hW : Below w.heap.size w W) (hR : Rep W v (false, false, [[.st 4 (.ch c)]])) (k : Nat) (hk : k ≤ l.length) =>
    whole_from K v _ ao ca l (fS k) k hk hca hm hl ((hS k).trans (met_some c _).symm) W (K.on hT hW) hR (Is.slot_below hA hW))
  have WX := hide (fun (hm : Is.may l = true) v W (hW : Below w.heap.size w W) (hR : Rep W v (false, false, [[.ch c]])) =>
    K.whole v (false, false, [[.ch c]]) ao ca l bx (hbx.trans ⟨fun h => ⟨hm, (met_ch c l).2 h⟩, fun h => (met_ch c l).1 h.2⟩) W (K.on hT hW) hR (Is.slot_below hA hW) (by omega))
  have WY := hide (fun (hm : Is.may l = true) v W (hW : Below w.heap.size w W) (hR : Rep W v (false, false, [[.ch d]])) =>
    K.whole v (false, false, [[.ch d]]) ao ca l bz (hbz.trans ⟨fun h => ⟨hm, (met_ch d l).2 h⟩, fun h => (met_ch d l).1 h.2⟩) W (K.on hT hW) hR (Is.slot_below hA hW) (by omega))
  have WE := hide (fun (hm : Is.may l = true) (r : Bool) (hr : r = true ↔ bx = true ∨ bz = true) v W (hW : Below w.heap.size w W) (hR : Rep W v (false, false, [[.ch c], [.ch d]])) =>
    K.whole v (false, false, [[.ch c], [.ch d]]) ao ca l r (hr.trans (by rw [hbx, hbz]; exact ⟨fun h => ⟨hm, (met_either c d l).2 h⟩, fun h => (met_either c d l).1 h.2⟩)) W (K.on hT hW) hR (Is.slot_below hA hW) (by omega))
  have WB := hide (fun (hm : Is.may l = true) (r : Bool) (hr : Found (fun k => fX k = true ∧ fY k = true) false (l.length + 1) r) v W (hW : Below w.heap.size w W) (hR : Rep W v (false, false, [[.ch c, .ch d]])) =>
    K.whole v (false, false, [[.ch c, .ch d]]) ao ca l r (Iff.trans hr (by
      constructor
      · rintro (h | ⟨k, h, h1, h2⟩)
        · cases h
        · exact ⟨hm, (met_both c d l).2 ⟨k, by omega, (hX k).1 h1, (hY k).1 h2⟩⟩
      · rintro ⟨_, h⟩
        obtain ⟨k, h, h1, h2⟩ := (met_both c d l).1 h
        exact .inr ⟨k, by omega, (hX k).2 h1, (hY k).2 h2⟩)) W (K.on hT hW) hR (Is.slot_below hA hW) (by omega))
  have WM := hide (fun (hm : Is.may l = true) (r : Bool) (hr : r = true ↔ l = [] ∨ bx = true) v W (hW : Below w.heap.size w W) (hR : Rep W v (false, false, [[.st 5 (.ch c)]])) =>
    K.whole v (false, false, [[.st 5 (.ch c)]]) ao ca l r (hr.trans (by rw [hbx]; exact ⟨fun h => ⟨hm, (met_maybe c l).2 h⟩, fun h => (met_maybe c l).1 h.2⟩)) W (K.on hT hW) hR (Is.slot_below hA hW) (by omega))
  have WS := hide (fun (hm : Is.may l = true) (r : Bool) (hr : Found (fun k => 0 < k ∧ fX k = true ∧ fS k = true) bx (l.length + 1) r) v W (hW : Below w.heap.size w W) (hR : Rep W v (false, false, [[.st 4 (.ch c)]])) =>
    K.whole v (false, false, [[.st 4 (.ch c)]]) ao ca l r (Iff.trans hr (by
      constructor
      · rintro (h | ⟨k, h, h0, h1, h2⟩)
        · exact ⟨hm, (met_some c l).2 ((plus_iff _ _).2 (.inl (hbx.1 h)))⟩
        · exact ⟨hm, (met_some c l).2 ((plus_iff _ _).2 (.inr ⟨k, h0, by omega, (hX k).1 h1, (hS k).1 h2⟩))⟩
      · rintro ⟨_, h⟩
        rcases (plus_iff _ _).1 ((met_some c l).1 h) with h | ⟨k, h0, h, h1, h2⟩
        · exact .inl (hbx.2 h)
        · exact .inr ⟨k, by omega, h0, (hX k).2 h1, (hS k).2 h2⟩)) W (K.on hT hW) hR (Is.slot_below hA hW) (by omega))
  unfold Adds at A1 A2 A3 A4 A5 A6 A7 A8 A9 A10 A11 A12
  clear hT hA hx hy hx2 hy2 hpa hpb hsz e1 e2 e3 e4 e5 e6 z1 z2 z3 z4 z5 z6 hX hY hS hbx hbz
  generalize [[Nd.ch c]] = E1 at *
  generalize [[Nd.ch d]] = E2 at *
  generalize [[Nd.ch c], [Nd.ch d]] = E3 at *
  generalize [[Nd.ch c, Nd.ch d]] = E4 at *
  generalize [[Nd.st 5 (Nd.ch c)]] = E5 at *
  generalize [[Nd.st 4 (Nd.ch c)]] = E6 at *
  go_enter Tryz.func6, Tryz.ntmps6
  go_wp2_with fail
  refine C1.out.mono ?_
  rintro e w1 ⟨p1, rfl, _, hb1⟩
  have B1 := hide hb1
  clear hb1
  go_wp2_with fail
  refine (C2.out _ B1.out).mono ?_
  rintro e w2 ⟨p2, rfl, _, hb2⟩
  have B2 := hide (bthen B1.out hb2)
  clear hb2 B1
  go_wp2_with fail
  refine (D1.out _ B2.out).mono ?_
  rintro e w3 ⟨q1, rfl, hr, hb3⟩
  have B3 := hide (bthen B2.out hb3)
  have R1_3 := hide hr
  clear hb3 hr B2
  go_wp2_with fail
  refine (D2.out _ B3.out).mono ?_
  rintro e w4 ⟨q2, rfl, hr, hb4⟩
  have B4 := hide (bthen B3.out hb4)
  have R2_4 := hide hr
  have R1_4 := hide (K.rep R1_3.out hb4)
  clear hb4 hr B3 R1_3
  go_wp2_with fail
  refine (D3.out _ B4.out).mono ?_
  rintro e w5 ⟨q3, rfl, hr, hb5⟩
  have B5 := hide (bthen B4.out hb5)
  have R3_5 := hide hr
  have R1_5 := hide (K.rep R1_4.out hb5)
  have R2_5 := hide (K.rep R2_4.out hb5)
  clear hb5 hr B4 R1_4 R2_4
  go_wp2_with fail
  refine (D4.out _ B5.out).mono ?_
  rintro e w6 ⟨q4, rfl, hr, hb6⟩
  have B6 := hide (bthen B5.out hb6)
  have R4_6 := hide hr
  have R1_6 := hide (K.rep R1_5.out hb6)
  have R2_6 := hide (K.rep R2_5.out hb6)
  have R3_6 := hide (K.rep R3_5.out hb6)
  clear hb6 hr B5 R1_5 R2_5 R3_5
  go_wp2_with fail
  refine (D5.out _ B6.out).mono ?_
  rintro e w7 ⟨q5, rfl, hr, hb7⟩
  have B7 := hide (bthen B6.out hb7)
  have R5_7 := hide hr
  have R1_7 := hide (K.rep R1_6.out hb7)
  have R2_7 := hide (K.rep R2_6.out hb7)
  have R3_7 := hide (K.rep R3_6.out hb7)
  have R4_7 := hide (K.rep R4_6.out hb7)
  clear hb7 hr B6 R1_6 R2_6 R3_6 R4_6
  go_wp2_with fail
  refine (D6.out _ B7.out).mono ?_
  rintro e w8 ⟨q6, rfl, hr, hb8⟩
  have B8 := hide (bthen B7.out hb8)
  have R6_8 := hide hr
  have R1_8 := hide (K.rep R1_7.out hb8)
  have R2_8 := hide (K.rep R2_7.out hb8)
  have R3_8 := hide (K.rep R3_7.out hb8)
  have R4_8 := hide (K.rep R4_7.out hb8)
  have R5_8 := hide (K.rep R5_7.out hb8)
  clear hb8 hr B7 R1_7 R2_7 R3_7 R4_7 R5_7
  clear C1 C2 D1 D2 D3 D4 D5 D6
  cases hm : Is.may l with
  | false =>
    have CF := hide (CM.out false hm _ B8.out)
    clear hm
    go_wp2_with fail
    refine CF.out.mono ?_
    rintro e w8 ⟨rfl, rfl⟩
    go_wp2_with fail
    refine (CL.out _ B8.out).mono ?_
    rintro e w9 ⟨rfl, hb9⟩
    go_wp2_with fail
    go_ret
    exact ⟨rfl, bthen B8.out hb9⟩
  | true =>
    have CF := hide (CM.out true hm _ B8.out)
    have HM := hide hm
    clear hm
    go_wp2_with fail
    refine CF.out.mono ?_
    rintro e w8 ⟨rfl, rfl⟩
    go_wp2_with fail
    refine (WX.out HM.out _ _ B8.out R1_8.out).mono ?_
    rintro e w9 ⟨rfl, hb9⟩
    have B9 := hide hb9
    clear hb9
    go_wp2_with fail
    go_loopw [23, 24, 25] (fun v23 v24 v25 wr => ∃ (b1 b2 : Bool) (k : Nat), v23 = .bool b1 ∧ v24 = .bool b2 ∧ v25 = .int .i64 k ∧ k ≤ l.length + 1 ∧ Hid (Found (fun k => fX k = true ∧ fY k = true) false k b1) ∧ Hid (Found (fun k => 0 < k ∧ fX k = true ∧ fS k = true) bx k b2) ∧ Below w9.heap.size w9 wr) (fun _ _ v25 _ => l.length + 1 - (intOf v25).toNat)
    case atStart => exact ⟨false, bx, 0, rfl, rfl, rfl, Nat.zero_le _, Found.start _ _, Found.start _ _, brefl _⟩
    case round =>
      obtain ⟨d1, d2, k, rfl, rfl, rfl, hk, HF1, HF2, hbr⟩ := hrel
      have BR := hide hbr
      clear hbr
      by_cases hkl : k ≤ l.length
      · have hkl' : (k : Int) ≤ (l.length : Int) := by omega
        have S1 := run_to ao l.length ca k hkl hca
        have S2 := run_from ao l.length ca k hkl
        have N1 := hide (fun b' hb => HF1.out.step b' hb)
        have N2 := hide (fun b' hb => HF2.out.step b' hb)
        have QX := hide (fun W (hW : Below w9.heap.size w9 W) => KX.out HM.out _ W (bthen B8.out (bthen B9.out hW)) (K.rep R1_8.out (bthen B9.out hW)) k hkl)
        have QY := hide (fun W (hW : Below w9.heap.size w9 W) => KY.out HM.out _ W (bthen B8.out (bthen B9.out hW)) (K.rep R2_8.out (bthen B9.out hW)) k hkl)
        have QS := hide (fun W (hW : Below w9.heap.size w9 W) => KS.out HM.out _ W (bthen B8.out (bthen B9.out hW)) (K.rep R6_8.out (bthen B9.out hW)) k hkl)
        have HKL := hide hkl
        generalize hA0 : cutA ao ca 0 = A0 at S1 QX
        generalize hAk : cutA ao ca k = Ak at S2 QY QS
        generalize fX k = gx at N1 N2 QX
        generalize fY k = gy at N1 QY
        generalize fS k = gs at N2 QS
        clear hA0 hAk hkl
        cases gx
        · cases d1
          · cases d2
            · rcases Nat.eq_zero_or_pos k with hk0 | hk0
              · have P1 := hide (N1.out false (by simp))
                have P2 := hide (N2.out false (by simp [hk0]))
                clear N1 N2
                have hkp : ¬ (0 : Int) < (k : Int) := by omega
                clear hk0
                go_wp2_with fail
                refine (QX.out _ BR.out).mono ?_
                rintro e wa ⟨rfl, hbn⟩
                have BA := hide (bthen BR.out hbn)
                clear hbn
                go_wp2_with fail
                exact ⟨⟨false, false, k + 1, rfl, rfl, by go_num, Nat.succ_le_succ HKL.out, P1.out, P2.out, BA.out⟩, round_less HKL.out⟩
              · have P1 := hide (N1.out false (by simp))
                have P2 := hide (N2.out false (by simp [hk0]))
                clear N1 N2
                have hkp : (0 : Int) < (k : Int) := by omega
                clear hk0
                go_wp2_with fail
                refine (QX.out _ BR.out).mono ?_
                rintro e wa ⟨rfl, hbn⟩
                have BA := hide (bthen BR.out hbn)
                clear hbn
                go_wp2_with fail
                refine (QX.out _ BA.out).mono ?_
                rintro e wc ⟨rfl, hbn⟩
                have BC := hide (bthen BA.out hbn)
                clear hbn
                go_wp2_with fail
                exact ⟨⟨false, false, k + 1, rfl, rfl, by go_num, Nat.succ_le_succ HKL.out, P1.out, P2.out, BC.out⟩, round_less HKL.out⟩
            · have P1 := hide (N1.out false (by simp))
              have P2 := hide (N2.out true (by simp))
              clear N1 N2
              go_wp2_with fail
              refine (QX.out _ BR.out).mono ?_
              rintro e wa ⟨rfl, hbn⟩
              have BA := hide (bthen BR.out hbn)
              clear hbn
              go_wp2_with fail
              exact ⟨⟨false, true, k + 1, rfl, rfl, by go_num, Nat.succ_le_succ HKL.out, P1.out, P2.out, BA.out⟩, round_less HKL.out⟩
          · cases d2
            · rcases Nat.eq_zero_or_pos k with hk0 | hk0
              · have P1 := hide (N1.out true (by simp))
                have P2 := hide (N2.out false (by simp [hk0]))
                clear N1 N2
                have hkp : ¬ (0 : Int) < (k : Int) := by omega
                clear hk0
                go_wp2_with fail
                exact ⟨⟨true, false, k + 1, rfl, rfl, by go_num, Nat.succ_le_succ HKL.out, P1.out, P2.out, BR.out⟩, round_less HKL.out⟩
              · have P1 := hide (N1.out true (by simp))
                have P2 := hide (N2.out false (by simp [hk0]))
                clear N1 N2
                have hkp : (0 : Int) < (k : Int) := by omega
                clear hk0
                go_wp2_with fail
                refine (QX.out _ BR.out).mono ?_
                rintro e wc ⟨rfl, hbn⟩
                have BC := hide (bthen BR.out hbn)
                clear hbn
                go_wp2_with fail
                exact ⟨⟨true, false, k + 1, rfl, rfl, by go_num, Nat.succ_le_succ HKL.out, P1.out, P2.out, BC.out⟩, round_less HKL.out⟩
            · have P1 := hide (N1.out true (by simp))
              have P2 := hide (N2.out true (by simp))
              clear N1 N2
              go_wp2_with fail
              exact ⟨⟨true, true, k + 1, rfl, rfl, by go_num, Nat.succ_le_succ HKL.out, P1.out, P2.out, BR.out⟩, round_less HKL.out⟩
        · cases d1
          · cases d2
            · rcases Nat.eq_zero_or_pos k with hk0 | hk0
              · have P1 := hide (N1.out gy (by simp))
                have P2 := hide (N2.out false (by simp [hk0]))
                clear N1 N2
                have hkp : ¬ (0 : Int) < (k : Int) := by omega
                clear hk0
                go_wp2_with fail
                refine (QX.out _ BR.out).mono ?_
                rintro e wa ⟨rfl, hbn⟩
                have BA := hide (bthen BR.out hbn)
                clear hbn
                go_wp2_with fail
                refine (QY.out _ BA.out).mono ?_
                rintro e wb ⟨rfl, hbn⟩
                have BB := hide (bthen BA.out hbn)
                clear hbn
                go_wp2_with fail
                exact ⟨⟨gy, false, k + 1, rfl, rfl, by go_num, Nat.succ_le_succ HKL.out, P1.out, P2.out, BB.out⟩, round_less HKL.out⟩
              · have P1 := hide (N1.out gy (by simp))
                have P2 := hide (N2.out gs (by simp [hk0]))
                clear N1 N2
                have hkp : (0 : Int) < (k : Int) := by omega
                clear hk0
                go_wp2_with fail
                refine (QX.out _ BR.out).mono ?_
                rintro e wa ⟨rfl, hbn⟩
                have BA := hide (bthen BR.out hbn)
                clear hbn
                go_wp2_with fail
                refine (QY.out _ BA.out).mono ?_
                rintro e wb ⟨rfl, hbn⟩
                have BB := hide (bthen BA.out hbn)
                clear hbn
                go_wp2_with fail
                refine (QX.out _ BB.out).mono ?_
                rintro e wc ⟨rfl, hbn⟩
                have BC := hide (bthen BB.out hbn)
                clear hbn
                go_wp2_with fail
                refine (QS.out _ BC.out).mono ?_
                rintro e wd ⟨rfl, hbn⟩
                have BD := hide (bthen BC.out hbn)
                clear hbn
                go_wp2_with fail
                exact ⟨⟨gy, gs, k + 1, rfl, rfl, by go_num, Nat.succ_le_succ HKL.out, P1.out, P2.out, BD.out⟩, round_less HKL.out⟩
            · have P1 := hide (N1.out gy (by simp))
              have P2 := hide (N2.out true (by simp))
              clear N1 N2
              go_wp2_with fail
              refine (QX.out _ BR.out).mono ?_
              rintro e wa ⟨rfl, hbn⟩
              have BA := hide (bthen BR.out hbn)
              clear hbn
              go_wp2_with fail
              refine (QY.out _ BA.out).mono ?_
              rintro e wb ⟨rfl, hbn⟩
              have BB := hide (bthen BA.out hbn)
              clear hbn
              go_wp2_with fail
              exact ⟨⟨gy, true, k + 1, rfl, rfl, by go_num, Nat.succ_le_succ HKL.out, P1.out, P2.out, BB.out⟩, round_less HKL.out⟩
          · cases d2
            · rcases Nat.eq_zero_or_pos k with hk0 | hk0
              · have P1 := hide (N1.out true (by simp))
                have P2 := hide (N2.out false (by simp [hk0]))
                clear N1 N2
                have hkp : ¬ (0 : Int) < (k : Int) := by omega
                clear hk0
                go_wp2_with fail
                exact ⟨⟨true, false, k + 1, rfl, rfl, by go_num, Nat.succ_le_succ HKL.out, P1.out, P2.out, BR.out⟩, round_less HKL.out⟩
              · have P1 := hide (N1.out true (by simp))
                have P2 := hide (N2.out gs (by simp [hk0]))
                clear N1 N2
                have hkp : (0 : Int) < (k : Int) := by omega
                clear hk0
                go_wp2_with fail
                refine (QX.out _ BR.out).mono ?_
                rintro e wc ⟨rfl, hbn⟩
                have BC := hide (bthen BR.out hbn)
                clear hbn
                go_wp2_with fail
                refine (QS.out _ BC.out).mono ?_
                rintro e wd ⟨rfl, hbn⟩
                have BD := hide (bthen BC.out hbn)
                clear hbn
                go_wp2_with fail
                exact ⟨⟨true, gs, k + 1, rfl, rfl, by go_num, Nat.succ_le_succ HKL.out, P1.out, P2.out, BD.out⟩, round_less HKL.out⟩
            · have P1 := hide (N1.out true (by simp))
              have P2 := hide (N2.out true (by simp))
              clear N1 N2
              go_wp2_with fail
              exact ⟨⟨true, true, k + 1, rfl, rfl, by go_num, Nat.succ_le_succ HKL.out, P1.out, P2.out, BR.out⟩, round_less HKL.out⟩
      · have hkl' : ¬ (k : Int) ≤ (l.length : Int) := by omega
        obtain rfl : k = l.length + 1 := by omega
        have B10 := hide (bthen B9.out BR.out)
        have UX := hide (fun W (hW : Below w8.heap.size w8 W) => WX.out HM.out _ W (bthen B8.out hW) (K.rep R1_8.out hW))
        have UY := hide (fun W (hW : Below w8.heap.size w8 W) => WY.out HM.out _ W (bthen B8.out hW) (K.rep R2_8.out hW))
        have UE := hide (fun r hr W (hW : Below w8.heap.size w8 W) => WE.out HM.out r hr _ W (bthen B8.out hW) (K.rep R3_8.out hW))
        have UB := hide (fun W (hW : Below w8.heap.size w8 W) => WB.out HM.out d1 HF1.out _ W (bthen B8.out hW) (K.rep R4_8.out hW))
        have UM := hide (fun r hr W (hW : Below w8.heap.size w8 W) => WM.out HM.out r hr _ W (bthen B8.out hW) (K.rep R5_8.out hW))
        have US := hide (fun W (hW : Below w8.heap.size w8 W) => WS.out HM.out d2 HF2.out _ W (bthen B8.out hW) (K.rep R6_8.out hW))
        have UL := hide (fun W (hW : Below w8.heap.size w8 W) => CL.out W (bthen B8.out hW))
        have hn0 : Hid (l = [] ∨ l ≠ []) := Decidable.em _
        clear WX WY WE WB WM WS CL HF1 HF2 KX KY KS hk
        cases bx
        · rcases hn0.out with hn | hn
          · have VE := hide (UE.out bz (by simp))
            have VM := hide (UM.out true (by simp [hn]))
            have hl0 : ((l.length : Int) == 0) = true := by simp [hn]
            clear hn hn0 UE UM
            go_wp2_with fail
            refine (VE.out _ B10.out).mono ?_
            rintro e w11 ⟨rfl, hbn⟩
            have B11 := hide (bthen B10.out hbn)
            clear hbn
            go_wp2_with fail
            refine (UX.out _ B11.out).mono ?_
            rintro e w12 ⟨rfl, hbn⟩
            have B12 := hide (bthen B11.out hbn)
            clear hbn
            go_wp2_with fail
            refine (UY.out _ B12.out).mono ?_
            rintro e w13 ⟨rfl, hbn⟩
            have B13 := hide (bthen B12.out hbn)
            clear hbn
            go_wp2_with fail
            refine (UB.out _ B13.out).mono ?_
            rintro e w14 ⟨rfl, hbn⟩
            have B14 := hide (bthen B13.out hbn)
            clear hbn
            go_wp2_with fail
            refine (VM.out _ B14.out).mono ?_
            rintro e w15 ⟨rfl, hbn⟩
            have B15 := hide (bthen B14.out hbn)
            clear hbn
            go_wp2_with fail
            refine (US.out _ B15.out).mono ?_
            rintro e w16 ⟨rfl, hbn⟩
            have B16 := hide (bthen B15.out hbn)
            clear hbn
            go_wp2_with fail
            refine (UL.out _ B16.out).mono ?_
            rintro e wl ⟨rfl, hbl⟩
            go_wp2_with fail
            go_ret
            exact ⟨rfl, bthen (bthen B8.out B16.out) hbl⟩
          · have VE := hide (UE.out bz (by simp))
            have VM := hide (UM.out false (by simp [hn]))
            have hl0 : ((l.length : Int) == 0) = false := by simpa using hn
            clear hn hn0 UE UM
            go_wp2_with fail
            refine (VE.out _ B10.out).mono ?_
            rintro e w11 ⟨rfl, hbn⟩
            have B11 := hide (bthen B10.out hbn)
            clear hbn
            go_wp2_with fail
            refine (UX.out _ B11.out).mono ?_
            rintro e w12 ⟨rfl, hbn⟩
            have B12 := hide (bthen B11.out hbn)
            clear hbn
            go_wp2_with fail
            refine (UY.out _ B12.out).mono ?_
            rintro e w13 ⟨rfl, hbn⟩
            have B13 := hide (bthen B12.out hbn)
            clear hbn
            go_wp2_with fail
            refine (UB.out _ B13.out).mono ?_
            rintro e w14 ⟨rfl, hbn⟩
            have B14 := hide (bthen B13.out hbn)
            clear hbn
            go_wp2_with fail
            refine (VM.out _ B14.out).mono ?_
            rintro e w15 ⟨rfl, hbn⟩
            have B15 := hide (bthen B14.out hbn)
            clear hbn
            go_wp2_with fail
            refine (UX.out _ B15.out).mono ?_
            rintro e w16 ⟨rfl, hbn⟩
            have B16 := hide (bthen B15.out hbn)
            clear hbn
            go_wp2_with fail
            refine (US.out _ B16.out).mono ?_
            rintro e w17 ⟨rfl, hbn⟩
            have B17 := hide (bthen B16.out hbn)
            clear hbn
            go_wp2_with fail
            refine (UL.out _ B17.out).mono ?_
            rintro e wl ⟨rfl, hbl⟩
            go_wp2_with fail
            go_ret
            exact ⟨rfl, bthen (bthen B8.out B17.out) hbl⟩
        · rcases hn0.out with hn | hn
          · have VE := hide (UE.out true (by simp))
            have VM := hide (UM.out true (by simp [hn]))
            have hl0 : ((l.length : Int) == 0) = true := by simp [hn]
            clear hn hn0 UE UM
            go_wp2_with fail
            refine (VE.out _ B10.out).mono ?_
            rintro e w11 ⟨rfl, hbn⟩
            have B11 := hide (bthen B10.out hbn)
            clear hbn
            go_wp2_with fail
            refine (UX.out _ B11.out).mono ?_
            rintro e w12 ⟨rfl, hbn⟩
            have B12 := hide (bthen B11.out hbn)
            clear hbn
            go_wp2_with fail
            refine (UB.out _ B12.out).mono ?_
            rintro e w13 ⟨rfl, hbn⟩
            have B13 := hide (bthen B12.out hbn)
            clear hbn
            go_wp2_with fail
            refine (VM.out _ B13.out).mono ?_
            rintro e w14 ⟨rfl, hbn⟩
            have B14 := hide (bthen B13.out hbn)
            clear hbn
            go_wp2_with fail
            refine (US.out _ B14.out).mono ?_
            rintro e w15 ⟨rfl, hbn⟩
            have B15 := hide (bthen B14.out hbn)
            clear hbn
            go_wp2_with fail
            refine (UL.out _ B15.out).mono ?_
            rintro e wl ⟨rfl, hbl⟩
            go_wp2_with fail
            go_ret
            exact ⟨rfl, bthen (bthen B8.out B15.out) hbl⟩
          · have VE := hide (UE.out true (by simp))
            have VM := hide (UM.out true (by simp [hn]))
            have hl0 : ((l.length : Int) == 0) = false := by simpa using hn
            clear hn hn0 UE UM
            go_wp2_with fail
            refine (VE.out _ B10.out).mono ?_
            rintro e w11 ⟨rfl, hbn⟩
            have B11 := hide (bthen B10.out hbn)
            clear hbn
            go_wp2_with fail
            refine (UX.out _ B11.out).mono ?_
            rintro e w12 ⟨rfl, hbn⟩
            have B12 := hide (bthen B11.out hbn)
            clear hbn
            go_wp2_with fail
            refine (UB.out _ B12.out).mono ?_
            rintro e w13 ⟨rfl, hbn⟩
            have B13 := hide (bthen B12.out hbn)
            clear hbn
            go_wp2_with fail
            refine (VM.out _ B13.out).mono ?_
            rintro e w14 ⟨rfl, hbn⟩
            have B14 := hide (bthen B13.out hbn)
            clear hbn
            go_wp2_with fail
            refine (UX.out _ B14.out).mono ?_
            rintro e w15 ⟨rfl, hbn⟩
            have B15 := hide (bthen B14.out hbn)
            clear hbn
            go_wp2_with fail
            refine (US.out _ B15.out).mono ?_
            rintro e w16 ⟨rfl, hbn⟩
            have B16 := hide (bthen B15.out hbn)
            clear hbn
            go_wp2_with fail
            refine (UL.out _ B16.out).mono ?_
            rintro e wl ⟨rfl, hbl⟩
            go_wp2_with fail
            go_ret
            exact ⟨rfl, bthen (bthen B8.out B16.out) hbl⟩
theorem parts_law {T : World → Prop} {Rep : World → Value → Xp → Prop} (K : Kit5 T Rep) (a b : ByteArray) (ao : Option Addr) (ca : Nat) (l : List Int) (w : World) (hT : T w) (hA : Is.slot w ao l) (hca : l.length ≤ ca) :
    Calls Tryz.prog 6 #[.string a, .string b, .slice ao l.length ca] w fun e w' => e = .returned (.bool true) ∧ Below w.heap.size w w' := by
  by_cases h : 20 < a.size ∨ 20 < b.size ∨ 16 < l.length
  · exact parts_out K a b ao _ ca w hT h
  · have ha : a.size ≤ 20 := by omega
    have hb : b.size ≤ 20 := by omega
    have hl : l.length ≤ 16 := by omega
    cases hx : Px.parse a.data.toList with
    | error q => exact parts_none K a b ao _ ca w hT ha hb hl (.inl ⟨q, hx⟩)
    | ok x =>
      cases hy : Px.parse b.data.toList with
      | error q => exact parts_none K a b ao _ ca w hT ha hb hl (.inr ⟨⟨x, hx⟩, q, hy⟩)
      | ok y =>
        cases hx2 : Px.parse (40 :: (a.data.toList ++ [41])) with
        | error q => exact parts_bad K a b ao _ ca w hT ha hb hl x y hx hy (.inl ⟨q, hx2⟩)
        | ok x2 =>
          cases hy2 : Px.parse (40 :: (b.data.toList ++ [41])) with
          | error q => exact parts_bad K a b ao _ ca w hT ha hb hl x y hx hy (.inr ⟨⟨x2, hx2⟩, q, hy2⟩)
          | ok y2 => exact parts_good K a b ao ca l w hT hA hca ha hb hl x y hx hy x2 y2 hx2 hy2
end Go.Proofs.YtbceoinhmpnjaaaGreatDoor
