/- The law PlistIdle walked. -/
import Derived.Test.YtkpoanjcalolkaaDoorIl1
import Derived.Test.YtkpoanjcalolkaaDoorPl8
namespace Go.Proofs.YtkpoanjcalolkaaDoor
open Go.RowKit

set_option maxHeartbeats 4000000 in
theorem idle_law_bad (ao : Option Addr) (ca : Nat) (a : List Ad.R) (m e x : Int) (w : World) (hRa : Ad.slotR w ao a) (hfa : Ad.fitsR a) (hx : Hid (Ad.rwhy a = x)) (hx0 : (x != 0) = true) :
    Calls Tryd.prog 6 #[.slice ao a.length ca, .int .i64 m, .int .u32 e] w fun e w' => e = .returned (.bool true) ∧ Below w.heap.size w w' := by
  have HRA := hide hRa
  have HFA := hide hfa
  clear hRa hfa
  go_enter Tryd.func6, Tryd.ntmps6
  go_wp2_with fail
  refine (pidle_bad ao ca a m x _ HRA.out HFA.out hx hx0).mono ?_
  rintro e w1 ⟨rfl, hb1⟩
  have S1 := hide (Ad.slotR_below HRA.out hb1)
  have B1 := hide hb1
  clear hb1
  go_wp2_with fail
  refine (refRWhy_is ao ca a x hx.out _ S1.out HFA.out).mono ?_
  rintro e w2 ⟨rfl, hb2⟩
  have S2 := hide (Ad.slotR_below S1.out hb2)
  have B2 := hide (bthen B1.out hb2)
  clear hb2
  go_wp2_with fail
  refine (refRWhy_is ao ca a x hx.out _ S2.out HFA.out).mono ?_
  rintro e w3 ⟨rfl, hb3⟩
  have B3 := hide (bthen B2.out hb3)
  clear hb3
  go_wp2_with fail
  refine (lives_any _).mono ?_
  rintro e w7 ⟨rfl, hb7⟩
  go_wp2_with fail
  go_ret
  exact ⟨rfl, bthen B3.out hb7⟩

set_option maxHeartbeats 4000000 in
theorem idle_law_out (ao : Option Addr) (ca : Nat) (a : List Ad.R) (m e : Int) (w : World) (hRa : Ad.slotR w ao a) (hfa : Ad.fitsR a) (hx : Hid (Ad.rwhy a = 0)) (hm : m < 0 ∨ (¬ m < 0 ∧ (a.length : Int) ≤ m)) :
    Calls Tryd.prog 6 #[.slice ao a.length ca, .int .i64 m, .int .u32 e] w fun e w' => e = .returned (.bool true) ∧ Below w.heap.size w w' := by
  have HRA := hide hRa
  have HFA := hide hfa
  have CP := hide fun W (hW : Below w.heap.size w W) => pidle_out ao ca a m W (Ad.slotR_below HRA.out hW) HFA.out hx hm
  clear hRa hfa
  rcases hm with hm | ⟨hm, hm2⟩
  all_goals
    go_enter Tryd.func6, Tryd.ntmps6
    go_wp2_with fail
    refine (CP.out _ (brefl w)).mono ?_
    rintro e w1 ⟨rfl, hb1⟩
    have S1 := hide (Ad.slotR_below HRA.out hb1)
    have B1 := hide hb1
    clear hb1
    go_wp2_with fail
    refine (refRWhy_is ao ca a 0 hx.out _ S1.out HFA.out).mono ?_
    rintro e w2 ⟨rfl, hb2⟩
    have B2 := hide (bthen B1.out hb2)
    clear hb2
    go_wp2_with fail
    refine (lives_any _).mono ?_
    rintro e w7 ⟨rfl, hb7⟩
    go_wp2_with fail
    go_ret
    exact ⟨rfl, bthen B2.out hb7⟩

set_option maxHeartbeats 8000000 in
set_option maxRecDepth 100000 in
theorem idle_law_in (ao : Option Addr) (ca : Nat) (a : List Ad.R) (m q : Int) (w : World) (hRa : Ad.slotR w ao a) (hfa : Ad.fitsR a) (hx : Hid (Ad.rwhy a = 0)) (hm : ¬ m < 0) (hm2 : ¬ (a.length : Int) ≤ m) (hq0 : 0 ≤ q) (hq1 : q ≤ 4294967295) :
    Calls Tryd.prog 6 #[.slice ao a.length ca, .int .i64 m, .int .u32 q] w fun e w' => e = .returned (.bool true) ∧ Below w.heap.size w w' := by
  have HRA := hide hRa
  have HFA := hide hfa
  have CP := hide fun W (hW : Below w.heap.size w W) => pidle_in ao ca a m W (Ad.slotR_below HRA.out hW) HFA.out hx hm hm2
  clear hRa hfa
  have hlen := Ad.rwhy_len a hx.out
  go_enter Tryd.func6, Tryd.ntmps6
  go_wp2_with fail
  refine (CP.out _ (brefl w)).mono ?_
  rintro e w1 ⟨r, rfl, hid, hb1⟩
  have S1 := hide (Ad.slotR_below HRA.out hb1)
  have B1 := hide hb1
  clear hb1
  have hwit : ∃ d0 k0 n0 : Nat, d0 ≤ 32 ∧ n0 < 6 ∧ k0 < a.length ∧ (r = false → ∀ (k : Nat) (hk : k < a.length), k = k0 → Ad.ask a m ((Ad.redges a[k]).getD n0 0) d0 = true) := by
    cases r
    · obtain ⟨d, k, n, h1, h2, h3, h4⟩ := Ad.ask_not a m (Ad.rwhy_all a hx.out) HFA.out (by omega) hid
      exact ⟨d, k, n, h1, h2, h3, fun _ k' hk' e => by subst e; exact h4⟩
    · exact ⟨0, 0, 0, by decide, by decide, by omega, fun h => by cases h⟩
  obtain ⟨d0, k0, n0, hd0, hn0, hk0, hwit⟩ := hwit
  have HW := hide hwit
  have HI : Hid (r = true → ∀ e (B : Nat), 0 ≤ e → e ≤ 4294967295 → B ≤ 32 → Ad.ask a m e B = false) := by
    show _ → _
    intro h e B h0 h1 hB
    subst h
    exact Ad.ask_idle a m hid e B h0 h1 hB
  clear hwit hid
  have HD0 := hide hd0
  have HN0 := hide hn0
  have HK0 := hide hk0
  clear hd0 hn0 hk0
  go_wp2_with fail
  refine (refRWhy_is ao ca a 0 hx.out _ S1.out HFA.out).mono ?_
  rintro e w2 ⟨rfl, hb2⟩
  have B2 := hide (bthen B1.out hb2)
  clear hb2
  go_wp2_with fail
  go_loopw [9, 10] (fun v9 v10 wr => ∃ (f : Bool) (B : Nat), v9 = .bool f ∧ v10 = .int .i64 B ∧ B ≤ 33 ∧ Ad.Pst r d0 k0 n0 B 0 0 f ∧ Below w.heap.size w wr) (fun _ v10 _ => 33 - (intOf v10).toNat)
  case atStart => exact ⟨false, 0, rfl, rfl, by decide, Ad.pst_start r d0 k0 n0, B2.out⟩
  case round =>
    obtain ⟨f, B, rfl, rfl, hB, hpst, hbr⟩ := hrel
    have HP := hide hpst
    have HB := hide hbr
    clear hpst hbr
    by_cases hB33 : B < 33
    · have hB' : (B : Int) ≤ 32 := by omega
      have hB'' : B ≤ 32 := by omega
      go_wp2_with fail
      go_loopw [9, 11] (fun v9 v11 wr => ∃ (f : Bool) (k : Nat), v9 = .bool f ∧ v11 = .int .i64 k ∧ k ≤ a.length ∧ Ad.Pst r d0 k0 n0 B k 0 f ∧ Below w.heap.size w wr) (fun _ v11 _ => a.length - (intOf v11).toNat)
      case atStart => exact ⟨f, 0, rfl, rfl, Nat.zero_le _, HP.out, HB.out⟩
      case round =>
        clear HP HB
        obtain ⟨f, k, rfl, rfl, hk, hpst, hbr⟩ := hrel
        have HP := hide hpst
        have HB := hide hbr
        clear hpst hbr
        by_cases hkl : k < a.length
        · have hkl' : (k : Int) < (a.length : Int) := by omega
          obtain ⟨b, off, rfl, hrd⟩ := Ad.slotR_at HRA.out hkl
          obtain ⟨e0, e1, e2, e3, e4⟩ := Ad.readsR_at (Ad.readsR_below hrd HB.out) k hkl
          clear hrd
          have hfit := hide (HFA.out a[k] (List.getElem_mem hkl))
          have hmay := hide (Ad.rwhy_all a hx.out a[k] (List.getElem_mem hkl))
          have HWk := hide fun h => HW.out h k hkl
          obtain ⟨y, hy⟩ : ∃ y, y = a[k] := ⟨_, rfl⟩
          rw [← hy] at e0 e1 e2 e3 e4 hfit hmay HWk
          clear hy
          have HBD := hide (Ad.redges_bd y hmay.out hfit.out.1 hfit.out.2)
          have HPM := hide ((Ad.rmay_iff y).1 hmay.out).1
          have EC := hide fun W (b c : Nat) (h0 : W.cell? ⟨b, 0, none⟩ = some (.int .u32 y.1)) (h1 : W.cell? ⟨b, 0 + 1, none⟩ = some (.int .i64 y.2.1)) => refEdges_one b 0 c y.1 y.2.1 W h0 h1 hfit.out.1 hfit.out.2 HPM.out
          clear HPM hmay
          go_wp2_with fail
          refine (EC.out _ _ _ (by simp) (by simp)).mono ?_
          rintro e w3 ⟨g, cap, rfl, hown, hb3⟩
          have HEA := hide (edge_of y hown)
          have B3 := hide (bthen (balloc HB.out _) hb3)
          clear hown hb3 e0 e1 e2 e3 e4
          go_wp2_with fail
          go_loopw [9, 13] (fun v9 v13 wr => ∃ (f : Bool) (n : Nat), v9 = .bool f ∧ v13 = .int .i64 n ∧ n ≤ 6 ∧ Ad.Pst r d0 k0 n0 B k n f ∧ EdgeAt wr g (Ad.redges y) ∧ Below w.heap.size w wr) (fun _ v13 _ => 6 - (intOf v13).toNat)
          case atStart => exact ⟨f, 0, rfl, rfl, by decide, HP.out, HEA.out, B3.out⟩
          case round =>
            clear HP HB B3 HEA
            obtain ⟨f, n, rfl, rfl, hn, hpst, hea, hbr⟩ := hrel
            have HP := hide hpst
            have HEA := hide hea
            have HB := hide hbr
            clear hpst hea hbr
            by_cases hn6 : n < 6
            · have hn6' : (n : Int) < 6 := by omega
              have ce := HEA.out n hn6
              obtain ⟨ee, hee⟩ : ∃ ee, ee = (Ad.redges y).getD n 0 := ⟨_, rfl⟩
              rw [← hee] at ce
              have hbd := hide (HBD.out n)
              rw [← hee] at hbd
              have hb0 : 0 ≤ ee := hbd.out.1
              have hb1 : ee ≤ 4294967295 := hbd.out.2
              have HNX : Hid (Ad.Pst r d0 k0 n0 B k (n + 1) (f || Ad.ask a m ee B)) := Ad.pst_n HP.out (fun hr => HI.out hr ee B hb0 hb1 hB'') (fun hr hBd hkk hnn => by
                have := HWk.out hr hkk
                rw [hee, hnn, hBd]
                exact this)
              clear hee hbd
              cases f
              · have hc0 := hide (Ad.cut_nonneg ee B hb0)
                have hc1 := hide (Int.le_trans (Ad.cut_le ee B) hb1)
                obtain ⟨v, hv⟩ : ∃ v, Ad.first a (Ad.cut ee B) B = v := ⟨_, rfl⟩
                have HV := hide hv
                have HNY : Hid (Ad.Pst r d0 k0 n0 B k (n + 1) (v == m)) := by
                  have := HNX.out
                  rw [Bool.false_or] at this
                  unfold Ad.ask at this
                  rw [hv] at this
                  exact this
                clear hv HNX
                go_wp2_with fail
                refine (refAt_any ee B _ hb0 hb1 hB'').mono ?_
                rintro e w4 ⟨rfl, hb4⟩
                have E4 := hide (edge_below HEA.out hb4)
                have B4 := hide (bthen HB.out hb4)
                clear hb4
                go_wp2_with fail
                refine (refFirst_is _ ca a _ _ v HV.out _ (Ad.slotR_below HRA.out B4.out) HFA.out (by omega) hc0.out hc1.out).mono ?_
                rintro e w5 ⟨rfl, hb5⟩
                have E5 := hide (edge_below E4.out hb5)
                have B5 := hide (bthen B4.out hb5)
                clear hb5
                cases hvm : (v == m)
                · rw [hvm] at HNY
                  go_wp2_with fail
                  exact ⟨⟨false, n + 1, rfl, by go_num, by omega, HNY.out, E5.out, B5.out⟩, by simp [intOf] <;> omega⟩
                · rw [hvm] at HNY
                  go_wp2_with fail
                  exact ⟨⟨true, n + 1, rfl, by go_num, by omega, HNY.out, E5.out, B5.out⟩, by simp [intOf] <;> omega⟩
              · go_wp2_with fail
                exact ⟨⟨true, n + 1, rfl, by go_num, by omega, HNX.out, HEA.out, HB.out⟩, by simp [intOf] <;> omega⟩
            · have hn6' : ¬ (n : Int) < 6 := by omega
              have hnE : n = 6 := by omega
              subst hnE
              go_wp2_with fail
              exact ⟨⟨f, k + 1, rfl, by go_num, by omega, Ad.pst_k HP.out HN0.out, HB.out⟩, by simp [intOf] <;> omega⟩
        · have hkl' : ¬ (k : Int) < (a.length : Int) := by omega
          have hkE : k = a.length := by omega
          have HNX := hide (Ad.pst_B HP.out (by have := HK0.out; omega))
          cases r
          · go_wp2_with fail
            exact ⟨⟨f, B + 1, rfl, by go_num, by omega, HNX.out, HB.out⟩, by simp [intOf] <;> omega⟩
          · have hask := HI.out rfl q B hq0 hq1 hB''
            have hc0 := hide (Ad.cut_nonneg q B hq0)
            have hc1 := hide (Int.le_trans (Ad.cut_le q B) hq1)
            obtain ⟨v, hv⟩ : ∃ v, Ad.first a (Ad.cut q B) B = v := ⟨_, rfl⟩
            have HV := hide hv
            have hvm : (v == m) = false := by unfold Ad.ask at hask; rw [hv] at hask; exact hask
            clear hv hask
            go_wp2_with fail
            refine (refAt_any q B _ hq0 hq1 hB'').mono ?_
            rintro e w4 ⟨rfl, hb4⟩
            have B4 := hide (bthen HB.out hb4)
            clear hb4
            go_wp2_with fail
            refine (refFirst_is _ ca a _ _ v HV.out _ (Ad.slotR_below HRA.out B4.out) HFA.out (by omega) hc0.out hc1.out).mono ?_
            rintro e w5 ⟨rfl, hb5⟩
            have B5 := hide (bthen B4.out hb5)
            clear hb5
            go_wp2_with fail
            exact ⟨⟨f, B + 1, rfl, by go_num, by omega, HNX.out, B5.out⟩, by simp [intOf] <;> omega⟩
    · have hB' : ¬ (B : Int) ≤ 32 := by omega
      have hBE : B = 33 := by omega
      subst hBE
      have hf := Ad.pst_end HP.out HD0.out
      subst hf
      cases r
      all_goals
        go_wp2_with fail
        refine (lives_any _).mono ?_
        rintro e w7 ⟨rfl, hb7⟩
        go_wp2_with fail
        go_ret
        exact ⟨rfl, bthen HB.out hb7⟩

theorem idle_law_any (ao : Option Addr) (ca : Nat) (a : List Ad.R) (m q : Int) (w : World) (hRa : Ad.slotR w ao a) (hfa : Ad.fitsR a) (hq0 : 0 ≤ q) (hq1 : q ≤ 4294967295) :
    Calls Tryd.prog 6 #[.slice ao a.length ca, .int .i64 m, .int .u32 q] w fun e w' => e = .returned (.bool true) ∧ Below w.heap.size w w' := by
  by_cases hx : Ad.rwhy a = 0
  · by_cases hm : m < 0
    · exact idle_law_out ao ca a m q w hRa hfa hx (.inl hm)
    · by_cases hm2 : (a.length : Int) ≤ m
      · exact idle_law_out ao ca a m q w hRa hfa hx (.inr ⟨hm, hm2⟩)
      · exact idle_law_in ao ca a m q w hRa hfa hx hm hm2 hq0 hq1
  · exact idle_law_bad ao ca a m q _ w hRa hfa rfl (by simpa using hx)
end Go.Proofs.YtkpoanjcalolkaaDoor
