/- The law CommAdds walked. -/
import Derived.Test.YtgebfgjeckdngaaDoorY5
import Derived.Test.YtgebfgjeckdngaaDoorO2
namespace Go.Proofs.YtgebfgjeckdngaaDoor
open Go.RowKit Go.Sort Go.Lib

set_option maxHeartbeats 4000000 in
theorem adds_long (ao bo : Option Addr) (ca cb na nb : Nat) (w : World) (hT : Tab w) (h : 200 < na ∨ (na ≤ 200 ∧ 200 < nb)) :
    Calls Tryd.prog 5 #[.slice ao na ca, .slice bo nb cb] w fun e w' => e = .returned (.bool true) ∧ Below w.heap.size w w' := by
  have HT := hide hT
  clear hT
  rcases h with h | ⟨h1, h⟩
  · have F1 := hide (fun W => few_is ao na ca false (by simp; omega) W)
    clear h
    go_enter Tryd.func5, Tryd.ntmps5
    go_wp2_with fail
    refine (F1.out _).mono ?_
    rintro e w1 ⟨rfl, rfl⟩
    go_wp2_with fail
    refine (lives_is _ HT.out).mono ?_
    rintro e w2 ⟨rfl, hb2⟩
    go_wp2_with fail
    go_ret
    exact ⟨rfl, hb2⟩
  · have F1 := hide (fun W => few_is ao na ca true (by simp; omega) W)
    have F2 := hide (fun W => few_is bo nb cb false (by simp; omega) W)
    clear h h1
    go_enter Tryd.func5, Tryd.ntmps5
    go_wp2_with fail
    refine (F1.out _).mono ?_
    rintro e w1 ⟨rfl, rfl⟩
    go_wp2_with fail
    refine (F2.out _).mono ?_
    rintro e w1 ⟨rfl, rfl⟩
    go_wp2_with fail
    refine (lives_is _ HT.out).mono ?_
    rintro e w2 ⟨rfl, hb2⟩
    go_wp2_with fail
    go_ret
    exact ⟨rfl, hb2⟩

/-- What both Adds say, where they can't. -/
def BothBad (ao bo : Option Addr) (ca cb : Nat) (l m : List Co.C) : Prop :=
  (∀ W, Co.slot W ao l → Co.slot W bo m → Calls Tryd.prog 28 #[.slice ao l.length ca, .slice bo m.length cb] W fun e w' => e = .returned (.tuple #[.slice none 0 0, .int .i64 1]) ∧ Below W.heap.size W w') ∧
  (∀ W o p c d, Co.slot W o l → Co.slot W p m → Calls Tryd.prog 29 #[.slice o l.length c, .slice p m.length d] W fun e w' => e = .returned (.tuple #[.slice none 0 0, .int .i64 1]) ∧ Below W.heap.size W w')

set_option maxHeartbeats 8000000 in
set_option maxRecDepth 100000 in
theorem adds_bad (ao bo : Option Addr) (ca cb : Nat) (l m : List Co.C) (w : World) (hT : Tab w) (hA : Co.slot w ao l) (hM : Co.slot w bo m) (hCA : Co.came ao ca) (hCB : Co.came bo cb) (ha : l.length ≤ 200) (hb : m.length ≤ 200) (hbad : BothBad ao bo ca cb l m) :
    Calls Tryd.prog 5 #[.slice ao l.length ca, .slice bo m.length cb] w fun e w' => e = .returned (.bool true) ∧ Below w.heap.size w w' := by
  have F1 := hide (fun W => few_is ao l.length ca true (by simpa using ha) W)
  have F2 := hide (fun W => few_is bo m.length cb true (by simpa using hb) W)
  have HA := hide hA
  have HM := hide hM
  have HCA := hide hCA
  have HCB := hide hCB
  have HBD := hide hbad
  have HT := hide hT
  have hsame : Hid (∀ W o p c d, Co.slot W o l → Co.slot W p l → Calls Tryd.prog 30 #[.slice o l.length c, .slice p l.length d] W fun e w' => e = .returned (.bool true) ∧ Below W.heap.size W w') := fun W o p c d h1 h2 => refSame_is o p c d l l true (by simp) W h1 h2 (by omega) (by omega)
  have hsame2 : Hid (∀ W o p c d, Co.slot W o m → Co.slot W p m → Calls Tryd.prog 30 #[.slice o m.length c, .slice p m.length d] W fun e w' => e = .returned (.bool true) ∧ Below W.heap.size W w') := fun W o p c d h1 h2 => refSame_is o p c d m m true (by simp) W h1 h2 (by omega) (by omega)
  have hsame0 : Hid (∀ W, Calls Tryd.prog 30 #[.slice none 0 0, .slice none 0 0] W fun e w' => e = .returned (.bool true) ∧ Below W.heap.size W w') := fun W => refSame_is none none 0 0 [] [] true (by simp) W (.inl rfl) (.inl rfl) (by decide) (by decide)
  clear hT hA hM hCA hCB hbad
  go_enter Tryd.func5, Tryd.ntmps5
  go_wp2_with fail
  refine (F1.out _).mono ?_
  rintro e w1 ⟨rfl, rfl⟩
  go_wp2_with fail
  refine (F2.out _).mono ?_
  rintro e w1 ⟨rfl, rfl⟩
  go_wp2_with (at_builtin; go_must (refine append_list (w0 := w1) rfl _ _ rfl _ 0 [] rfl (World.ownsRow_nil _ _ _ _) ao ca l rfl HA.out HCA.out (by omega) (brefl w1) ?_))
  intro v2 w2 hn2 hb2
  obtain ⟨wo, wc, rfl⟩ := row_slice hn2
  have SW2 := hide (Co.slot_own hn2)
  have B2 := hide hb2
  clear hn2 hb2
  go_wp2_with (at_builtin; go_must (refine append_list (w0 := w2) rfl _ _ rfl _ 0 [] rfl (World.ownsRow_nil _ _ _ _) bo cb m rfl (Co.slot_below HM.out B2.out) HCB.out (by omega) (brefl w2) ?_))
  intro v3 w3 hn3 hb3
  obtain ⟨ho, hc, rfl⟩ := row_slice hn3
  have SH3 := hide (Co.slot_own hn3)
  have SW3 := hide (Co.slot_below SW2.out hb3)
  have B3 := hide (bthen B2.out hb3)
  clear hn3 hb3
  go_wp2_with fail
  refine (HBD.out.1 _ (Co.slot_below HA.out B3.out) (Co.slot_below HM.out B3.out)).mono ?_
  rintro e w4 ⟨rfl, hb4⟩
  have SH4 := hide (Co.slot_below SH3.out hb4)
  have SW4 := hide (Co.slot_below SW3.out hb4)
  have B4 := hide (bthen B3.out hb4)
  clear hb4
  go_wp2_with fail
  refine (HBD.out.2 _ wo ho wc hc SW4.out SH4.out).mono ?_
  rintro e w5 ⟨rfl, hb5⟩
  have SH5 := hide (Co.slot_below SH4.out hb5)
  have SW5 := hide (Co.slot_below SW4.out hb5)
  have B5 := hide (bthen B4.out hb5)
  clear hb5
  go_wp2_with fail
  go_loopw [11] (fun v wr => v = .int .i64 0 ∧ Below w5.heap.size w5 wr) (fun _ _ => 0)
  case atStart => exact ⟨rfl, brefl w5⟩
  case round =>
    obtain ⟨rfl, hbr⟩ := hrel
    have SH6 := hide (Co.slot_below SH5.out hbr)
    have SW6 := hide (Co.slot_below SW5.out hbr)
    have B6 := hide (bthen B5.out hbr)
    clear hbr
    go_wp2_with fail
    refine (hsame.out _ ao wo ca wc (Co.slot_below HA.out B6.out) SW6.out).mono ?_
    rintro e w7 ⟨rfl, hb7⟩
    have SH7 := hide (Co.slot_below SH6.out hb7)
    have B7 := hide (bthen B6.out hb7)
    clear hb7
    go_wp2_with fail
    refine (hsame2.out _ bo ho cb hc (Co.slot_below HM.out B7.out) SH7.out).mono ?_
    rintro e w8 ⟨rfl, hb8⟩
    have B8 := hide (bthen B7.out hb8)
    clear hb8
    go_wp2_with fail
    go_loopw [13] (fun v wr => v = .int .i64 0 ∧ Below w8.heap.size w8 wr) (fun _ _ => 0)
    case atStart => exact ⟨rfl, brefl w8⟩
    case round =>
      obtain ⟨rfl, hbr⟩ := hrel
      have B9 := hide (bthen B8.out hbr)
      clear hbr
      go_wp2_with fail
      refine (hsame0.out _).mono ?_
      rintro e w10 ⟨rfl, hb10⟩
      have B10 := hide (bthen B9.out hb10)
      clear hb10
      go_wp2_with fail
      refine (lives_is _ (HT.out.on B10.out)).mono ?_
      rintro e w11 ⟨rfl, hb11⟩
      go_wp2_with fail
      go_ret
      exact ⟨rfl, bthen B10.out hb11⟩

theorem both_bad_set (ao bo : Option Addr) (ca cb : Nat) (l m : List Co.C) (ha : l.length ≤ 200) (hs : Co.set l = false) : BothBad ao bo ca cb l m :=
  ⟨fun W h1 _ => add_bad1 ao bo ca cb m.length l W h1 hs, fun W o p c d h1 _ => refAdd_bad1 o p c d m.length l W h1 hs ha⟩
theorem both_bad_may (ao bo : Option Addr) (ca cb : Nat) (l m : List Co.C) (hb : m.length ≤ 200) (hs : Co.set l = true) (hm : (m.any fun x => !Co.may x) = true) : BothBad ao bo ca cb l m :=
  ⟨fun W h1 h2 => add_bad2 ao bo ca cb l m W h1 h2 hs hm (by omega), fun W o p c d h1 h2 => refAdd_bad2 o p c d l m W h1 h2 hs hm hb⟩

theorem Co.uni_may {l m x : List Co.C} (h : Co.uni l m x) (hs : Co.set l = true) (hm : (m.any fun x => !Co.may x) = false) : ∀ c ∈ x, Co.may c = true := by
  intro c hc
  rcases (h.2 c).1 hc with h1 | h1
  · obtain ⟨j, hj, rfl⟩ := List.getElem_of_mem h1
    have := ((Co.set_iff l).1 hs).2 j hj
    unfold Co.okAt at this
    rw [Co.bang l j hj, Bool.and_eq_true] at this
    exact this.1
  · rw [List.any_eq_false] at hm
    have := hm c h1
    simpa using this

set_option maxHeartbeats 8000000 in
set_option maxRecDepth 100000 in
theorem adds_good (ao bo : Option Addr) (ca cb : Nat) (l m : List Co.C) (w : World) (hT : Tab w) (hA : Co.slot w ao l) (hM : Co.slot w bo m) (hCA : Co.came ao ca) (hCB : Co.came bo cb) (hb : m.length ≤ 200) (hs : Co.set l = true) (hm : (m.any fun x => !Co.may x) = false) :
    Calls Tryd.prog 5 #[.slice ao l.length ca, .slice bo m.length cb] w fun e w' => e = .returned (.bool true) ∧ Below w.heap.size w w' := by
  have ha : l.length ≤ 8 := ((Co.set_iff l).1 hs).1
  have F1 := hide (fun W => few_is ao l.length ca true (by simp; omega) W)
  have F2 := hide (fun W => few_is bo m.length cb true (by simpa using hb) W)
  have HA := hide hA
  have HM := hide hM
  have HCA := hide hCA
  have HCB := hide hCB
  have HS := hide hs
  have HMY := hide hm
  have HT := hide hT
  have hsame : Hid (∀ W o p c d, Co.slot W o l → Co.slot W p l → Calls Tryd.prog 30 #[.slice o l.length c, .slice p l.length d] W fun e w' => e = .returned (.bool true) ∧ Below W.heap.size W w') := fun W o p c d h1 h2 => refSame_is o p c d l l true (by simp) W h1 h2 (by omega) (by omega)
  have hsame2 : Hid (∀ W o p c d, Co.slot W o m → Co.slot W p m → Calls Tryd.prog 30 #[.slice o m.length c, .slice p m.length d] W fun e w' => e = .returned (.bool true) ∧ Below W.heap.size W w') := fun W o p c d h1 h2 => refSame_is o p c d m m true (by simp) W h1 h2 (by omega) (by omega)
  clear hT hA hM hCA hCB hs hm
  go_enter Tryd.func5, Tryd.ntmps5
  go_wp2_with fail
  refine (F1.out _).mono ?_
  rintro e w1 ⟨rfl, rfl⟩
  go_wp2_with fail
  refine (F2.out _).mono ?_
  rintro e w1 ⟨rfl, rfl⟩
  go_wp2_with (at_builtin; go_must (refine append_list (w0 := w1) rfl _ _ rfl _ 0 [] rfl (World.ownsRow_nil _ _ _ _) ao ca l rfl HA.out HCA.out (by omega) (brefl w1) ?_))
  intro v2 w2 hn2 hb2
  obtain ⟨wo, wc, rfl⟩ := row_slice hn2
  have SW2 := hide hn2
  have B2 := hide hb2
  clear hn2 hb2
  go_wp2_with (at_builtin; go_must (refine append_list (w0 := w2) rfl _ _ rfl _ 0 [] rfl (World.ownsRow_nil _ _ _ _) bo cb m rfl (Co.slot_below HM.out B2.out) HCB.out (by omega) (brefl w2) ?_))
  intro v3 w3 hn3 hb3
  obtain ⟨ho, hc, rfl⟩ := row_slice hn3
  have SH3 := hide (Co.slot_own hn3)
  have SW3 := hide (row_below SW2.out hb3)
  have B3 := hide (bthen B2.out hb3)
  clear hn3 hb3
  go_wp2_with fail
  refine (add_good ao bo ca cb l m w3 (Co.slot_below HA.out B3.out) (Co.slot_below HM.out B3.out) HCA.out HCB.out HS.out HMY.out (by omega)).mono ?_
  rintro e w4 ⟨x, xo, xc, hux, hcx, hwx, hb4, hcase⟩
  have HUX := hide hux
  have HWX := hide hwx
  have SH4 := hide (Co.slot_below SH3.out hb4)
  have SW4 := hide (Co.sl_own (row_below SW3.out hb4))
  have HWB : Hid (∀ ad, wo = some ad → ad.block < w3.heap.size) := by
    show ∀ ad, _
    intro ad had
    rcases SW3.out.2 with ⟨hv, _⟩ | ⟨g, cap', cur, hv, _, hg, _⟩
    · simp only [Value.slice.injEq] at hv
      rw [hv.1] at had; cases had
    · simp only [Value.slice.injEq] at hv
      rw [hv.1] at had; cases had
      exact heap_lt hg
  have B4 := hide (bthen B3.out hb4)
  have B34 := hide hb4
  clear hux hcx hwx hb4
  have CR := hide (fun W (hW : Below w4.heap.size w4 W) => refAdd_good wo ho wc hc l m W (Co.sl_below SW4.out hW) (Co.slot_below SH4.out hW) HS.out HMY.out hb)
  rcases hcase with ⟨hx8, rfl⟩ | ⟨hx8, rfl⟩
  · go_wp2_with fail
    refine (CR.out _ (brefl w4)).mono ?_
    rintro e w5 ⟨y, o, n, huy, hsy, hby, hb5, hcase⟩
    obtain rfl : x = y := Co.rises_eq x y HUX.out.1 huy.1 fun c => (HUX.out.2 c).trans (huy.2 c).symm
    rcases hcase with ⟨_, rfl⟩ | ⟨h8, _⟩
    · have SY5 := hide hsy
      have HST := hide (FlipSt.start (Co.wrow_below HWX.out hb5) Co.fl)
      have SH5 := hide (Co.slot_below SH4.out hb5)
      have SW5 := hide (Co.slot_below SW4.out.1 hb5)
      have B5 := hide (bthen B4.out hb5)
      have B35 := hide (bthen B34.out hb5)
      have HNE : Hid (∀ g, xo = some ⟨g, 0, none⟩ → x ≠ [] → ∀ ad, o = some ad → ad.block ≠ g) := by
        show ∀ g, _
        intro g hg hx0 ad had
        rcases HWX.out with h | ⟨g', h1, h2, h3⟩
        · exact absurd h hx0
        · rw [hg] at h1
          cases h1
          rcases hby with h | h
          · have := HWB.out ad (by rw [← h]; exact had)
            omega
          · have h4 := h ad had
            have h5 : g < w4.heap.size := block_lt_of_cell (h3 0 (by
              have := List.length_pos_iff.2 hx0
              simpa using this)).1
            omega
      have HFX : Hid (∀ k, k < x.length → Co.fx (Co.fx (x[k]!).2) = (x[k]!).2) := by
        show ∀ k, _
        intro k hk
        have hmay := Co.uni_may HUX.out HS.out HMY.out x[k] (List.getElem_mem hk)
        rw [Co.bang x k hk]
        have hr := (Co.may_iff x[k].1 x[k].2).1 hmay
        exact fx_fx _ (by omega) (by omega)
      have HB3 : Hid (w3.heap.size ≤ w5.heap.size) := B35.out.size
      clear hby hsy hb5 huy CR
      go_wp2_with fail
      go_loopw [11] (fun v wr => ∃ k : Nat, v = .int .i64 k ∧ k ≤ x.length ∧ FlipSt w3.heap.size w5 xo x Co.fl id k wr) (fun v _ => x.length - (intOf v).toNat)
      case atStart => exact ⟨0, rfl, Nat.zero_le _, HST.out⟩
      case round =>
        clear HST
        obtain ⟨k, rfl, hk, hst⟩ := hrel
        by_cases hkl : k < x.length
        · have hkl' : (k : Int) < (x.length : Int) := by omega
          obtain ⟨g, rfl, c1, f1, hnx⟩ := hst.round hkl (fun _ => rfl) (fun _ => rfl)
          have HNX := hide hnx
          simp only [id, Co.fl, Co.fx] at c1 HNX
          clear hst hnx
          generalize (x[k]!).2 = z at c1 HNX
          go_wp2_with fail
          exact ⟨⟨k + 1, by go_num, by omega, HNX.out⟩, by simp [intOf] <;> omega⟩
        · have hkl' : ¬ (k : Int) < (x.length : Int) := by omega
          obtain rfl : k = x.length := by omega
          have HST := hide hst
          have BB := hide (B35.out.trans hst.1)
          have B6 := hide (bthen B3.out BB.out)
          clear hst
          go_wp2_with fail
          refine (hsame.out _ ao wo ca wc (Co.slot_below HA.out B6.out) (Co.slot_below (Co.slot_own SW3.out) BB.out)).mono ?_
          rintro e w7 ⟨rfl, hb7⟩
          have HST7 := hide (HST.out.below HB3.out hb7)
          have BB7 := hide (bthen BB.out hb7)
          have B7 := hide (bthen B6.out hb7)
          clear hb7
          go_wp2_with fail
          refine (hsame2.out _ bo ho cb hc (Co.slot_below HM.out B7.out) (Co.slot_below SH3.out BB7.out)).mono ?_
          rintro e w8 ⟨rfl, hb8⟩
          have HST8 : Hid (FlipSt w3.heap.size w5 xo x id Co.fl 0 w8) := (HST7.out.below HB3.out hb8).turn rfl
          clear hb8 HST HST7 BB BB7 B6 B7
          go_wp2_with fail
          go_loopw [13] (fun v wr => ∃ k : Nat, v = .int .i64 k ∧ k ≤ x.length ∧ FlipSt w3.heap.size w5 xo x id Co.fl k wr) (fun v _ => x.length - (intOf v).toNat)
          case atStart => exact ⟨0, rfl, Nat.zero_le _, HST8.out⟩
          case round =>
            clear HST8
            obtain ⟨k, rfl, hk, hst⟩ := hrel
            by_cases hkl : k < x.length
            · have hkl' : (k : Int) < (x.length : Int) := by omega
              obtain ⟨g, rfl, c1, f1, hnx⟩ := hst.round hkl (fun _ => rfl) (fun _ => rfl)
              have HNX := hide hnx
              have hxx := HFX.out k hkl
              simp only [id, Co.fl, Co.fx] at c1 HNX hxx
              clear hst hnx
              generalize (x[k]!).2 = z at c1 HNX hxx
              go_wp2_with fail
              exact ⟨⟨k + 1, by go_num, by omega, HNX.out⟩, by simp [intOf] <;> omega⟩
            · have hkl' : ¬ (k : Int) < (x.length : Int) := by omega
              obtain rfl : k = x.length := by omega
              have SX := hide hst.done
              have SY : Hid (Co.slot wr o x) := by
                by_cases hx0 : x = []
                · exact .inl hx0
                · exact hst.slot SY5.out (fun g hg => HNE.out g hg hx0)
              have B9 := hide (bthen B3.out (B35.out.trans hst.1))
              clear hst
              have CSM := hide (refSame_is xo o xc n x x true (by simp) wr SX.out SY.out (by omega) (by omega))
              go_wp2_with fail
              refine CSM.out.mono ?_
              rintro e w10 ⟨rfl, hb10⟩
              have B10 := hide (bthen B9.out hb10)
              clear hb10 CSM
              go_wp2_with fail
              refine (lives_is _ (HT.out.on B10.out)).mono ?_
              rintro e w11 ⟨rfl, hb11⟩
              go_wp2_with fail
              go_ret
              exact ⟨rfl, bthen B10.out hb11⟩
    · exact absurd h8 (by omega)
  · go_wp2_with fail
    refine (CR.out _ (brefl w4)).mono ?_
    rintro e w5 ⟨y, o, n, huy, hsy, hby, hb5, hcase⟩
    obtain rfl : x = y := Co.rises_eq x y HUX.out.1 huy.1 fun c => (HUX.out.2 c).trans (huy.2 c).symm
    rcases hcase with ⟨h8, _⟩ | ⟨_, rfl⟩
    · exact absurd h8 (by omega)
    · have SH5 := hide (Co.slot_below SH4.out hb5)
      have SW5 := hide (Co.slot_below SW4.out.1 hb5)
      have B5 := hide (bthen B4.out hb5)
      have hsame0 : Hid (∀ W, Calls Tryd.prog 30 #[.slice none 0 0, .slice none 0 0] W fun e w' => e = .returned (.bool true) ∧ Below W.heap.size W w') := fun W => refSame_is none none 0 0 [] [] true (by simp) W (.inl rfl) (.inl rfl) (by decide) (by decide)
      clear hby hsy hb5 huy CR
      go_wp2_with fail
      go_loopw [11] (fun v wr => v = .int .i64 0 ∧ Below w5.heap.size w5 wr) (fun _ _ => 0)
      case atStart => exact ⟨rfl, brefl w5⟩
      case round =>
        obtain ⟨rfl, hbr⟩ := hrel
        have SH6 := hide (Co.slot_below SH5.out hbr)
        have SW6 := hide (Co.slot_below SW5.out hbr)
        have B6 := hide (bthen B5.out hbr)
        clear hbr
        go_wp2_with fail
        refine (hsame.out _ ao wo ca wc (Co.slot_below HA.out B6.out) SW6.out).mono ?_
        rintro e w7 ⟨rfl, hb7⟩
        have SH7 := hide (Co.slot_below SH6.out hb7)
        have B7 := hide (bthen B6.out hb7)
        clear hb7
        go_wp2_with fail
        refine (hsame2.out _ bo ho cb hc (Co.slot_below HM.out B7.out) SH7.out).mono ?_
        rintro e w8 ⟨rfl, hb8⟩
        have B8 := hide (bthen B7.out hb8)
        clear hb8
        go_wp2_with fail
        go_loopw [13] (fun v wr => v = .int .i64 0 ∧ Below w8.heap.size w8 wr) (fun _ _ => 0)
        case atStart => exact ⟨rfl, brefl w8⟩
        case round =>
          obtain ⟨rfl, hbr⟩ := hrel
          have B9 := hide (bthen B8.out hbr)
          clear hbr
          go_wp2_with fail
          refine (hsame0.out _).mono ?_
          rintro e w10 ⟨rfl, hb10⟩
          have B10 := hide (bthen B9.out hb10)
          clear hb10
          go_wp2_with fail
          refine (lives_is _ (HT.out.on B10.out)).mono ?_
          rintro e w11 ⟨rfl, hb11⟩
          go_wp2_with fail
          go_ret
          exact ⟨rfl, bthen B10.out hb11⟩

theorem adds_law (ao bo : Option Addr) (ca cb : Nat) (l m : List Co.C) (w : World) (hT : Tab w) (hA : Co.slot w ao l) (hM : Co.slot w bo m) (hCA : Co.came ao ca) (hCB : Co.came bo cb) :
    Calls Tryd.prog 5 #[.slice ao l.length ca, .slice bo m.length cb] w fun e w' => e = .returned (.bool true) ∧ Below w.heap.size w w' := by
  by_cases ha : l.length ≤ 200
  · by_cases hb : m.length ≤ 200
    · cases hs : Co.set l
      · exact adds_bad ao bo ca cb l m w hT hA hM hCA hCB ha hb (both_bad_set ao bo ca cb l m ha hs)
      · cases hm : (m.any fun x => !Co.may x)
        · exact adds_good ao bo ca cb l m w hT hA hM hCA hCB hb hs hm
        · exact adds_bad ao bo ca cb l m w hT hA hM hCA hCB ha hb (both_bad_may ao bo ca cb l m hb hs hm)
    · exact adds_long ao bo ca cb _ _ w hT (.inr ⟨ha, by omega⟩)
  · exact adds_long ao bo ca cb _ _ w hT (.inl (by omega))
end Go.Proofs.YtgebfgjeckdngaaDoor
