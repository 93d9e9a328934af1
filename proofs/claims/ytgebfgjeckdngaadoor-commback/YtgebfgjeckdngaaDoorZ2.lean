/- The law CommBack walked. -/
import Derived.Test.YtgebfgjeckdngaaDoorZ1
namespace Go.Proofs.YtgebfgjeckdngaaDoor
open Go.RowKit Go.Sort Go.Lib

set_option maxHeartbeats 4000000 in
theorem back_long (ao bo : Option Addr) (ca cb na nb : Nat) (c d : Int) (w : World) (hT : Tab w) (h : 200 < na ∨ (na ≤ 200 ∧ 200 < nb)) :
    Calls Tryd.prog 7 #[.slice ao na ca, .slice bo nb cb, .agg #[.int .i64 c, .int .i64 d]] w fun e w' => e = .returned (.bool true) ∧ Below w.heap.size w w' := by
  have B0 := hide (balloc (brefl w) (.cells #[.int .i64 c, .int .i64 d] 23))
  have HT := hide (hT.on B0.out)
  clear hT
  rcases h with h | ⟨h1, h⟩
  · have F1 := hide (fun W => few_is ao na ca false (by simp; omega) W)
    clear h
    go_enter Tryd.func7, Tryd.ntmps7
    go_wp2_with fail
    generalize w.alloc (.cells #[.int .i64 c, .int .i64 d] 23) = W0 at *
    refine (F1.out _).mono ?_
    rintro e w1 ⟨rfl, rfl⟩
    go_wp2_with fail
    refine (lives_is _ HT.out).mono ?_
    rintro e w2 ⟨rfl, hb2⟩
    go_wp2_with fail
    go_ret
    exact ⟨rfl, bthen B0.out hb2⟩
  · have F1 := hide (fun W => few_is ao na ca true (by simp; omega) W)
    have F2 := hide (fun W => few_is bo nb cb false (by simp; omega) W)
    clear h h1
    go_enter Tryd.func7, Tryd.ntmps7
    go_wp2_with fail
    generalize w.alloc (.cells #[.int .i64 c, .int .i64 d] 23) = W0 at *
    refine (F1.out _).mono ?_
    rintro e w1 ⟨rfl, rfl⟩
    go_wp2_with fail
    refine (F2.out _).mono ?_
    rintro e w1 ⟨rfl, rfl⟩
    go_wp2_with fail
    refine (lives_is _ HT.out).mono ?_
    rintro e w2 ⟨rfl, hb2⟩
    go_wp2_with fail
    go_ret
    exact ⟨rfl, bthen B0.out hb2⟩

set_option maxHeartbeats 4000000 in
theorem back_bad (ao bo : Option Addr) (ca cb na nb : Nat) (c d q : Int) (hq : (q != 0) = true) (w : World) (hT : Tab w) (ha : na ≤ 200) (hb : nb ≤ 200)
    (hbad : ∀ W, Below w.heap.size w W → Calls Tryd.prog 28 #[.slice ao na ca, .slice bo nb cb] W fun e w' => e = .returned (.tuple #[.slice none 0 0, .int .i64 q]) ∧ Below W.heap.size W w') :
    Calls Tryd.prog 7 #[.slice ao na ca, .slice bo nb cb, .agg #[.int .i64 c, .int .i64 d]] w fun e w' => e = .returned (.bool true) ∧ Below w.heap.size w w' := by
  have B0 := hide (balloc (brefl w) (.cells #[.int .i64 c, .int .i64 d] 23))
  have HT := hide hT
  have HBD := hide hbad
  have F1 := hide (fun W => few_is ao na ca true (by simpa using ha) W)
  have F2 := hide (fun W => few_is bo nb cb true (by simpa using hb) W)
  clear hT hbad ha hb
  go_enter Tryd.func7, Tryd.ntmps7
  go_wp2_with fail
  generalize w.alloc (.cells #[.int .i64 c, .int .i64 d] 23) = W0 at *
  refine (F1.out _).mono ?_
  rintro e w1 ⟨rfl, rfl⟩
  go_wp2_with fail
  refine (F2.out _).mono ?_
  rintro e w1 ⟨rfl, rfl⟩
  go_wp2_with fail
  refine (HBD.out _ B0.out).mono ?_
  rintro e w2 ⟨rfl, hb2⟩
  have B2 := hide (bthen B0.out hb2)
  clear hb2
  go_wp2_with fail
  refine (lives_is _ (HT.out.on B2.out)).mono ?_
  rintro e w3 ⟨rfl, hb3⟩
  go_wp2_with fail
  go_ret
  exact ⟨rfl, bthen B2.out hb3⟩

set_option maxHeartbeats 16000000 in
set_option maxRecDepth 100000 in
theorem back_good (ao bo : Option Addr) (ca cb : Nat) (l m : List Co.C) (c d : Int) (w : World) (hT : Tab w) (hA : Co.slot w ao l) (hM : Co.slot w bo m) (hCA : Co.came ao ca) (hCB : Co.came bo cb) (hb : m.length ≤ 200) (hs : Co.set l = true) (hm : (m.any fun x => !Co.may x) = false) :
    Calls Tryd.prog 7 #[.slice ao l.length ca, .slice bo m.length cb, .agg #[.int .i64 c, .int .i64 d]] w fun e w' => e = .returned (.bool true) ∧ Below w.heap.size w w' := by
  have ha : l.length ≤ 8 := ((Co.set_iff l).1 hs).1
  have B0 := hide (balloc (brefl w) (.cells #[.int .i64 c, .int .i64 d] 23))
  have T0 := hide (two_new w c d 23)
  have F1 := hide (fun W => few_is ao l.length ca true (by simp; omega) W)
  have F2 := hide (fun W => few_is bo m.length cb true (by simpa using hb) W)
  obtain ⟨i, hi⟩ : ∃ i, Co.inL m (c, d) = i := ⟨_, rfl⟩
  obtain ⟨j, hj⟩ : ∃ j, Co.inL l (c, d) = j := ⟨_, rfl⟩
  have hhl : Co.has l (c, d) = j := by unfold Co.has; rw [hs, hj]; rfl
  have CI := hide (fun W (hW : Below w.heap.size w W) => refIn_is bo cb m c d i hi W (Co.slot_below hM hW) (by omega))
  have CHL := hide (fun W (hW : Below w.heap.size w W) => has_is ao ca l c d j hhl W (Co.slot_below hA hW) (by omega))
  have CA := hide (fun W (hW : Below w.heap.size w W) => add_good ao bo ca cb l m W (Co.slot_below hA hW) (Co.slot_below hM hW) hCA hCB hs hm (by omega))
  have HM := hide hM
  have HS := hide hs
  have HMY := hide hm
  have HIJ : Hid (∀ x, Co.uni l m x → Co.inL x (c, d) = (i || j)) := fun x h => by rw [Co.inL_uni h, hi, hj]
  have HIN := hide hi
  have HT := hide hT
  clear hT hA hM hCA hCB hs hm hi hj hhl
  go_enter Tryd.func7, Tryd.ntmps7
  go_wp2_with fail
  generalize w.alloc (.cells #[.int .i64 c, .int .i64 d] 23) = W0 at *
  generalize hRR : w.heap.size = R at T0 ⊢
  have HRR := hide hRR
  clear hRR
  refine (F1.out _).mono ?_
  rintro e w1 ⟨rfl, rfl⟩
  go_wp2_with fail
  refine (F2.out _).mono ?_
  rintro e w1 ⟨rfl, rfl⟩
  go_wp2_with fail
  refine (CA.out _ B0.out).mono ?_
  rintro e w2 ⟨x, xo, xc, hux, hcx, hwx, hb2, hcase⟩
  have HUX := hide hux
  have HCX := hide hcx
  have SX2 := hide (Co.wrow_slot hwx)
  have T2 := hide (two_below hb2 T0.out)
  have B2 := hide (bthen B0.out hb2)
  have HMX := hide (Co.may_all hux HS.out HMY.out)
  have hinx := HIJ.out x hux
  clear hux hcx hwx hb2 CA HIJ
  rcases hcase with ⟨hx8, rfl⟩ | ⟨hx8, rfl⟩
  · have hsx := Co.set_rises HUX.out.1 HMX.out hx8
    have HSX := hide hsx
    have hhx : Co.has x (c, d) = (i || j) := by unfold Co.has; rw [hsx, hinx]; rfl
    obtain ⟨dl, hdl⟩ : ∃ dl, dl = x.filter fun c => !Co.inL m c := ⟨_, rfl⟩
    have hsd : Co.set dl = true := by
      rw [hdl]
      exact Co.set_rises (Co.rises_filt _ HUX.out.1) (fun c hc => HMX.out c (List.mem_filter.1 hc).1) (Nat.le_trans (List.length_filter_le _ _) hx8)
    have hdl8 : dl.length ≤ 8 := ((Co.set_iff dl).1 hsd).1
    have hhd : Co.has dl (c, d) = (!i && j) := by
      unfold Co.has
      rw [hsd, hdl, Co.inL_filt, hinx, HIN.out]
      cases i <;> rfl
    have HDL := hide hdl
    have HHX := hide hhx
    have HHD := hide hhd
    have HSD := hide hsd
    clear hsx hhx hinx hdl hsd hhd
    go_wp2_with fail
    go_loopw [9, 10] (fun v9 v10 wr => ∃ (k : Nat) (o : Option Addr) (n : Nat) (iv : Int), v9 = .slice o k n ∧ v10 = .int .i64 iv ∧ iv = (m.length : Int) - 1 - (k : Int) ∧ k ≤ m.length ∧ wr.ownsRow w2.heap.size 23 2 (.slice o k n) k (Co.cells (m.reverse.take k)) ∧ Below w2.heap.size w2 wr) (fun v9 v10 _ => (intOf v10 + 1).toNat)
    case atStart => exact ⟨0, none, 0, _, rfl, rfl, by omega, Nat.zero_le _, World.ownsRow_nil _ _ _ _, brefl w2⟩
    case round =>
      obtain ⟨k, o, n, iv, rfl, rfl, hiv, hk, hown, hbr⟩ := hrel
      have HO := hide hown
      have HBR := hide hbr
      have BW := hide (bthen B2.out hbr)
      clear hown hbr
      by_cases hkl : k < m.length
      · obtain ⟨jj, hjj⟩ : ∃ jj, m.length = k + 1 + jj := ⟨m.length - 1 - k, by omega⟩
        have hij : iv = (jj : Int) := by omega
        have hjm : jj < m.length := by omega
        have hjm' : (jj : Int) < (m.length : Int) := by omega
        have HRT := hide (Co.rev_take m k jj hjj)
        subst hij
        obtain ⟨b, off, hbo, hrd⟩ := Co.slot_at (Co.slot_below HM.out BW.out) hjm
        obtain ⟨e0, e1⟩ := Co.reads_at hrd jj hjm
        subst hbo
        have HEQ : Hid ((jj : Int) - 1 = (m.length : Int) - 1 - ((k + 1 : Nat) : Int)) := by show _ = _; omega
        clear hrd hiv
        generalize m.reverse.take k = XS at HO HRT
        generalize hXN : m.reverse.take (k + 1) = XN at HRT
        have HXN := hide hXN
        clear hXN
        generalize m[jj] = u at e0 e1 HRT
        obtain ⟨u0, u1⟩ := u
        clear hjj
        go_wp2_with (at_builtin; go_must (refine append_list (w0 := w2) rfl _ _ rfl _ k XS rfl (HO.out.alloc _) (some ⟨wr.heap.size, 0, none⟩) 1 [(u0, u1)] rfl (Co.slot_one _ _ _ _ (two_new wr u0 u1 23)) (came_some _ _ _) (by simp; omega) (balloc HBR.out _) ?_))
        intro v' w3 hnew hb3
        obtain ⟨no, nc, rfl⟩ := row_slice hnew
        have HNW := hide hnew
        have B3 := hide hb3
        clear hnew hb3 e0 e1
        go_wp2_with fail
        refine ⟨⟨k + 1, no, nc, (jj : Int) - 1, rfl, by go_num, HEQ.out, by omega, ?_, B3.out⟩, by simp [intOf] <;> omega⟩
        rw [HXN.out, HRT.out]
        exact HNW.out
      · have hkE : k = m.length := by omega
        subst hkE
        have hineg : iv = -1 := by omega
        subst hineg
        have hrt : m.reverse.take m.length = m.reverse := List.take_of_length_le (by simp)
        rw [hrt] at HO
        have SBK := hide (Co.sl_own HO.out)
        have SX3 := hide (Co.slot_below SX2.out HBR.out)
        have T3 := hide (two_below HBR.out T2.out)
        have hrl : Hid (m.length = m.reverse.length) := by show _ = _; simp
        have CA2 := hide (add_good xo o xc n x m.reverse wr SX3.out SBK.out.1 HCX.out SBK.out.2.1 HSX.out (Co.any_rev HMY.out) (by simp; omega))
        rw [← hrl.out] at CA2
        clear hrt
        go_wp2_with fail
        refine CA2.out.mono ?_
        rintro e w4 ⟨y, yo, yc, huy, hcy, hwy, hb4, hcase⟩
        obtain rfl := Co.uni_back HUX.out huy
        rcases hcase with ⟨_, rfl⟩ | ⟨h8, _⟩
        · have SY4 := hide (Co.wrow_slot hwy)
          have SX4 := hide (Co.slot_below SX3.out hb4)
          have T4 := hide (two_below hb4 T3.out)
          have B4 := hide (bthen BW.out hb4)
          clear hb4 huy hcy hwy CA2 SBK HO
          have CD := hide (del_good xo bo xc cb y m dl HDL.out w4 SX4.out (Co.slot_below HM.out B4.out) HCX.out HSX.out (by omega))
          go_wp2_with fail
          refine CD.out.mono ?_
          rintro e w5 ⟨do_, dc, rfl, hcd, hwd, hb5⟩
          have SD5 := hide (Co.wrow_slot hwd)
          have SX5 := hide (Co.slot_below SX4.out hb5)
          have SY5 := hide (Co.slot_below SY4.out hb5)
          have T5 := hide (two_below hb5 T4.out)
          have B5 := hide (bthen B4.out hb5)
          clear hb5 hcd hwd CD
          obtain ⟨p0, p1, p2, p3⟩ := T5.out
          go_wp2_with fail
          refine (CI.out _ B5.out).mono ?_
          rintro e w6 ⟨rfl, hb6⟩
          have SD6 := hide (Co.slot_below SD5.out hb6)
          have SX6 := hide (Co.slot_below SX5.out hb6)
          have SY6 := hide (Co.slot_below SY5.out hb6)
          have T6 := hide (two_below hb6 T5.out)
          have B6 := hide (bthen B5.out hb6)
          clear hb6 p0 p1 p2 p3
          have CC := hide (compare_is xo yo xc yc y y 0 ((Co.compare_zero y y).2 rfl) w6 SX6.out SY6.out (by omega) (by omega))
          go_wp2_with fail
          refine CC.out.mono ?_
          rintro e w7 ⟨rfl, hb7⟩
          have SD7 := hide (Co.slot_below SD6.out hb7)
          have SX7 := hide (Co.slot_below SX6.out hb7)
          have T7 := hide (two_below hb7 T6.out)
          have B7 := hide (bthen B6.out hb7)
          clear hb7 CC
          go_wp2_with fail
          refine (set_is xo xc y true HSX.out _ SX7.out).mono ?_
          rintro e w8 ⟨rfl, hb8⟩
          have SD8 := hide (Co.slot_below SD7.out hb8)
          have SX8 := hide (Co.slot_below SX7.out hb8)
          have T8 := hide (two_below hb8 T7.out)
          have B8 := hide (bthen B7.out hb8)
          clear hb8
          go_wp2_with fail
          refine (set_is do_ dc dl true HSD.out _ SD8.out).mono ?_
          rintro e w9 ⟨rfl, hb9⟩
          have SD9 := hide (Co.slot_below SD8.out hb9)
          have SX9 := hide (Co.slot_below SX8.out hb9)
          have T9 := hide (two_below hb9 T8.out)
          have B9 := hide (bthen B8.out hb9)
          clear hb9
          obtain ⟨p0, p1, p2, p3⟩ := T9.out
          go_wp2_with fail
          refine (has_is xo xc y c d _ HHX.out _ SX9.out (by omega)).mono ?_
          rintro e w10 ⟨rfl, hb10⟩
          have SD10 := hide (Co.slot_below SD9.out hb10)
          have T10 := hide (two_below hb10 T9.out)
          have B10 := hide (bthen B9.out hb10)
          clear hb10 p0 p1 p2 p3
          obtain ⟨p0, p1, p2, p3⟩ := T10.out
          cases i
          · go_wp2_with fail
            refine (CHL.out _ B10.out).mono ?_
            rintro e w11 ⟨rfl, hb11⟩
            have SD11 := hide (Co.slot_below SD10.out hb11)
            have T11 := hide (two_below hb11 T10.out)
            have B11 := hide (bthen B10.out hb11)
            clear hb11 p0 p1 p2 p3
            obtain ⟨p0, p1, p2, p3⟩ := T11.out
            go_wp2_with fail
            refine (has_is do_ dc dl c d _ HHD.out _ SD11.out (by omega)).mono ?_
            rintro e w12 ⟨rfl, hb12⟩
            have T12 := hide (two_below hb12 T11.out)
            have B12 := hide (bthen B11.out hb12)
            clear hb12 p0 p1 p2 p3
            obtain ⟨p0, p1, p2, p3⟩ := T12.out
            go_wp2_with fail
            refine (CHL.out _ B12.out).mono ?_
            rintro e w13 ⟨rfl, hb13⟩
            have B13 := hide (bthen B12.out hb13)
            clear hb13 p0 p1 p2 p3
            go_wp2_with fail
            refine (lives_is _ (HT.out.on B13.out)).mono ?_
            rintro e w14 ⟨rfl, hb14⟩
            go_wp2_with fail
            go_ret
            exact ⟨rfl, bthen B13.out hb14⟩
          · go_wp2_with fail
            refine (has_is do_ dc dl c d _ HHD.out _ SD10.out (by omega)).mono ?_
            rintro e w12 ⟨rfl, hb12⟩
            have B12 := hide (bthen B10.out hb12)
            clear hb12 p0 p1 p2 p3
            go_wp2_with fail
            refine (lives_is _ (HT.out.on B12.out)).mono ?_
            rintro e w14 ⟨rfl, hb14⟩
            go_wp2_with fail
            go_ret
            exact ⟨rfl, bthen B12.out hb14⟩
        · exact absurd h8 (by omega)
  · go_wp2_with fail
    refine (lives_is _ (HT.out.on B2.out)).mono ?_
    rintro e w3 ⟨rfl, hb3⟩
    go_wp2_with fail
    go_ret
    exact ⟨rfl, bthen B2.out hb3⟩

theorem back_law (ao bo : Option Addr) (ca cb : Nat) (l m : List Co.C) (c d : Int) (w : World) (hT : Tab w) (hA : Co.slot w ao l) (hM : Co.slot w bo m) (hCA : Co.came ao ca) (hCB : Co.came bo cb) :
    Calls Tryd.prog 7 #[.slice ao l.length ca, .slice bo m.length cb, .agg #[.int .i64 c, .int .i64 d]] w fun e w' => e = .returned (.bool true) ∧ Below w.heap.size w w' := by
  by_cases ha : l.length ≤ 200
  · by_cases hb : m.length ≤ 200
    · cases hs : Co.set l
      · exact back_bad ao bo ca cb _ _ c d 1 (by decide) w hT ha hb fun W hW => add_bad1 ao bo ca cb m.length l W (Co.slot_below hA hW) hs
      · cases hm : (m.any fun x => !Co.may x)
        · exact back_good ao bo ca cb l m c d w hT hA hM hCA hCB hb hs hm
        · exact back_bad ao bo ca cb _ _ c d 1 (by decide) w hT ha hb fun W hW => add_bad2 ao bo ca cb l m W (Co.slot_below hA hW) (Co.slot_below hM hW) hs hm (by omega)
    · exact back_long ao bo ca cb _ _ c d w hT (.inr ⟨ha, by omega⟩)
  · exact back_long ao bo ca cb _ _ c d w hT (.inl (by omega))
end Go.Proofs.YtgebfgjeckdngaaDoor
