/- The reader's choices: the walk. -/
import Derived.Test.YtngfoijmknclhaaGreatDoorJ20
namespace Go.Proofs.YtngfoijmknclhaaGreatDoor.Ar
open Go.RowKit Go.Sort
/-- The world in which a choice's first row is read. -/
def inW (W : World) (b d : Nat) : World := (W.setCell ⟨b, 1, none⟩ (.int .i64 ((d : Int) + 1))).alloc zN
theorem inW_size (W : World) (b d : Nat) : (inW W b d).heap.size = W.heap.size + 1 := by rw [inW, size_alloc, size_setCell]
theorem inW_but (W : World) (b d : Nat) : But b (W.alloc zN) (inW W b d) := by
  refine ⟨rfl, rfl, rfl, by rw [inW_size, size_alloc]; exact Nat.le_refl _, fun k hk hl => ?_⟩
  rw [size_alloc] at hl
  rcases Nat.lt_or_ge k W.heap.size with h | h
  · rw [inW, heap_alloc_lt _ _ k (by rw [size_setCell]; exact h), heap_alloc_lt _ _ k h, heap_setCell_ne _ _ _ _ _ hk]
  · obtain rfl : k = W.heap.size := by omega
    have h1 := heap_alloc_new (W.setCell ⟨b, 1, none⟩ (.int .i64 ((d : Int) + 1))) zN
    rw [size_setCell] at h1
    exact h1.trans (heap_alloc_new W zN).symm
theorem Rd.deepI {w : World} {b : Nat} {r : Bs} {d : Nat} {q : Int} (h : Rd w b r d q) (d' : Nat) (v : Int) (hv : v = (d' : Int)) : Rd (w.setCell ⟨b, 1, none⟩ (.int .i64 v)) b r d' q := by
  subst hv
  exact h.deep d'
theorem inW_rd {W : World} {b : Nat} {r : Bs} {d : Nat} {q : Int} (h : Rd W b r d q) : Rd (inW W b d) b r (d + 1) q := (h.deepI (d + 1) _ (by omega)).alloc zN

set_option maxHeartbeats 32000000 in
set_option maxRecDepth 100000 in
theorem choice_walk {T : World → Prop} (K : ReadKit T) {A : Prop} {W : World} {b : Nat} {r0 : Bs} {d D : Nat} {R0 : Except Int (List (List Nd) × Bs)} {Rr : Except Int (Pn × Bs)} (hd : d < 8) (h : Rd W b r0 d 0) (hT : Ty T b W) (hI : A → InnerOk T b (d + 1) D)
    (hrow : Calls Tryz.prog 142 #[.pointer (some ⟨b, 0, none⟩)] (inW W b d) (PnPost b (inW W b d) (d + 1) Rr))
    (hst : ∀ w1 y0 y1 y2, PnPost b (inW W b d) (d + 1) Rr (.returned (.agg #[y0, y1, y2])) w1 → ChRel A b W (w1.heap.size + 1) (d + 1) D R0 ((w1.alloc (.cells #[y0, y1, y2] 136)).alloc (.cells #[.int .i64 3, .slice none 0 0, .slice (some ⟨w1.heap.size, 0, none⟩) 1 1] 136))) :
    Calls Tryz.prog 105 #[.pointer (some ⟨b, 0, none⟩)] W (PnPost b W d (chP R0)) := by
  have hbW := h.lt
  have hne0 : W.heap.size ≠ b := by omega
  have hne1 : b ≠ W.heap.size := by omega
  have hd3 : ¬ (8 : Int) < (d : Int) + 1 := by omega
  have hd4 : (d : Int) ≤ 100 := by omega
  obtain ⟨c0, c1, c2, fr⟩ := h
  have k1 := fr.2 1
  clear fr
  have HT := hide hT
  have HI := hide hI
  have CR := hide hrow
  have HST := hide hst
  clear hT hI hrow hst
  go_enter Tryz.func105, Tryz.ntmps105
  go_wp2_with fail
  change Calls Tryz.prog 142 #[.pointer (some ⟨b, 0, none⟩)] (inW W b d) _
  refine CR.out.mono ?_
  intro e w0 hp
  obtain ⟨y0, y1, y2, rfl, o0, o1, o2⟩ := pnPost_val hp
  have HS := hide (HST.out w0 y0 y1 y2 hp)
  have s0 := fun w a m => run_store Tryz.prog w a y0 m o0
  have s1 := fun w a m => run_store Tryz.prog w a y1 m o1
  have s2 := fun w a m => run_store Tryz.prog w a y2 m o2
  clear hp CR HST c0 c1 c2 k1 hd3
  go_wp2_with fail
  clear s0 s1 s2 o0 o1 o2
  obtain ⟨N, hN⟩ : ∃ N, N = w0.heap.size + 1 := ⟨_, rfl⟩
  rw [← hN] at HS ⊢
  generalize (w0.alloc (.cells #[y0, y1, y2] 136)).alloc (.cells #[.int .i64 3, .slice none 0 0, .slice (some ⟨w0.heap.size, 0, none⟩) 1 1] 136) = W1 at *
  clear hN
  go_loopw [] (fun wr => Hid (ChRel A b W N (d + 1) D R0 wr)) (fun wr => mes wr b)
  case atStart => exact HS
  case round =>
    rcases hrel.out with ⟨hA, f, r, r', acc, vU, hR, hrr, hrl, hf, hl, hal, hrd, hw, hK⟩ | ⟨v, vU, hv, hvU, hR, hrd, hw⟩
    · have HM := hide (show mes wr b = r.length + 1 by rw [hrd.mes]; simp)
      have HWY := hide hw
      have HKD := hide hK
      have HTy := hide (HT.out.but hw.but)
      have hb1 : b < W.heap.size + 1 := by omega
      obtain ⟨xs0, hxs0, hvb0, uo, uc, hvU⟩ := hK.row
      have hlen := pnRows_len acc
      rw [hlen] at hvU
      cases h124 : Px.isAt r 124 with
      | false =>
        have HR : Hid (R0 = .ok (acc, r')) := by show _ = _; rw [hR, ← isAt_cong hrr, h124]; rfl
        have HRR := hide hrr
        have HRL := hide hrl
        have CT := hide (take_is K.trims hrd 124 124 rfl false h124 (Px.skip r) (by simp))
        have hal2 : (Nd.pnRows acc).length ≤ 10000 := by omega
        clear hR hrr hrl hf hl hal hrd hw hK hrel h124 hxs0 hvb0
        subst hvU
        go_wp2_with fail
        refine CT.out.mono ?_
        rintro e w1 ⟨rfl, hB, hR1⟩
        have R2 := hide hR1
        have HW2 := hide (HWY.out.step hB)
        have HK2 := hide (HKD.out.but hB hb1)
        obtain ⟨d0, d1, d2⟩ := HW2.out.box1
        obtain ⟨e0, e1, e2⟩ := HW2.out.box0
        have fr := HW2.out.free0.2
        have f0 := fr 0
        have f1 := fr 1
        have f2 := fr 2
        have hne := HW2.out.ne0
        have hneN := HW2.out.ne1
        obtain ⟨_, g1, _, fb⟩ := R2.out
        have k1 := fb.2 1
        have hdd : ((d + 1 : Nat) : Int) = (d : Int) + 1 := by omega
        rw [hdd] at g1
        clear hB hR1 CT fr fb hdd
        have HB3 := hide ((But.refl b w1).setCell (p := ⟨b, 1, none⟩) (.inl rfl) (.int .i64 (d : Int)))
        have HW2 := hide (HW2.out.step HB3.out)
        have HK2 := hide (HK2.out.but HB3.out hb1)
        have R2 := hide (R2.out.deepI d (d : Int) rfl)
        go_wp2_with fail
        change bodyPost Tryz.prog Tryz.f105 (PnPost b W d (chP R0)) Exit.ret _ (put3 (w1.setCell ⟨b, 1, none⟩ (.int .i64 (d : Int))) W.heap.size (.int .i64 3) (.slice none 0 0) (.slice uo acc.length uc))
        refine bodyPost_ret (v := .agg #[.int .i64 3, .slice none 0 0, .slice uo acc.length uc]) (res_n Tryz.results105 _ _ W.heap.size rfl (put3_box HW2.out.box0 _ _ _)) rfl ?_
        refine pnPost_ok (n := .mk 3 [] (Nd.pnRows acc)) (k := r') (k' := Px.skip r) (by rw [HR.out]; rfl) (put3_but HW2.out.but (.inr (Nat.le_refl _)) _ _ _) ((Px.skip_idem r).trans HRR.out) (Nat.le_trans (Px.skip_suf r).length_le HRL.out) (put3_rd R2.out hne _ _ _) ?_
        have hK3 := HK2.out
        rw [← hlen] at hK3
        have hown := Kids.own (A := W.heap.size) (kd := 3) (w' := put3 (w1.setCell ⟨b, 1, none⟩ (.int .i64 (d : Int))) W.heap.size (.int .i64 3) (.slice none 0 0) (.slice uo acc.length uc)) hK3 (by omega) hal2 (by rw [put3_size]; omega) (fun k hk _ _ => put3_other _ _ _ _ _ k (by omega))
        rw [hlen] at hown
        exact hown
      | true =>
        have hnl := Px.next_len h124
        have hnn := next_cong hrr
        have h124' : Px.isAt r' 124 = true := by rw [← isAt_cong hrr]; exact h124
        obtain ⟨f, rfl⟩ : ∃ g, f = g + 1 := ⟨f - 1, by omega⟩
        have hri : R0 = _ := hR.trans (by rw [if_pos h124', ← hnn, rows_step5])
        have CT := hide (take_is K.trims hrd 124 124 rfl true h124 (Px.next r) (by simp))
        have CW := hide (fun w hR hT => row_ok K (W := w) (b := b) (r := Px.next r) (d := d + 1) (D := D) hR hT (by omega) (HI.out hA))
        have hvb : ∀ k, vU.ownBlock = some k → W.heap.size + 1 ≤ k ∧ k < wr.heap.size ∧ k ≠ N := hvb0
        have hacc : acc.length ≤ 1000 := by omega
        subst hvU
        cases hrw : Px.row (Px.choice D) ((Px.next r).length + 1) [] (Px.next r) with
        | error v =>
          have hv := row_err (choice_err D) _ _ _ _ hrw
          have HR : Hid (R0 = .error v) := by show _ = _; rw [hri, hrw]
          rw [hrw] at CW
          clear hR hrr hrl hf hl hal hrd hw hK hrel h124 h124' hxs0 hvb0 hri hrw hnn hnl
          go_wp2_with fail
          refine CT.out.mono ?_
          rintro e w1 ⟨rfl, hB, hR1⟩
          have HW1 := hide (HWY.out.step hB)
          have HK1k := hide (HKD.out.but hB hb1)
          have CI := hide (CW.out w1.drew hR1.drew ((HTy.out.but hB).but (But.of (Below.drew (brefl _)))))
          have d2 := HW1.out.box1.2.2
          have hwr1 := hB.size
          clear hB hR1 CT CW
          go_wp2_with fail
          go_region_law (first
            | (go_simp
               go_at_call 142
               refine CI.out.mono ?_
               intro e w2 hp
               obtain ⟨hB2, x0, x1, x2, hR2, ⟨o0, o1, o2⟩, rfl⟩ := hp
               have s0 := fun w a m => run_store Tryz.prog w a x0 m o0
               have s1 := fun w a m => run_store Tryz.prog w a x1 m o1
               have s2 := fun w a m => run_store Tryz.prog w a x2 m o2
               have HW2 := hide (HW1.out.drew.step hB2)
               have HK2k := hide ((HK1k.out.but (But.of (b := b) (Below.drew (brefl _))) hb1).but hB2 hb1)
               have hsw2 : w1.heap.size ≤ w2.heap.size := hB2.size
               have hl2 : N < w2.heap.size := HW2.out.lt
               have hn7 : N ≠ w2.heap.size := by omega
               have cw1 := HW2.out.box1.2.2)
            | (obtain ⟨xs, hxs, _⟩ := (HK2k.out.but (But.of (b := b) (balloc (brefl _) (.cells #[x0, x1, x2] 136))) hb1).row
               refine step_node rfl (.tmp 25) (.tmp 28) rfl (W.heap.size + 1) (.slice uo acc.length uc) acc.length xs (by simp [Act.eval]) (by simpa [hlen] using hxs) w2.heap.size 1 (by simp [Act.eval]) x0 x1 x2 (box3_new w2 _ _ _ 136) ⟨o0, o1, o2⟩ (by omega) (by have := HWY.out.hN; rw [size_alloc]; omega) _ rfl ?_
               intro g cap w3 ho hg hloc
               have HW3 := hide ((HW2.out.alloc (.cells #[x0, x1, x2] 136)).grown hg (fun k hk => by have := hvb k hk; omega))
               have cc := HW3.out.box1.2.2
               have ff := HW3.out.free1.2 2))
          all_goals
            have HR3 := hide (((hR2.alloc (.cells #[x0, x1, x2] 136)).grown hg (fun k hk => by have := hvb k hk; omega)).other (p := ⟨N, 2, none⟩) HWY.out.ne1 (.slice (some ⟨g, 0, none⟩) (acc.length + 1) cap))
            have HW4 := hide (HW3.out.set2 (.slice (some ⟨g, 0, none⟩) (acc.length + 1) cap))
            clear ho hg hloc cc ff HW3 hB2 cw1
            go_wp2_with fail
            refine ⟨.inr ⟨v, _, hv, rfl, HR.out, HR3.out, HW4.out⟩, ?_⟩
            rw [HM.out, HR3.out.mes, if_neg hv]
            exact Nat.succ_pos _
        | ok z =>
          obtain ⟨l, k⟩ := z
          have hkl := (Px.row_suf (Px.choice_suf D) _ _ _ _ _ hrw).length_le
          have HR : Hid (R0 = (if Px.isAt k 124 = true then Px.rows (Px.choice D) f (acc ++ [l]) (Px.next k) else .ok (acc ++ [l], k))) := by show _ = _; rw [hri, hrw]
          have HL : Hid (k.length ≤ f ∧ k.length ≤ 100 ∧ acc.length + 1 + k.length ≤ 1000 ∧ k.length < r.length) := by show _ ∧ _; omega
          rw [hrw] at CW
          clear hR hrr hrl hf hl hal hrd hw hK hrel h124 h124' hxs0 hvb0 hri hrw hnn hnl hkl
          go_wp2_with fail
          refine CT.out.mono ?_
          rintro e w1 ⟨rfl, hB, hR1⟩
          have HW1 := hide (HWY.out.step hB)
          have HK1k := hide (HKD.out.but hB hb1)
          have CI := hide (CW.out w1.drew hR1.drew ((HTy.out.but hB).but (But.of (Below.drew (brefl _)))))
          have d2 := HW1.out.box1.2.2
          have hwr1 := hB.size
          clear hB hR1 CT CW
          go_wp2_with fail
          go_region_law (first
            | (go_simp
               go_at_call 142
               refine CI.out.mono ?_
               intro e w2 hp
               obtain ⟨hB2, k', x0, x1, x2, hk1, hk2, hR2, hT1, rfl⟩ := hp
               obtain ⟨o0, o1, o2⟩ := Pn.one hT1.at
               have s0 := fun w a m => run_store Tryz.prog w a x0 m o0
               have s1 := fun w a m => run_store Tryz.prog w a x1 m o1
               have s2 := fun w a m => run_store Tryz.prog w a x2 m o2
               have HK1 := hide hk1
               have HK2 := hide hk2
               have HT1 := hide hT1
               clear hk1 hk2 hT1
               have HW2 := hide (HW1.out.drew.step hB2)
               have HK2k := hide ((HK1k.out.but (But.of (b := b) (Below.drew (brefl _))) hb1).but hB2 hb1)
               have hsw2 : w1.heap.size ≤ w2.heap.size := hB2.size
               have hl2 : N < w2.heap.size := HW2.out.lt
               have hn7 : N ≠ w2.heap.size := by omega
               have cw1 := HW2.out.box1.2.2)
            | (obtain ⟨xs, hxs, _⟩ := (HK2k.out.but (But.of (b := b) (balloc (brefl _) (.cells #[x0, x1, x2] 136))) hb1).row
               have HK3 := hide (HK2k.out.but (But.of (b := b) (balloc (brefl _) (.cells #[x0, x1, x2] 136))) hb1)
               refine step_node rfl (.tmp 25) (.tmp 28) rfl (W.heap.size + 1) (.slice uo acc.length uc) acc.length xs (by simp [Act.eval]) (by simpa [hlen] using hxs) w2.heap.size 1 (by simp [Act.eval]) x0 x1 x2 (box3_new w2 _ _ _ 136) ⟨o0, o1, o2⟩ (by omega) (by have := HWY.out.hN; rw [size_alloc]; omega) _ rfl ?_
               intro g cap w3 ho hg hloc
               have HW3 := hide ((HW2.out.alloc (.cells #[x0, x1, x2] 136)).grown hg (fun k hk => by have := hvb k hk; omega))
               have cc := HW3.out.box1.2.2
               have ff := HW3.out.free1.2 2))
          all_goals
            have HR3 := hide (((hR2.alloc (.cells #[x0, x1, x2] 136)).grown hg (fun k hk => by have := hvb k hk; omega)).other (p := ⟨N, 2, none⟩) HWY.out.ne1 (.slice (some ⟨g, 0, none⟩) (acc.length + 1) cap))
            have HW4 := hide (HW3.out.set2 (.slice (some ⟨g, 0, none⟩) (acc.length + 1) cap))
            have hwb := HWY.out.lt
            have hwN := HWY.out.hN
            have hw1N := HW1.out.lt
            have hT2 : Own3 (From w1.drew.heap.size w2) (w2.alloc (.cells #[x0, x1, x2] 136)) (.mk 4 [] (l.map Nd.pn)) [x0, x1, x2] := HT1.out.keep (by rw [size_alloc]; omega) (fun j hj => heap_alloc_lt _ _ j hj.2)
            have HKN := hide ((Kids.more hlen.symm HK3.out hT2 (fun j hj => by
              have hj1 := hj.1
              rw [drew_heap] at hj1
              exact ⟨by omega, by omega, fun e => by have := hvb j e; omega⟩) (by rw [size_alloc]; omega) hxs ho hg hloc).set 2 (.slice (some ⟨g, 0, none⟩) (acc.length + 1) cap))
            clear ho hg hloc cc ff HW3 hB2 cw1 hT2
            go_wp2_with fail
            have hL := HL.out
            have hk2 := HK2.out
            refine ⟨.inl ⟨hA, f, k', k, acc ++ [l], _, HR.out, HK1.out, hk2, by omega, by omega, by simp only [List.length_append, List.length_cons, List.length_nil]; omega, HR3.out, HW4.out, ?_⟩, ?_⟩
            · rw [pnRows_app]
              exact HKN.out
            · rw [HM.out, HR3.out.mes, if_pos rfl]
              omega
    · have HR := hide hR
      have HWY := hide hw
      have CT := hide (take_is K.trims hrd 124 124 rfl false rfl [] rfl)
      clear hR hw hrel hrd
      go_wp2_with fail
      refine CT.out.mono ?_
      rintro e w1 ⟨rfl, hB, hR1⟩
      have R2 := hide hR1
      have HW2 := hide (HWY.out.step hB)
      obtain ⟨d0, d1, d2⟩ := HW2.out.box1
      obtain ⟨e0, e1, e2⟩ := HW2.out.box0
      have fr := HW2.out.free0.2
      have f0 := fr 0
      have f1 := fr 1
      have f2 := fr 2
      have hne := HW2.out.ne0
      have hneN := HW2.out.ne1
      have s2 := fun w a m => run_store Tryz.prog w a vU m hvU
      obtain ⟨_, g1, _, fb⟩ := R2.out
      have k1 := fb.2 1
      have hdd : ((d + 1 : Nat) : Int) = (d : Int) + 1 := by omega
      rw [hdd] at g1
      clear hB hR1 CT fr fb hdd
      have HB3 := hide ((But.refl b w1).setCell (p := ⟨b, 1, none⟩) (.inl rfl) (.int .i64 (d : Int)))
      have HW2 := hide (HW2.out.step HB3.out)
      have R2 := hide (R2.out.deepI d (d : Int) rfl)
      go_wp2_with fail
      change bodyPost Tryz.prog Tryz.f105 (PnPost b W d (chP R0)) Exit.ret _ (put3 (w1.setCell ⟨b, 1, none⟩ (.int .i64 (d : Int))) W.heap.size (.int .i64 3) (.slice none 0 0) vU)
      refine bodyPost_ret (v := .agg #[.int .i64 3, .slice none 0 0, vU]) (res_n Tryz.results105 _ _ W.heap.size rfl (put3_box HW2.out.box0 _ _ _)) rfl ?_
      exact pnPost_err (by rw [HR.out]; rfl) (put3_but HW2.out.but (.inr (Nat.le_refl _)) _ _ _) (put3_rd R2.out hne _ _ _) ⟨rfl, rfl, hvU⟩
end Go.Proofs.YtngfoijmknclhaaGreatDoor.Ar
namespace Go.Proofs.YtngfoijmknclhaaGreatDoor.Ar
open Go.RowKit Go.Sort
def ChOk (T : World → Prop) (b d D : Nat) : Prop := ∀ (W : World) (r : Bs), Rd W b r d 0 → Ty T b W → r.length ≤ 100 → Calls Tryz.prog 105 #[.pointer (some ⟨b, 0, none⟩)] W (PnPost b W d (chP (Px.choice D r)))
theorem wy_in {b d : Nat} {W w1 : World} (hb : b < W.heap.size) (hB : But b (inW W b d) w1) (y : Obj) (x0 v1 v2 : Value) : Wy b W (w1.heap.size + 1) x0 v1 v2 ((w1.alloc y).alloc (.cells #[x0, v1, v2] 136)) := wy_late hb ((inW_but W b d).trans hB) y x0 v1 v2
theorem choice_ok {T : World → Prop} (K : ReadKit T) {b d D : Nat} (hd : d < 8) (hI : InnerOk T b (d + 1) D) : ChOk T b d (D + 1) := by
  intro W r h hT hl
  have hbW := h.lt
  refine choice_walk K (A := True) (D := D) (Rr := rowR (Px.row (Px.choice D) (r.length + 1) [] r)) hd h hT (fun _ => hI) (row_ok K (inW_rd h) (hT.but (((But.refl b W).alloc zN).trans (inW_but W b d))) hl hI) ?_
  intro w1 y0 y1 y2 hp
  have hR0 : Px.choice (D + 1) r = _ := rows_step5 (ch := Px.choice D) (f := r.length) (acc := []) (r := r)
  cases hr : Px.row (Px.choice D) (r.length + 1) [] r with
  | error v =>
    rw [hr] at hp hR0
    obtain ⟨hB, x0, x1, x2, hR1, h1, he⟩ := hp
    exact .inr ⟨v, _, row_err (choice_err D) _ _ _ _ hr, rfl, hR0, (hR1.alloc _).alloc _, wy_in hbW hB _ _ _ _⟩
  | ok z =>
    obtain ⟨l, k⟩ := z
    rw [hr] at hp hR0
    obtain ⟨hB, k', x0, x1, x2, hk1, hk2, hR1, hT1, he⟩ := hp
    simp at he
    obtain ⟨rfl, rfl, rfl⟩ := he
    have hkl := (Px.row_suf (Px.choice_suf D) _ _ _ _ _ hr).length_le
    rw [inW_size] at hT1
    have hs := hB.size
    rw [inW_size] at hs
    refine .inl ⟨trivial, r.length, k', k, [l], _, hR0, hk1, hk2, hkl, by omega, by simp; omega, (hR1.alloc _).alloc _, wy_in hbW hB _ _ _ _, ?_⟩
    have := Kids.first (N := w1.heap.size + 1) hT1 rfl hs (.cells #[.int .i64 3, .slice none 0 0, .slice (some ⟨w1.heap.size, 0, none⟩) 1 1] 136)
    simpa [Nd.pnRows_map] using this

set_option maxHeartbeats 16000000 in
set_option maxRecDepth 100000 in
/-- A ninth choice in one another. -/
theorem choice_deep5 {T : World → Prop} (K : ReadKit T) {b d : Nat} (hd : 8 ≤ d) (hd2 : d ≤ 100) : ChOk T b d 0 := by
  intro W r h hT hl
  have hbW := h.lt
  have hne0 : W.heap.size ≠ b := by omega
  have hne1 : b ≠ W.heap.size := by omega
  have hd3 : (8 : Int) < (d : Int) + 1 := by omega
  have hd4 : (d : Int) ≤ 100 := by omega
  have CF := hide (rfail_is (inW_rd h) 2 2 rfl)
  have HT := hide hT
  obtain ⟨RR, hRR⟩ : ∃ RR, RR = chP (Px.choice 0 r) := ⟨_, rfl⟩
  have HX : Hid (RR = .error 2) := hRR
  rw [← hRR]
  obtain ⟨c0, c1, c2, fr⟩ := h
  have k1 := fr.2 1
  clear fr hT hl hRR
  go_enter Tryz.func105, Tryz.ntmps105
  go_wp2_with fail
  change Calls Tryz.prog 141 #[.pointer (some ⟨b, 0, none⟩), .int .i64 2] (inW W b d) _
  refine CF.out.mono ?_
  rintro e w0 ⟨rfl, hB, hR⟩
  have hB1 := (inW_but W b d).trans hB
  have HB1 := hide hB1
  have CR := hide (row_bad K (by decide) hR (HT.out.but (((But.refl b W).alloc zN).trans hB1)))
  clear hB hR hB1 CF c0 c1 c2 k1 hd3
  go_wp2_with fail
  refine CR.out.mono ?_
  rintro e w2 ⟨hB, y0, y1, y2, hR, ⟨o0, o1, o2⟩, rfl⟩
  have s0 := fun w a m => run_store Tryz.prog w a y0 m o0
  have s1 := fun w a m => run_store Tryz.prog w a y1 m o1
  have s2 := fun w a m => run_store Tryz.prog w a y2 m o2
  have HS : Hid (ChRel False b W (w2.heap.size + 1) (d + 1) 0 (.error 2) ((w2.alloc (.cells #[y0, y1, y2] 136)).alloc (.cells #[.int .i64 3, .slice none 0 0, .slice (some ⟨w2.heap.size, 0, none⟩) 1 1] 136))) :=
    .inr ⟨2, _, by decide, rfl, rfl, (hR.alloc _).alloc _, wy_late hbW (HB1.out.trans hB) _ _ _ _⟩
  clear hB hR CR HB1
  go_wp2_with fail
  clear s0 s1 s2 o0 o1 o2
  obtain ⟨N, hN⟩ : ∃ N, N = w2.heap.size + 1 := ⟨_, rfl⟩
  rw [← hN] at HS ⊢
  generalize (w2.alloc (.cells #[y0, y1, y2] 136)).alloc (.cells #[.int .i64 3, .slice none 0 0, .slice (some ⟨w2.heap.size, 0, none⟩) 1 1] 136) = W1 at *
  clear hN
  go_loopw [] (fun wr => Hid (ChRel False b W N (d + 1) 0 (.error 2) wr)) (fun wr => mes wr b)
  case atStart => exact HS
  case round =>
    rcases hrel.out with ⟨hA, _⟩ | ⟨v, vU, hv, hvU, hR, hrd, hw⟩
    · exact hA.elim
    · obtain rfl : v = 2 := by cases hR; rfl
      have HWY := hide hw
      have CT := hide (take_is K.trims hrd 124 124 rfl false rfl [] rfl)
      clear hR hw hrel hrd
      go_wp2_with fail
      refine CT.out.mono ?_
      rintro e w1 ⟨rfl, hB, hR1⟩
      have R2 := hide hR1
      have HW2 := hide (HWY.out.step hB)
      obtain ⟨d0, d1, d2⟩ := HW2.out.box1
      obtain ⟨e0, e1, e2⟩ := HW2.out.box0
      have fr := HW2.out.free0.2
      have f0 := fr 0
      have f1 := fr 1
      have f2 := fr 2
      have hne := HW2.out.ne0
      have hneN := HW2.out.ne1
      have s2 := fun w a m => run_store Tryz.prog w a vU m hvU
      obtain ⟨_, g1, _, fb⟩ := R2.out
      have k1 := fb.2 1
      have hdd : ((d + 1 : Nat) : Int) = (d : Int) + 1 := by omega
      rw [hdd] at g1
      clear hB hR1 CT fr fb hdd
      have HB3 := hide ((But.refl b w1).setCell (p := ⟨b, 1, none⟩) (.inl rfl) (.int .i64 (d : Int)))
      have HW2 := hide (HW2.out.step HB3.out)
      have R2 := hide (R2.out.deepI d (d : Int) rfl)
      go_wp2_with fail
      change bodyPost Tryz.prog Tryz.f105 (PnPost b W d RR) Exit.ret _ (put3 (w1.setCell ⟨b, 1, none⟩ (.int .i64 (d : Int))) W.heap.size (.int .i64 3) (.slice none 0 0) vU)
      refine bodyPost_ret (v := .agg #[.int .i64 3, .slice none 0 0, vU]) (res_n Tryz.results105 _ _ W.heap.size rfl (put3_box HW2.out.box0 _ _ _)) rfl ?_
      exact pnPost_err HX.out (put3_but HW2.out.but (.inr (Nat.le_refl _)) _ _ _) (put3_rd R2.out hne _ _ _) ⟨rfl, rfl, hvU⟩
set_option maxHeartbeats 16000000 in
set_option maxRecDepth 100000 in
theorem inner_ok {T : World → Prop} (K : ReadKit T) {b d D : Nat} (hC : ChOk T b d D) : InnerOk T b d D := by
  intro W r h hT hl
  have hbW := h.lt
  have hne : W.heap.size ≠ b := by omega
  have R0 := hide (h.alloc zN)
  have B0 := hide ((But.refl b W).alloc zN)
  have Z0 := hide (head_new W)
  have F0 := hide (free_new W #[.int .i64 0, .slice none 0 0, .slice none 0 0] 136)
  have HT := hide (hT.but B0.out)
  have hlt0 : W.heap.size < (W.alloc zN).heap.size := by rw [size_alloc]; omega
  have CC := hide (hC _ r R0.out HT.out hl)
  obtain ⟨RR, hRR⟩ : ∃ RR, RR = innerR (Px.choice D r) := ⟨_, rfl⟩
  rw [← hRR]
  clear h hT hl hC
  cases hch : Px.choice D r with
  | error v =>
    have hv := choice_err D _ _ hch
    have HX : Hid (RR = .error v) := by show _ = _; rw [hRR, hch]; rfl
    rw [hch] at CC
    clear hRR hch
    go_enter Tryz.func187, Tryz.ntmps187
    go_wp2_with fail
    generalize W.alloc zN = W1 at *
    refine CC.out.mono ?_
    rintro e w2 ⟨hB, x0, x1, x2, hR, ⟨o0, o1, o2⟩, rfl⟩
    have B2 := hide (B0.out.trans hB)
    have Z2 := hide (box3_but Z0.out hB hne)
    have F2 := hide (hB.free F0.out hne)
    have CT := hide (take_is K.trims (hR.alloc (.cells #[x0, x1, x2] 136)) 41 41 rfl false rfl [] rfl)
    clear hB hR CC
    have hltA : W.heap.size < w2.heap.size := box3_lt Z2.out
    have hnA : w2.heap.size ≠ b := by omega
    have hnB : w2.heap.size ≠ W.heap.size := by omega
    have hnC : W.heap.size ≠ w2.heap.size := by omega
    have BA := hide (B2.out.alloc (.cells #[x0, x1, x2] 136))
    have ZA := hide (box3_below Z2.out (balloc (brefl _) (.cells #[x0, x1, x2] 136)))
    have FA := hide (free_alloc F2.out (.cells #[x0, x1, x2] 136))
    have XA := hide (box3_new w2 x0 x1 x2 136)
    have s0 := fun w a m => run_store Tryz.prog w a x0 m o0
    have s1 := fun w a m => run_store Tryz.prog w a x1 m o1
    have s2 := fun w a m => run_store Tryz.prog w a x2 m o2
    go_wp2_with fail
    refine CT.out.mono ?_
    rintro e w3 ⟨rfl, hB, hR⟩
    have BA := hide (BA.out.trans hB)
    have ZA := hide (box3_but ZA.out hB hne)
    have FA := hide (hB.free FA.out hne)
    have XA := hide (box3_but XA.out hB hnA)
    have CF := hide (rfail_is hR 4 v (by rw [if_neg hv]))
    clear hB hR CT
    go_wp2_with fail
    refine CF.out.mono ?_
    rintro e w4 ⟨rfl, hB, hR⟩
    have BA := hide (BA.out.trans hB)
    have ZA := hide (box3_but ZA.out hB hne)
    have FA := hide (hB.free FA.out hne)
    have XA := hide (box3_but XA.out hB hnA)
    have R4 := hide hR
    clear hB hR CF
    obtain ⟨z0, z1, z2⟩ := ZA.out
    obtain ⟨y0, y1, y2⟩ := XA.out
    have f0 := FA.out.2 0
    have f1 := FA.out.2 1
    have f2 := FA.out.2 2
    go_wp2_with fail
    change bodyPost Tryz.prog Tryz.f187 (NodePost b W d RR) Exit.ret _ (put3 w4 W.heap.size x0 x1 x2)
    have BF := hide (put3_but BA.out (g := W.heap.size) (.inr (Nat.le_refl _)) x0 x1 x2)
    refine bodyPost_ret (v := .agg #[x0, x1, x2]) (res_n Tryz.results187 _ _ W.heap.size rfl (put3_box ZA.out _ _ _)) rfl ?_
    exact nodePost_err HX.out BF.out (put3_rd R4.out hne _ _ _) ⟨o0, o1, o2⟩
  | ok z =>
    obtain ⟨c, k⟩ := z
    have HX1 : Hid (RR = if Px.isAt k 41 = true then .ok (.ch c, Px.next k) else .error 4) := by show _ = _; rw [hRR, hch]; rfl
    rw [hch] at CC
    clear hRR hch
    go_enter Tryz.func187, Tryz.ntmps187
    go_wp2_with fail
    generalize W.alloc zN = W1 at *
    refine CC.out.mono ?_
    rintro e w2 ⟨hB, k', x0, x1, x2, hk1, hk2, hR, hT1, rfl⟩
    obtain ⟨o0, o1, o2⟩ := Pn.one hT1.at
    have B2 := hide (B0.out.trans hB)
    have Z2 := hide (box3_but Z0.out hB hne)
    have F2 := hide (hB.free F0.out hne)
    have HT1 := hide hT1
    have R2 := hide (hR.alloc (.cells #[x0, x1, x2] 136))
    have HK := hide hk1
    clear hB hR CC hT1 hk1 hk2
    have hltA : W.heap.size < w2.heap.size := box3_lt Z2.out
    have hnA : w2.heap.size ≠ b := by omega
    have hnB : w2.heap.size ≠ W.heap.size := by omega
    have hnC : W.heap.size ≠ w2.heap.size := by omega
    have BA := hide (B2.out.alloc (.cells #[x0, x1, x2] 136))
    have ZA := hide (box3_below Z2.out (balloc (brefl _) (.cells #[x0, x1, x2] 136)))
    have FA := hide (free_alloc F2.out (.cells #[x0, x1, x2] 136))
    have XA := hide (box3_new w2 x0 x1 x2 136)
    have s0 := fun w a m => run_store Tryz.prog w a x0 m o0
    have s1 := fun w a m => run_store Tryz.prog w a x1 m o1
    have s2 := fun w a m => run_store Tryz.prog w a x2 m o2
    go_wp2_with fail
    cases h41 : Px.isAt k' 41 with
    | false =>
      have HX : Hid (RR = .error 4) := by show _ = _; rw [HX1.out, ← isAt_cong HK.out, h41]; rfl
      have CT := hide (take_is K.trims R2.out 41 41 rfl false h41 (Px.skip k') (by simp))
      clear h41
      refine CT.out.mono ?_
      rintro e w3 ⟨rfl, hB, hR⟩
      have BA := hide (BA.out.trans hB)
      have ZA := hide (box3_but ZA.out hB hne)
      have FA := hide (hB.free FA.out hne)
      have XA := hide (box3_but XA.out hB hnA)
      have CF := hide (rfail_is hR 4 4 rfl)
      clear hB hR CT
      go_wp2_with fail
      refine CF.out.mono ?_
      rintro e w4 ⟨rfl, hB, hR⟩
      have BA := hide (BA.out.trans hB)
      have ZA := hide (box3_but ZA.out hB hne)
      have FA := hide (hB.free FA.out hne)
      have XA := hide (box3_but XA.out hB hnA)
      have R4 := hide hR
      clear hB hR CF
      obtain ⟨z0, z1, z2⟩ := ZA.out
      obtain ⟨y0, y1, y2⟩ := XA.out
      have f0 := FA.out.2 0
      have f1 := FA.out.2 1
      have f2 := FA.out.2 2
      go_wp2_with fail
      change bodyPost Tryz.prog Tryz.f187 (NodePost b W d RR) Exit.ret _ (put3 w4 W.heap.size x0 x1 x2)
      have BF := hide (put3_but BA.out (g := W.heap.size) (.inr (Nat.le_refl _)) x0 x1 x2)
      refine bodyPost_ret (v := .agg #[x0, x1, x2]) (res_n Tryz.results187 _ _ W.heap.size rfl (put3_box ZA.out _ _ _)) rfl ?_
      exact nodePost_err HX.out BF.out (put3_rd R4.out hne _ _ _) ⟨o0, o1, o2⟩
    | true =>
      have HX : Hid (RR = .ok (.ch c, Px.next k)) := by show _ = _; rw [HX1.out, ← isAt_cong HK.out, h41]; rfl
      have HNX := hide (next_cong HK.out)
      have CT := hide (take_is K.trims R2.out 41 41 rfl true h41 (Px.next k') (by simp))
      clear h41
      refine CT.out.mono ?_
      rintro e w3 ⟨rfl, hB, hR⟩
      have BA := hide (BA.out.trans hB)
      have ZA := hide (box3_but ZA.out hB hne)
      have FA := hide (hB.free FA.out hne)
      have XA := hide (box3_but XA.out hB hnA)
      have R3 := hide hR
      have HB3 := hide hB
      clear hB hR CT
      obtain ⟨z0, z1, z2⟩ := ZA.out
      obtain ⟨y0, y1, y2⟩ := XA.out
      have f0 := FA.out.2 0
      have f1 := FA.out.2 1
      have f2 := FA.out.2 2
      go_wp2_with fail
      change bodyPost Tryz.prog Tryz.f187 (NodePost b W d RR) Exit.ret _ (put3 w3 W.heap.size x0 x1 x2)
      have BF := hide (put3_but BA.out (g := W.heap.size) (.inr (Nat.le_refl _)) x0 x1 x2)
      refine bodyPost_ret (v := .agg #[x0, x1, x2]) (res_n Tryz.results187 _ _ W.heap.size rfl (put3_box ZA.out _ _ _)) rfl ?_
      refine nodePost_ok (n := .ch c) (k := Px.next k) (k' := Px.next k') HX.out BF.out (by rw [HNX.out]) (by rw [HNX.out]; exact Nat.le_refl _) (put3_rd R3.out hne _ _ _) ?_
      rw [Nd.pn]
      refine HT1.out.later (by omega) (by rw [put3_size]; have := HB3.out.size; rw [size_alloc] at this; omega) (fun j hj hl => ?_)
      rw [put3_other _ _ _ _ _ j (by omega), HB3.out.block j (by omega) (by rw [size_alloc]; omega), heap_alloc_lt _ _ j hl]

/-- At every depth. -/
theorem choice_any {T : World → Prop} (K : ReadKit T) (b : Nat) : ∀ (D d : Nat), d + D = 8 → ChOk T b d D
  | 0, d, h => choice_deep5 K (by omega) (by omega)
  | D + 1, d, h => choice_ok K (by omega) (inner_ok K (choice_any K b D (d + 1) (by omega)))
theorem choice_all {T : World → Prop} (K : ReadKit T) (b : Nat) : ChOk T b 0 8 := choice_any K b 8 0 rfl
end Go.Proofs.YtngfoijmknclhaaGreatDoor.Ar
