/- The document's May. -/
import Derived.Test.YtpmmhmgojjlniaaGreatDoorQ45
namespace Go.Proofs.YtpmmhmgojjlniaaGreatDoor
open Go.RowKit Go.Sort
structure SmD (c : Cf) : Prop where
  list : ∀ i (h : i < c.lists.length), c.lists[i].name.size ≤ 1000
  map : ∀ i (h : i < c.maps.length), c.maps[i].name.size ≤ 1000 ∧ ∀ k (h2 : k < c.maps[i].cls.length), (c.maps[i].cls[k].m.list.size ≤ 1000 ∧ c.maps[i].cls[k].m.path.size ≤ 1000) ∧ c.maps[i].cls[k].s.add.length ≤ 900 ∧ c.maps[i].cls[k].s.del.length ≤ 900 ∧ c.maps[i].cls[k].s.prep.length ≤ 300
  router : ∀ i (h : i < c.routers.length), c.routers[i].name.size ≤ 1000 ∧ (∀ n ∈ c.routers[i].nbs, n.name.size ≤ 1000 ∧ n.imp.size ≤ 1000 ∧ n.exp.size ≤ 1000) ∧ ∀ k ∈ c.routers[i].links, k.name.size ≤ 1000
theorem small_D {c : Cf} (h : small c = true) : SmD c := by
  simp only [small, Bool.and_eq_true, List.all_eq_true, Bool.not_eq_true', Bool.or_eq_false_iff, decide_eq_false_iff_not] at h
  obtain ⟨⟨⟨_, hl⟩, hm⟩, hr⟩ := h
  refine ⟨fun i hi => ?_, fun i hi => ?_, fun i hi => ?_⟩
  · have := hl _ (List.getElem_mem hi)
    simp only [lsSm, Bool.not_eq_true', Bool.or_eq_false_iff, decide_eq_false_iff_not] at this
    omega
  · have := hm _ (List.getElem_mem hi)
    simp only [mpSm, Bool.and_eq_true, List.all_eq_true, Bool.not_eq_true', Bool.or_eq_false_iff, decide_eq_false_iff_not] at this
    refine ⟨by omega, fun k hk => ?_⟩
    have := this.2 _ (List.getElem_mem hk)
    simp only [clSm, Bool.not_eq_true', Bool.or_eq_false_iff, decide_eq_false_iff_not] at this
    omega
  · have := hr _ (List.getElem_mem hi)
    simp only [rtSm, Bool.and_eq_true, List.all_eq_true, Bool.not_eq_true', Bool.or_eq_false_iff, decide_eq_false_iff_not] at this
    refine ⟨by omega, fun n hn => ?_, fun n hn => ?_⟩
    · have := this.1.2 n hn
      simp only [nbSm, Bool.not_eq_true', decide_eq_false_iff_not] at this
      omega
    · have := this.2 n hn
      simp only [lkSm, Bool.not_eq_true', decide_eq_false_iff_not] at this
      omega
theorem rwhy_at (ao : Option Addr) (cap : Nat) (l : List Rg) (W : World) (h : Rd W 5 RgR (.slice ao l.length cap) l) (hu : ∀ r ∈ l, U32 r.ad) :
    Calls Tryz.prog 26 #[.slice ao l.length cap] W fun e w' => e = .returned (.int .i64 (Ax.Ad.rwhy (l.map rgT))) ∧ Below W.heap.size W w' := by
  have := Ax.refRWhy_is ao cap (l.map rgT) _ rfl W (rd_slotR h) (fits_rules hu)
  rw [List.length_map] at this
  exact this
set_option maxHeartbeats 16000000 in
set_option maxRecDepth 100000 in
theorem rmay_is (c : Cf) (v1 v2 v3 : Value) (w : World) (hc : CfR w c v1 v2 v3) (hw : Wide c) (hs : small c = true) :
    Calls Tryz.prog 11 #[.agg #[v1, v2, v3]] w fun e w' => e = .returned (.bool (cfOk c)) ∧ Below w.heap.size w w' := by
  obtain ⟨h1, h2, h3⟩ := hc
  obtain ⟨o1, k1, rfl⟩ := h1.slice
  obtain ⟨o2, k2, rfl⟩ := h2.slice
  obtain ⟨o3, k3, rfl⟩ := h3.slice
  have HIF := hide (cfOk_iff hw)
  have R1 := hide h1
  have R2 := hide h2
  have R3 := hide h3
  have HU := hide hw
  have HZ := hide (small_D hs)
  generalize cfOk c = R at *
  have A0 := balloc (brefl w) (.cells #[.slice o1 c.lists.length k1, .slice o2 c.maps.length k2, .slice o3 c.routers.length k3] 26)
  have N := hide (heap_new w #[.slice o1 c.lists.length k1, .slice o2 c.maps.length k2, .slice o3 c.routers.length k3] 26)
  have HA := hide A0
  have hwl : w.heap.size < (w.alloc (.cells #[.slice o1 c.lists.length k1, .slice o2 c.maps.length k2, .slice o3 c.routers.length k3] 26)).heap.size := by rw [size_alloc]; omega
  clear h1 h2 h3 A0 hw hs
  go_enter Tryz.func11, Tryz.ntmps11
  go_upto_region 1 with fail
  obtain ⟨bc, hbc⟩ : ∃ q, w.heap.size = q := ⟨_, rfl⟩
  have HBC := hide hbc
  rw [hbc] at N hwl ⊢
  obtain ⟨w0, hw0⟩ : ∃ q, w.alloc (.cells #[.slice o1 c.lists.length k1, .slice o2 c.maps.length k2, .slice o3 c.routers.length k3] 26) = q := ⟨_, rfl⟩
  rw [hw0] at N HA hwl ⊢
  have hw0l : w.heap.size ≤ w0.heap.size := by omega
  clear hw0 hbc
  have n0 := cell_of N.out 0 rfl
  have n1 := cell_of N.out 1 rfl
  have n2 := cell_of N.out 2 rfl
  by_cases llists : 16 < c.lists.length
  · have llists' : (16 : Int) < (c.lists.length : Int) := by omega
    have HR : Hid (R = false) := bool_ne fun h => by have := (HIF.out.1 h).lists; omega
    clear HIF
    go_wp2_with fail
    go_ret
    exact ⟨ret_bool HR.out.symm, HA.out⟩
  have llists' : ¬ (16 : Int) < (c.lists.length : Int) := by omega
  by_cases lmaps : 16 < c.maps.length
  · have lmaps' : (16 : Int) < (c.maps.length : Int) := by omega
    have HR : Hid (R = false) := bool_ne fun h => by have := (HIF.out.1 h).maps; omega
    clear HIF
    go_wp2_with fail
    go_ret
    exact ⟨ret_bool HR.out.symm, HA.out⟩
  have lmaps' : ¬ (16 : Int) < (c.maps.length : Int) := by omega
  by_cases lrouters : 8 < c.routers.length
  · have lrouters' : (8 : Int) < (c.routers.length : Int) := by omega
    have HR : Hid (R = false) := bool_ne fun h => by have := (HIF.out.1 h).routers; omega
    clear HIF
    go_wp2_with fail
    go_ret
    exact ⟨ret_bool HR.out.symm, HA.out⟩
  have lrouters' : ¬ (8 : Int) < (c.routers.length : Int) := by omega
  have HSIX := hide (show c.lists.length ≤ 16 ∧ c.maps.length ≤ 16 ∧ c.routers.length ≤ 8 from ⟨by omega, by omega, by omega⟩)
  go_wp2_with fail
  clear llists llists' lmaps lmaps' lrouters lrouters' n0 n1 n2
  have HBA : Hid (Below w0.heap.size w0 w0) := Below.refl _ w0
  go_loopw [3, 6] (fun v5 v6 wr => ∃ (k : Nat) (o : Option Addr) (cp : Nat), v6 = .int .i64 k ∧ v5 = .slice o k cp ∧ k ≤ c.lists.length ∧ Hid (∀ j (h : j < c.lists.length), j < k → rnm2 c.lists[j].name ((c.lists.take j).map Ls.name) = true ∧ Ax.Ad.rwhy (c.lists[j].rules.map rgT) = 0) ∧ Hid (wr.ownsRow w0.heap.size 9 1 (.slice o k cp) k (((c.lists.take k).map Ls.name).map Value.string)) ∧ Hid (Below w0.heap.size w0 wr)) (fun _ v6 _ => c.lists.length - (intOf v6).toNat)
  case atStart => exact ⟨0, none, 0, rfl, rfl, Nat.zero_le _, fun j _ h => absurd h (Nat.not_lt_zero _), ⟨by simp, .inl ⟨rfl, rfl⟩⟩, HBA.out⟩
  case round =>
    as_aux_lemma =>
    clear HBA
    obtain ⟨k, o, cp, rfl, rfl, hk, HALL, HO, HBR⟩ := hrel
    have HBZ := hide (bthen HA.out HBR.out)
    have HN := hide ((HBR.out.block bc hwl).trans N.out)
    have n0 := cell_of HN.out 0 rfl
    by_cases hkl : k < c.lists.length
    · have hkl' : (k : Int) < (c.lists.length : Int) := by omega
      have hk16 : (k : Int) < 16 := by have := HSIX.out; omega
      have HNS := hide (nms_snoc Ls.name c.lists k hkl)
      obtain ⟨b2, off, xs, rfl, hb2, hx, hxc⟩ := R1.out.at_ hkl
      obtain ⟨v, hxe, hrd⟩ := hx
      obtain rfl : xs = [.string c.lists[k].name, v] := hxe
      have Y0 := hide (hxc 0 _ rfl)
      have Y1 := hide (hxc 1 _ rfl)
      simp only [Nat.add_zero] at Y0
      obtain ⟨ao, ca, rfl⟩ := hrd.slice
      have HRD := hide hrd
      have HUk := hide (HU.out.1 _ (List.getElem_mem hkl))
      have HZk := hide (HZ.out.list k hkl)
      clear hrd
      have a0 := (HBZ.out.cell (p := ⟨b2, off + k * 2, none⟩) hb2).trans Y0.out
      have a1 := (HBZ.out.cell (p := ⟨b2, off + k * 2 + 1, none⟩) hb2).trans Y1.out
      clear hxc
      have HLN : Hid (((c.lists.take k).map Ls.name).length = k) := by show _ = _; rw [List.length_map, List.length_take]; omega
      have HNX : Hid ((rnm2 c.lists[k].name ((c.lists.take k).map Ls.name) = true ∧ Ax.Ad.rwhy (c.lists[k].rules.map rgT) = 0) → ∀ j (h : j < c.lists.length), j < k + 1 → rnm2 c.lists[j].name ((c.lists.take j).map Ls.name) = true ∧ Ax.Ad.rwhy (c.lists[j].rules.map rgT) = 0) := by
        intro h j hj hjk
        rcases Nat.lt_or_ge j k with h1 | h1
        · exact HALL.out j hj h1
        · obtain rfl : j = k := by omega
          exact h
      have HBD : Hid (¬ (rnm2 c.lists[k].name ((c.lists.take k).map Ls.name) = true ∧ Ax.Ad.rwhy (c.lists[k].rules.map rgT) = 0) → R = false) := fun h => bool_ne fun h2 => h ((HIF.out.1 h2).list k hkl)
      obtain ⟨XS, hXS⟩ : ∃ x, (c.lists.take k).map Ls.name = x := ⟨_, rfl⟩
      obtain ⟨XN, hXN⟩ : ∃ x, ((c.lists.take (k + 1)).map Ls.name).map Value.string = x := ⟨_, rfl⟩
      have HXN := hide hXN
      rw [hXS] at HO HNS HLN HNX HBD
      rw [hXN] at HNS
      clear hXS hXN HALL
      generalize c.lists[k] = q at *
      have CN := hide (rname2_is w0.heap.size (.slice o k cp) XS q.name (by rw [HLN.out]; have := HSIX.out; omega) HZk.out wr (by rw [HLN.out]; exact HO.out))
      go_wp2_with fail
      refine CN.out.mono ?_
      rintro e w4 ⟨rfl, hb4⟩
      have B4 := hide (HBR.out.trans (bless hb4 HBR.out.size))
      have BZ4 := hide (bthen HA.out B4.out)
      have N4 := hide ((hb4.block bc (heap_lt HN.out)).trans HN.out)
      have HO4 := hide (Ax.row_below HO.out hb4)
      have c0 := (BZ4.out.cell (p := ⟨b2, off + k * 2, none⟩) hb2).trans Y0.out
      have c1 := (BZ4.out.cell (p := ⟨b2, off + k * 2 + 1, none⟩) hb2).trans Y1.out
      clear a0 a1
      clear hb4 CN n0 HN HBR HO HBZ
      have n0 := cell_of N4.out 0 rfl
      generalize rnm2 q.name XS = r1 at *
      cases r1 with
      | false =>
        have HR : Hid (R = false) := HBD.out fun h => (by cases h.1)
        clear HIF HNX HBD
        go_wp2_with fail
        go_ret
        exact ⟨ret_bool HR.out.symm, BZ4.out⟩
      | true =>
      have CW := hide (rwhy_at ao ca q.rules w4 (HRD.out.below RgR.mono BZ4.out) HUk.out)
      go_wp2_with fail
      refine CW.out.mono ?_
      rintro e w5 ⟨rfl, hb5⟩
      have B5 := hide (B4.out.trans (bless hb5 B4.out.size))
      have BZ5 := hide (bthen HA.out B5.out)
      have N5 := hide ((hb5.block bc (heap_lt N4.out)).trans N4.out)
      have HO5 := hide (Ax.row_below HO4.out hb5)
      clear hb5 N4 HO4 B4 BZ4 n0 CW c0 c1
      have d0 := (BZ5.out.cell (p := ⟨b2, off + k * 2, none⟩) hb2).trans Y0.out
      have d1 := (BZ5.out.cell (p := ⟨b2, off + k * 2 + 1, none⟩) hb2).trans Y1.out
      have n0 := cell_of N5.out 0 rfl
      generalize Ax.Ad.rwhy (q.rules.map rgT) = x at *
      by_cases hx0 : x = 0
      · subst hx0
        have HALL2 := hide (HNX.out (by simp))
        clear HNX HBD HRD HUk HZk
        generalize q.name = t at *
        go_wp2_with (at_builtin; go_must (refine append_str1 (w0 := w0) rfl _ _ rfl _ k _ rfl (HO5.out.alloc _) w5.heap.size 1 t rfl ?c1 (by have := HSIX.out; omega) (balloc B5.out _) ?_))
        case c1 => simp
        intro v' w7 hnew hb7
        obtain ⟨no, nc, rfl⟩ := Ar.row_slice hnew
        rw [← HNS.out] at hnew
        have HNW := hide hnew
        have B7 := hide hb7
        clear hnew hb7 d0 d1 n0 N5 HO5 B5 BZ5
        go_wp2_with fail
        exact ⟨⟨k + 1, no, nc, by go_num, rfl, by omega, HALL2, (by rw [HXN.out]; exact HNW), B7⟩, by simp [intOf] <;> omega⟩
      · have HR : Hid (R = false) := HBD.out fun h => hx0 h.2
        have hx1 : (x == 0) = false := beq_eq_false_iff_ne.2 hx0
        have hx2 : (x != 0) = true := by rw [bne, hx1]; rfl
        clear HIF HNX HBD HRD HUk HZk
        go_wp2_with fail
        go_ret
        exact ⟨ret_bool HR.out.symm, BZ5.out⟩
    · have hkl' : ¬ (k : Int) < (c.lists.length : Int) := by omega
      obtain rfl : k = c.lists.length := by omega
      have Hlists : Hid (∀ j (h : j < c.lists.length), rnm2 c.lists[j].name ((c.lists.take j).map Ls.name) = true ∧ Ax.Ad.rwhy (c.lists[j].rules.map rgT) = 0) := fun j h => HALL.out j h h
      clear HALL HO
      go_wp2_with fail
      clear n0 hkl hkl' hk HBZ HN
      obtain ⟨wC, hwC⟩ : ∃ q, q = wr := ⟨_, rfl⟩
      subst hwC
      have HBA := hide HBR.out
      clear HBR
      go_loopw [4, 7] (fun v5 v6 wr => ∃ (k : Nat) (o : Option Addr) (cp : Nat), v6 = .int .i64 k ∧ v5 = .slice o k cp ∧ k ≤ c.maps.length ∧ Hid (∀ j (h : j < c.maps.length), j < k → rnm2 c.maps[j].name ((c.maps.take j).map Mp.name) = true ∧ c.maps[j].cls.length ≤ 16 ∧ ∀ i (h : i < c.maps[j].cls.length), rcl c.maps[j].cls[i] (lastAt c.maps[j].cls i) = true) ∧ Hid (wr.ownsRow w0.heap.size 9 1 (.slice o k cp) k (((c.maps.take k).map Mp.name).map Value.string)) ∧ Hid (Below w0.heap.size w0 wr)) (fun _ v6 _ => c.maps.length - (intOf v6).toNat)
      case atStart => exact ⟨0, none, 0, rfl, rfl, Nat.zero_le _, fun j _ h => absurd h (Nat.not_lt_zero _), ⟨by simp, .inl ⟨rfl, rfl⟩⟩, HBA.out⟩
      case round =>
        as_aux_lemma =>
        clear HBA
        obtain ⟨k, o, cp, rfl, rfl, hk, HALL, HO, HBR⟩ := hrel
        have HBZ := hide (bthen HA.out HBR.out)
        have HN := hide ((HBR.out.block bc hwl).trans N.out)
        have n1 := cell_of HN.out 1 rfl
        by_cases hkl : k < c.maps.length
        · have hkl' : (k : Int) < (c.maps.length : Int) := by omega
          have hk16 : (k : Int) < 16 := by have := HSIX.out; omega
          have HNS := hide (nms_snoc Mp.name c.maps k hkl)
          obtain ⟨b2, off, xs, rfl, hb2, hx, hxc⟩ := R2.out.at_ hkl
          obtain ⟨v, hxe, hrd⟩ := hx
          obtain rfl : xs = [.string c.maps[k].name, v] := hxe
          have Y0 := hide (hxc 0 _ rfl)
          have Y1 := hide (hxc 1 _ rfl)
          simp only [Nat.add_zero] at Y0
          obtain ⟨ao, ca, rfl⟩ := hrd.slice
          have HRD := hide hrd
          have HZk := hide (HZ.out.map k hkl)
          clear hrd
          have a0 := (HBZ.out.cell (p := ⟨b2, off + k * 2, none⟩) hb2).trans Y0.out
          have a1 := (HBZ.out.cell (p := ⟨b2, off + k * 2 + 1, none⟩) hb2).trans Y1.out
          clear hxc
          have HLN : Hid (((c.maps.take k).map Mp.name).length = k) := by show _ = _; rw [List.length_map, List.length_take]; omega
          have HNX : Hid ((rnm2 c.maps[k].name ((c.maps.take k).map Mp.name) = true ∧ c.maps[k].cls.length ≤ 16 ∧ ∀ i (h : i < c.maps[k].cls.length), rcl c.maps[k].cls[i] (lastAt c.maps[k].cls i) = true) → ∀ j (h : j < c.maps.length), j < k + 1 → rnm2 c.maps[j].name ((c.maps.take j).map Mp.name) = true ∧ c.maps[j].cls.length ≤ 16 ∧ ∀ i (h : i < c.maps[j].cls.length), rcl c.maps[j].cls[i] (lastAt c.maps[j].cls i) = true) := by
            intro h j hj hjk
            rcases Nat.lt_or_ge j k with h1 | h1
            · exact HALL.out j hj h1
            · obtain rfl : j = k := by omega
              exact h
          have HBD : Hid (¬ (rnm2 c.maps[k].name ((c.maps.take k).map Mp.name) = true ∧ c.maps[k].cls.length ≤ 16 ∧ ∀ i (h : i < c.maps[k].cls.length), rcl c.maps[k].cls[i] (lastAt c.maps[k].cls i) = true) → R = false) := fun h => bool_ne fun h2 => h ((HIF.out.1 h2).map k hkl)
          obtain ⟨XS, hXS⟩ : ∃ x, (c.maps.take k).map Mp.name = x := ⟨_, rfl⟩
          obtain ⟨XN, hXN⟩ : ∃ x, ((c.maps.take (k + 1)).map Mp.name).map Value.string = x := ⟨_, rfl⟩
          have HXN := hide hXN
          rw [hXS] at HO HNS HLN HNX HBD
          rw [hXN] at HNS
          clear hXS hXN HALL
          generalize c.maps[k] = q at *
          have CN := hide (rname2_is w0.heap.size (.slice o k cp) XS q.name (by rw [HLN.out]; have := HSIX.out; omega) HZk.out.1 wr (by rw [HLN.out]; exact HO.out))
          go_wp2_with fail
          refine CN.out.mono ?_
          rintro e w4 ⟨rfl, hb4⟩
          have B4 := hide (HBR.out.trans (bless hb4 HBR.out.size))
          have BZ4 := hide (bthen HA.out B4.out)
          have N4 := hide ((hb4.block bc (heap_lt HN.out)).trans HN.out)
          have HO4 := hide (Ax.row_below HO.out hb4)
          have c0 := (BZ4.out.cell (p := ⟨b2, off + k * 2, none⟩) hb2).trans Y0.out
          have c1 := (BZ4.out.cell (p := ⟨b2, off + k * 2 + 1, none⟩) hb2).trans Y1.out
          clear a0 a1
          clear hb4 CN n1 HN HBR HO HBZ
          have n1 := cell_of N4.out 1 rfl
          generalize rnm2 q.name XS = r1 at *
          cases r1 with
          | false =>
            have HR : Hid (R = false) := HBD.out fun h => (by cases h.1)
            clear HIF HNX HBD
            go_wp2_with fail
            go_ret
            exact ⟨ret_bool HR.out.symm, BZ4.out⟩
          | true =>
          by_cases l16 : 16 < q.cls.length
          · have l16' : (16 : Int) < (q.cls.length : Int) := by omega
            have HR : Hid (R = false) := HBD.out fun h => (by have := h.2.1; omega)
            clear HIF HNX HBD
            go_wp2_with fail
            go_ret
            exact ⟨ret_bool HR.out.symm, BZ4.out⟩
          have l16' : ¬ (16 : Int) < (q.cls.length : Int) := by omega
          generalize hqn : q.name = t at *
          go_wp2_with (at_builtin; go_must (refine append_str1 (w0 := w0) rfl _ _ rfl _ k _ rfl (HO4.out.alloc _) w4.heap.size 1 t rfl ?c1 (by have := HSIX.out; omega) (balloc B4.out _) ?_))
          case c1 => simp
          intro v' w7 hnew hb7
          obtain ⟨no, nc, rfl⟩ := Ar.row_slice hnew
          rw [← HNS.out] at hnew
          have HNW := hide hnew
          have B7 := hide hb7
          clear hnew hb7 
          clear c0 c1 n1 N4 HO4 B4 BZ4
          go_wp2_with fail
          go_loopw [8, 9] (fun v8 v9 wi => ∃ j : Nat, v9 = .int .i64 j ∧ v8 = .int .i64 (lastAt q.cls j) ∧ j ≤ q.cls.length ∧ Hid (∀ i (h : i < q.cls.length), i < j → rcl q.cls[i] (lastAt q.cls i) = true) ∧ Hid (Below w7.heap.size w7 wi)) (fun _ v9 _ => q.cls.length - (intOf v9).toNat)
          case atStart => exact ⟨0, rfl, rfl, Nat.zero_le _, fun j _ h => absurd h (Nat.not_lt_zero _), Below.refl _ w7⟩
          case round =>
            as_aux_lemma =>
            obtain ⟨j, rfl, rfl, hj, HCS, HBI⟩ := hrel
            have B8 := hide (B7.out.trans (bless HBI.out B7.out.size))
            have BZ8 := hide (bthen HA.out B8.out)
            have N8 := hide ((B8.out.block bc hwl).trans N.out)
            have n1 := cell_of N8.out 1 rfl
            have d1 := (BZ8.out.cell (p := ⟨b2, off + k * 2 + 1, none⟩) hb2).trans Y1.out
            by_cases hjl : j < q.cls.length
            · have hjl' : (j : Int) < (q.cls.length : Int) := by omega
              obtain ⟨b3, off3, ys, rfl, hb3, hy, hyc⟩ := HRD.out.at_ hjl
              obtain ⟨va, vd, vp, hye, g1, g2, g3⟩ := hy
              have HZj := hide (HZk.out.2 j hjl)
              have HLS : Hid (lastAt q.cls (j + 1) = q.cls[j].n) := lastAt_succ hjl
              have HNX : Hid (rcl q.cls[j] (lastAt q.cls j) = true → ∀ i (h : i < q.cls.length), i < j + 1 → rcl q.cls[i] (lastAt q.cls i) = true) := by
                intro h i hi hij
                rcases Nat.lt_or_ge i j with h1 | h1
                · exact HCS.out i hi h1
                · obtain rfl : i = j := by omega
                  exact h
              have HBX : Hid (¬ rcl q.cls[j] (lastAt q.cls j) = true → R = false) := fun h => HBD.out fun h2 => h (h2.2.2 j hjl)
              generalize q.cls[j] = x at *
              subst hye
              obtain ⟨oa, ka, rfl⟩ := g1.slice
              obtain ⟨od, kd, rfl⟩ := g2.slice
              obtain ⟨op, kp, rfl⟩ := g3.slice
              have Z0 := hide (hyc 0 _ rfl)
              simp only [Nat.add_zero] at Z0
              have f0 := (BZ8.out.cell (p := ⟨b3, off3 + j * 13, none⟩) hb3).trans Z0.out
              have f1 := (BZ8.out.cell (p := ⟨b3, off3 + j * 13 + 1, none⟩) hb3).trans (hyc 1 _ rfl)
              have f2 := (BZ8.out.cell (p := ⟨b3, off3 + j * 13 + 2, none⟩) hb3).trans (hyc 2 _ rfl)
              have f3 := (BZ8.out.cell (p := ⟨b3, off3 + j * 13 + 3, none⟩) hb3).trans (hyc 3 _ rfl)
              have f4 := (BZ8.out.cell (p := ⟨b3, off3 + j * 13 + 4, none⟩) hb3).trans (hyc 4 _ rfl)
              have f5 := (BZ8.out.cell (p := ⟨b3, off3 + j * 13 + 5, none⟩) hb3).trans (hyc 5 _ rfl)
              have f6 := (BZ8.out.cell (p := ⟨b3, off3 + j * 13 + 6, none⟩) hb3).trans (hyc 6 _ rfl)
              have f7 := (BZ8.out.cell (p := ⟨b3, off3 + j * 13 + 7, none⟩) hb3).trans (hyc 7 _ rfl)
              have f8 := (BZ8.out.cell (p := ⟨b3, off3 + j * 13 + 8, none⟩) hb3).trans (hyc 8 _ rfl)
              have f9 := (BZ8.out.cell (p := ⟨b3, off3 + j * 13 + 9, none⟩) hb3).trans (hyc 9 _ rfl)
              have f10 := (BZ8.out.cell (p := ⟨b3, off3 + j * 13 + 10, none⟩) hb3).trans (hyc 10 _ rfl)
              have f11 := (BZ8.out.cell (p := ⟨b3, off3 + j * 13 + 11, none⟩) hb3).trans (hyc 11 _ rfl)
              have f12 := (BZ8.out.cell (p := ⟨b3, off3 + j * 13 + 12, none⟩) hb3).trans (hyc 12 _ rfl)
              clear hyc
              have CC := hide (rclause_is x (lastAt q.cls j) _ _ _ wr (g1.below PrR.mono BZ8.out) (g2.below PrR.mono BZ8.out) (g3.below InR.mono BZ8.out) HZj.out.1 HZj.out.2)
              unfold clV at CC
              clear g1 g2 g3 HCS HBD
              generalize lastAt q.cls j = la at *
              go_wp2_with fail
              refine CC.out.mono ?_
              rintro e w9 ⟨rfl, hb9⟩
              have BI9 := hide (HBI.out.trans (bless hb9 HBI.out.size))
              have BZ9 := hide (bthen HA.out (B7.out.trans (bless BI9.out B7.out.size)))
              have N9 := hide ((hb9.block bc (heap_lt N8.out)).trans N8.out)
              clear hb9 CC n1 d1 f0 f1 f2 f3 f4 f5 f6 f7 f8 f9 f10 f11 f12 N8 HBI B8 BZ8
              have d1 := (BZ9.out.cell (p := ⟨b2, off + k * 2 + 1, none⟩) hb2).trans Y1.out
              have f0 := (BZ9.out.cell (p := ⟨b3, off3 + j * 13, none⟩) hb3).trans Z0.out
              have n1 := cell_of N9.out 1 rfl
              generalize rcl x la = r2 at *
              cases r2 with
              | false =>
                have HR : Hid (R = false) := HBX.out fun h => (by cases h)
                clear HIF HNX HBX
                go_wp2_with fail
                go_ret
                exact ⟨ret_bool HR.out.symm, BZ9.out⟩
              | true =>
              have HCS2 := hide (HNX.out (by simp))
              clear HNX HBX
              go_wp2_with fail
              exact ⟨⟨j + 1, by go_num, by rw [HLS.out], by omega, HCS2, BI9⟩, by simp [intOf] <;> omega⟩
            · have hjl' : ¬ (j : Int) < (q.cls.length : Int) := by omega
              obtain rfl : j = q.cls.length := by omega
              have HALL2 := hide (HNX.out ⟨by simp, by omega, fun i h => HCS.out i h h⟩)
              have HNI := hide (Ax.row_below HNW.out HBI.out)
              clear HNX HBD HRD HZk HCS HNW
              go_wp2_with fail
              exact ⟨⟨k + 1, no, nc, by go_num, rfl, by omega, HALL2, (by rw [HXN.out]; exact HNI), B8⟩, by simp [intOf] <;> omega⟩
        · have hkl' : ¬ (k : Int) < (c.maps.length : Int) := by omega
          obtain rfl : k = c.maps.length := by omega
          have Hmaps : Hid (∀ j (h : j < c.maps.length), rnm2 c.maps[j].name ((c.maps.take j).map Mp.name) = true ∧ c.maps[j].cls.length ≤ 16 ∧ ∀ i (h : i < c.maps[j].cls.length), rcl c.maps[j].cls[i] (lastAt c.maps[j].cls i) = true) := fun j h => HALL.out j h h
          clear HALL HO
          go_wp2_with fail
          clear n1 hkl hkl' hk HBZ HN
          obtain ⟨wC, hwC⟩ : ∃ q, q = wr := ⟨_, rfl⟩
          subst hwC
          have HBA := hide HBR.out
          clear HBR
          go_loopw [5, 10] (fun v5 v6 wr => ∃ (k : Nat) (o : Option Addr) (cp : Nat), v6 = .int .i64 k ∧ v5 = .slice o k cp ∧ k ≤ c.routers.length ∧ Hid (∀ j (h : j < c.routers.length), j < k → rnm2 c.routers[j].name ((c.routers.take j).map Rt.name) = true ∧ rtOk c.routers[j] = true) ∧ Hid (wr.ownsRow w0.heap.size 9 1 (.slice o k cp) k (((c.routers.take k).map Rt.name).map Value.string)) ∧ Hid (Below w0.heap.size w0 wr)) (fun _ v6 _ => c.routers.length - (intOf v6).toNat)
          case atStart => exact ⟨0, none, 0, rfl, rfl, Nat.zero_le _, fun j _ h => absurd h (Nat.not_lt_zero _), ⟨by simp, .inl ⟨rfl, rfl⟩⟩, HBA.out⟩
          case round =>
            as_aux_lemma =>
            clear HBA
            obtain ⟨k, o, cp, rfl, rfl, hk, HALL, HO, HBR⟩ := hrel
            have HBZ := hide (bthen HA.out HBR.out)
            have HN := hide ((HBR.out.block bc hwl).trans N.out)
            have n2 := cell_of HN.out 2 rfl
            by_cases hkl : k < c.routers.length
            · have hkl' : (k : Int) < (c.routers.length : Int) := by omega
              have hk16 : (k : Int) < 16 := by have := HSIX.out; omega
              have HNS := hide (nms_snoc Rt.name c.routers k hkl)
              obtain ⟨b2, off, xs, rfl, hb2, hx, hxc⟩ := R3.out.at_ hkl
              obtain ⟨vn, vb, vl, hxe, g1, g2, g3⟩ := hx
              obtain rfl : xs = [.string c.routers[k].name, .int .i64 c.routers[k].asn, .int .i64 c.routers[k].id, vn, vb, vl] := hxe
              have Y0 := hide (hxc 0 _ rfl)
              have Y1 := hide (hxc 1 _ rfl)
              have Y2 := hide (hxc 2 _ rfl)
              have Y3 := hide (hxc 3 _ rfl)
              have Y4 := hide (hxc 4 _ rfl)
              have Y5 := hide (hxc 5 _ rfl)
              simp only [Nat.add_zero] at Y0
              obtain ⟨on, kn, rfl⟩ := g1.slice
              obtain ⟨ob, kb, rfl⟩ := g2.slice
              obtain ⟨ol, kl, rfl⟩ := g3.slice
              have HRD := hide (show Rd w 2 PxR _ _ ∧ Rd w 4 NbR _ _ ∧ Rd w 2 LkR _ _ from ⟨g1, g2, g3⟩)
              have HUk := hide (HU.out.2 _ (List.getElem_mem hkl)).1
              have HZk := hide (HZ.out.router k hkl)
              clear g1 g2 g3
              have a0 := (HBZ.out.cell (p := ⟨b2, off + k * 6, none⟩) hb2).trans Y0.out
              have a1 := (HBZ.out.cell (p := ⟨b2, off + k * 6 + 1, none⟩) hb2).trans Y1.out
              have a2 := (HBZ.out.cell (p := ⟨b2, off + k * 6 + 2, none⟩) hb2).trans Y2.out
              have a3 := (HBZ.out.cell (p := ⟨b2, off + k * 6 + 3, none⟩) hb2).trans Y3.out
              have a4 := (HBZ.out.cell (p := ⟨b2, off + k * 6 + 4, none⟩) hb2).trans Y4.out
              have a5 := (HBZ.out.cell (p := ⟨b2, off + k * 6 + 5, none⟩) hb2).trans Y5.out
              clear hxc
              have HLN : Hid (((c.routers.take k).map Rt.name).length = k) := by show _ = _; rw [List.length_map, List.length_take]; omega
              have HNX : Hid ((rnm2 c.routers[k].name ((c.routers.take k).map Rt.name) = true ∧ rtOk c.routers[k] = true) → ∀ j (h : j < c.routers.length), j < k + 1 → rnm2 c.routers[j].name ((c.routers.take j).map Rt.name) = true ∧ rtOk c.routers[j] = true) := by
                intro h j hj hjk
                rcases Nat.lt_or_ge j k with h1 | h1
                · exact HALL.out j hj h1
                · obtain rfl : j = k := by omega
                  exact h
              have HBD : Hid (¬ (rnm2 c.routers[k].name ((c.routers.take k).map Rt.name) = true ∧ rtOk c.routers[k] = true) → R = false) := fun h => bool_ne fun h2 => h ((HIF.out.1 h2).router k hkl)
              obtain ⟨XS, hXS⟩ : ∃ x, (c.routers.take k).map Rt.name = x := ⟨_, rfl⟩
              obtain ⟨XN, hXN⟩ : ∃ x, ((c.routers.take (k + 1)).map Rt.name).map Value.string = x := ⟨_, rfl⟩
              have HXN := hide hXN
              rw [hXS] at HO HNS HLN HNX HBD
              rw [hXN] at HNS
              clear hXS hXN HALL
              generalize c.routers[k] = q at *
              have CN := hide (rname2_is w0.heap.size (.slice o k cp) XS q.name (by rw [HLN.out]; have := HSIX.out; omega) HZk.out.1 wr (by rw [HLN.out]; exact HO.out))
              go_wp2_with fail
              refine CN.out.mono ?_
              rintro e w4 ⟨rfl, hb4⟩
              have B4 := hide (HBR.out.trans (bless hb4 HBR.out.size))
              have BZ4 := hide (bthen HA.out B4.out)
              have N4 := hide ((hb4.block bc (heap_lt HN.out)).trans HN.out)
              have HO4 := hide (Ax.row_below HO.out hb4)
              have c0 := (BZ4.out.cell (p := ⟨b2, off + k * 6, none⟩) hb2).trans Y0.out
              have c1 := (BZ4.out.cell (p := ⟨b2, off + k * 6 + 1, none⟩) hb2).trans Y1.out
              have c2 := (BZ4.out.cell (p := ⟨b2, off + k * 6 + 2, none⟩) hb2).trans Y2.out
              have c3 := (BZ4.out.cell (p := ⟨b2, off + k * 6 + 3, none⟩) hb2).trans Y3.out
              have c4 := (BZ4.out.cell (p := ⟨b2, off + k * 6 + 4, none⟩) hb2).trans Y4.out
              have c5 := (BZ4.out.cell (p := ⟨b2, off + k * 6 + 5, none⟩) hb2).trans Y5.out
              clear a0 a1 a2 a3 a4 a5
              clear hb4 CN n2 HN HBR HO HBZ
              have n2 := cell_of N4.out 2 rfl
              generalize rnm2 q.name XS = r1 at *
              cases r1 with
              | false =>
                have HR : Hid (R = false) := HBD.out fun h => (by cases h.1)
                clear HIF HNX HBD
                go_wp2_with fail
                go_ret
                exact ⟨ret_bool HR.out.symm, BZ4.out⟩
              | true =>
              have CW := hide (rrouter_is q _ _ _ w4 (HRD.out.1.below PxR.mono BZ4.out) (HRD.out.2.1.below NbR.mono BZ4.out) (HRD.out.2.2.below LkR.mono BZ4.out) HUk HZk.out.2)
              go_wp2_with fail
              refine CW.out.mono ?_
              rintro e w5 ⟨rfl, hb5⟩
              have B5 := hide (B4.out.trans (bless hb5 B4.out.size))
              have BZ5 := hide (bthen HA.out B5.out)
              have N5 := hide ((hb5.block bc (heap_lt N4.out)).trans N4.out)
              have HO5 := hide (Ax.row_below HO4.out hb5)
              clear hb5 N4 HO4 B4 BZ4 n2 CW c0 c1 c2 c3 c4 c5
              have d0 := (BZ5.out.cell (p := ⟨b2, off + k * 6, none⟩) hb2).trans Y0.out
              have n2 := cell_of N5.out 2 rfl
              generalize rtOk q = r2 at *
              cases r2 with
              | false =>
                have HR : Hid (R = false) := HBD.out fun h => (by cases h.2)
                clear HIF HNX HBD HRD HUk HZk
                go_wp2_with fail
                go_ret
                exact ⟨ret_bool HR.out.symm, BZ5.out⟩
              | true =>
              have HALL2 := hide (HNX.out (by simp))
              clear HNX HBD HRD HUk HZk
              generalize q.name = t at *
              go_wp2_with (at_builtin; go_must (refine append_str1 (w0 := w0) rfl _ _ rfl _ k _ rfl (HO5.out.alloc _) w5.heap.size 1 t rfl ?c1 (by have := HSIX.out; omega) (balloc B5.out _) ?_))
              case c1 => simp
              intro v' w7 hnew hb7
              obtain ⟨no, nc, rfl⟩ := Ar.row_slice hnew
              rw [← HNS.out] at hnew
              have HNW := hide hnew
              have B7 := hide hb7
              clear hnew hb7 d0 n2 N5 HO5 B5 BZ5
              go_wp2_with fail
              exact ⟨⟨k + 1, no, nc, by go_num, rfl, by omega, HALL2, (by rw [HXN.out]; exact HNW), B7⟩, by simp [intOf] <;> omega⟩
            · have hkl' : ¬ (k : Int) < (c.routers.length : Int) := by omega
              obtain rfl : k = c.routers.length := by omega
              have Hrouters : Hid (∀ j (h : j < c.routers.length), rnm2 c.routers[j].name ((c.routers.take j).map Rt.name) = true ∧ rtOk c.routers[j] = true) := fun j h => HALL.out j h h
              have HR : Hid (R = true) := HIF.out.2 ⟨HSIX.out.1, HSIX.out.2.1, HSIX.out.2.2, Hlists.out, Hmaps.out, Hrouters.out⟩
              clear HALL HO HIF
              go_wp2_with fail
              go_ret
              exact ⟨ret_bool HR.out.symm, HBZ.out⟩
end Go.Proofs.YtpmmhmgojjlniaaGreatDoor
