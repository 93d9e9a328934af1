import Derived.Test.YtpkikfojiibdaaaGreatDoorP3
import Derived.Test.YtpkikfojiibdaaaGreatDoorP5
import Derived.Test.YtpkikfojiibdaaaGreatDoorCT1
/- The program's Text. -/
namespace Go.Proofs.YtpkikfojiibdaaaGreatDoor
open Go.RowKit Go.Sort

set_option maxHeartbeats 1000000 in
set_option maxRecDepth 100000 in
theorem textA_bad (a : At) (po co ko : Option Addr) (cp cc ck : Nat) (hm : At.may a = false) (w : World) (hA : At.lies w a po co ko) (h1 : a.path.length ≤ 100) (h2 : a.comms.length ≤ 100) (h3 : a.cl.length ≤ 100) (h4 : a.cl.length ≤ ck) :
    Calls Tryz.prog 17 #[.agg #[.int .i64 a.pf, .int .i64 a.md, .int .i64 a.og, .slice po a.path.length cp, .slice co a.comms.length cc, .int .i64 a.fr, .slice ko a.cl.length ck]] w fun e w' => e = .returned (.string ⟨#[]⟩) ∧ Below w.heap.size w w' := by
  have HB := hide (balloc (brefl w) (.cells #[.int .i64 a.pf, .int .i64 a.md, .int .i64 a.og, .slice po a.path.length cp, .slice co a.comms.length cc, .int .i64 a.fr, .slice ko a.cl.length ck] 25))
  have CM := hide (mayA_is a po co ko cp cc ck false hm _ (At.lies_below hA HB.out) h1 h2 h3 h4)
  obtain ⟨x0, x1, x2, pa, cm, x5, kl⟩ := a
  simp only at *
  clear hA hm h1 h2 h3 h4
  go_enter Tryz.func17, Tryz.ntmps17
  go_wp2_with fail
  refine CM.out.mono ?_
  rintro e w2 ⟨rfl, hb2⟩
  have HB2 := hide (bthen HB.out hb2)
  clear hb2 CM HB
  go_wp2_with fail
  go_ret
  exact ⟨rfl, HB2.out⟩
set_option maxHeartbeats 8000000 in
set_option maxRecDepth 100000 in
theorem textA_good (a : At) (po co ko : Option Addr) (cp cc ck : Nat) (t : ByteArray) (ht : t = ⟨(At.head a ++ At.frm a.fr ++ At.clt a.cl).toArray⟩) (hm : At.may a = true) (w : World) (hT : Tab w) (hA : At.lies w a po co ko) (h4 : a.cl.length ≤ ck) :
    Calls Tryz.prog 17 #[.agg #[.int .i64 a.pf, .int .i64 a.md, .int .i64 a.og, .slice po a.path.length cp, .slice co a.comms.length cc, .int .i64 a.fr, .slice ko a.cl.length ck]] w fun e w' => e = .returned (.string t) ∧ Below w.heap.size w w' := by
  obtain ⟨t0, t1, nm, tp, tc, u1, u2, u3, u4, u5, u6, u7, u8, u9, u10, hW⟩ := wy_of hm
  obtain ⟨e0, e1, en, ep, ec, a1, a2, a3, a4, a5, a6, a7, a8, a9, a10, eu⟩ := hW
  have hm' := hm
  unfold At.may at hm'
  simp only [Bool.and_eq_true, decide_eq_true_eq] at hm'
  obtain ⟨⟨k1, k2, k3, k4, k5, k6, k7, k8⟩, pm, cs, ks⟩ := hm'
  have lp := ((Is.may_iff _).1 pm).1
  have lc := ((Cm.Co.set_iff _).1 cs).1
  have lk := ((Cl.ok_iff _).1 ks).1
  have HB := hide (balloc (brefl w) (.cells #[.int .i64 a.pf, .int .i64 a.md, .int .i64 a.og, .slice po a.path.length cp, .slice co a.comms.length cc, .int .i64 a.fr, .slice ko a.cl.length ck] 25))
  have N0 := hide (heap_new w #[.int .i64 a.pf, .int .i64 a.md, .int .i64 a.og, .slice po a.path.length cp, .slice co a.comms.length cc, .int .i64 a.fr, .slice ko a.cl.length ck] 25)
  have HL := hide (At.lies_below hA HB.out)
  have T0 := hide (hT.on HB.out)
  have CM := hide (mayA_is a po co ko cp cc ck true hm _ HL.out (by omega) (by omega) (by omega) h4)
  obtain ⟨x0, x1, x2, pa, cm, x5, kl⟩ := a
  simp only at *
  have HT := hide ht
  have HEU := hide eu
  have HHL := hide (head_len hm)
  have HKS := hide ks
  have K7 := hide k7
  have K8 := hide k8
  have K1 := hide (And.intro k1 k2)
  have K3 := hide (And.intro k3 k4)
  have LP := hide lp
  clear hA hm ht eu pm cs ks k1 k2 k3 k4 k5 k6 k7 k8 lp h4 hT
  unfold Adds at a1 a2 a3 a4 a5 a6 a7 a8 a9 a10
  go_enter Tryz.func17, Tryz.ntmps17
  go_wp2_with fail
  generalize w.alloc (.cells #[.int .i64 x0, .int .i64 x1, .int .i64 x2, .slice po pa.length cp, .slice co cm.length cc, .int .i64 x5, .slice ko kl.length ck] 25) = W0 at *
  obtain ⟨p, hp⟩ : ∃ p, w.heap.size = p := ⟨_, rfl⟩
  rw [hp] at N0
  rw [hp]
  clear hp
  refine CM.out.mono ?_
  rintro e W2 ⟨rfl, hb1⟩
  have B2 := hide (bthen HB.out hb1)
  have L2 := hide (At.lies_below HL.out hb1)
  have N2 := hide ((hb1.block p (heap_lt N0.out)).trans N0.out)
  have T2 := hide (T0.out.on hb1)
  clear hb1 CM HB HL N0 T0
  go_wp2_with fail
  obtain ⟨c0, c1, c2, c3, c4, c5, c6⟩ := seven_cells N2.out
  have CN0 : Hid (∀ W', Below W2.heap.size W2 W' → Calls Tryz.prog 40 #[.int .i64 x0] W' fun e w' => e = .returned (.string t0) ∧ Below W'.heap.size W' w') := fun W' hb => itoaW_is x0 t0 K1.out.1 (by have := K1.out.2; omega) e0 W' (T2.out.on hb)
  have CN1 : Hid (∀ W', Below W2.heap.size W2 W' → Calls Tryz.prog 40 #[.int .i64 x1] W' fun e w' => e = .returned (.string t1) ∧ Below W'.heap.size W' w') := fun W' hb => itoaW_is x1 t1 K3.out.1 (by have := K3.out.2; omega) e1 W' (T2.out.on hb)
  have CO : Hid (∀ W', Calls Tryz.prog 41 #[.int .i64 x2] W' fun e w' => e = .returned (.string nm) ∧ Below W'.heap.size W' w') := fun W' => origin_is x2 nm en W'
  have CP : Hid (∀ W', Below W2.heap.size W2 W' → Calls Tryz.prog 42 #[.slice po pa.length cp] W' fun e w' => e = .returned (.string tp) ∧ Below W'.heap.size W' w') := fun W' hb => text_is po cp pa tp ep W' (T2.out.on hb) (Is.slot_below L2.out.1 hb) (by have := LP.out; omega)
  have CC : Hid (∀ W', Below W2.heap.size W2 W' → Calls Tryz.prog 43 #[.slice co cm.length cc] W' fun e w' => e = .returned (.string tc) ∧ Below W'.heap.size W' w') := fun W' hb => Cm.texts_is co cc cm tc ec W' (Cm.Co.slot_below L2.out.2.1 hb) (T2.out.on hb)
  have r0 := fun dd os => cell_regrown c0 dd os
  have r1 := fun dd os => cell_regrown c1 dd os
  have r2 := fun dd os => cell_regrown c2 dd os
  have r3 := fun dd os => cell_regrown c3 dd os
  have r4 := fun dd os => cell_regrown c4 dd os
  clear e0 e1 en ep ec c0 c1 c2 c3 c4 c5 c6
  refine wp_region_quiet_below (by kernel_rfl) (by kernel_rfl) ?_
  iterate 3 (go_big_quiet_step ((go_at_call 40; exact Calls.regrown_of (CN0.out _ (below_regrown _ _ _)))))
  iterate 23 (go_big_quiet_step ((first | (go_at_call 40; exact Calls.regrown_of (CN1.out _ (below_regrown _ _ _))) | (go_at_call 41; exact Calls.regrown_of (CO.out _)) | (go_at_call 42; exact Calls.regrown_of (CP.out _ (below_regrown _ _ _))) | (go_at_call 43; exact Calls.regrown_of (CC.out _ (below_regrown _ _ _))))))
  refine wpQuiet_nil ?_
  rintro _ ⟨⟨dd, os⟩, rfl⟩
  have hb3 := below_regrown W2 dd os
  generalize Sort.grow (redrawn W2 dd) os = W3 at hb3
  have B3 := hide (bthen B2.out hb3)
  have L3 := hide (At.lies_below L2.out hb3)
  have N3 := hide ((hb3.block p (heap_lt N2.out)).trans N2.out)
  have T3 := hide (T2.out.on hb3)
  clear hb3 r0 r1 r2 r3 r4 CP CC CO CN0 CN1 B2 L2 N2 T2 a1 a2 a3 a4 a5 a6 a7 a8 a9 a10
  obtain ⟨X, hX⟩ : ∃ X, X = At.head ⟨x0, x1, x2, pa, cm, x5, kl⟩ ++ At.frm x5 := ⟨_, rfl⟩
  have HXL : Hid (X.length ≤ 930) := by
    show _ ≤ _
    have h1 := HHL.out
    have h2 := frm_len K7.out K8.out
    rw [hX, List.length_append]
    omega
  have HXE : Hid (t = ⟨(X ++ At.clt kl).toArray⟩) := by show _ = _; rw [HT.out, hX]
  obtain ⟨c0, c1, c2, c3, c4, c5, c6⟩ := seven_cells N3.out
  obtain ⟨s5, hs5⟩ : ∃ s5 : ByteArray, s5 = ⟨X.toArray⟩ := ⟨_, rfl⟩
  have HS5 := hide hs5
  by_cases hx5 : x5 = 0
  · have hu5 : Hid (u10 = s5) := by
      show _ = _
      rw [HEU.out, hs5, hX, hx5]
      simp [At.frm]
    have hu5' := hu5.out.symm
    subst hx5
    clear hs5 hX HEU hu5
    subst hu5'
    rcases Nat.eq_zero_or_pos kl.length with hk0 | hk0
    · have hkl : kl = [] := List.length_eq_zero_iff.1 hk0
      subst hkl
      have HE : Hid (s5 = t) := by show _ = _; rw [HXE.out, HS5.out]; simp [At.clt]
      clear hk0 HKS L3
      go_wp2_with fail
      go_ret
      exact ⟨by rw [← HE.out]; rfl, B3.out⟩
    · have hk1 : (0 : Int) < (kl.length : Int) := by omega
      have hkne : kl ≠ [] := fun h => by rw [h] at hk0; exact absurd hk0 (Nat.lt_irrefl _)
      obtain ⟨tk, htk⟩ : ∃ tk : ByteArray, tk = ⟨(Lib.join (kl.map Lib.itoa) [32]).toArray⟩ := ⟨_, rfl⟩
      obtain ⟨v2, hv2⟩ : ∃ v2 : ByteArray, v2 = ⟨(tCl ++ Lib.join (kl.map Lib.itoa) [32]).toArray⟩ := ⟨_, rfl⟩
      obtain ⟨v3, hv3⟩ : ∃ v3 : ByteArray, v3 = ⟨(tCl ++ Lib.join (kl.map Lib.itoa) [32] ++ [93]).toArray⟩ := ⟨_, rfl⟩
      have hjl : (Lib.join (kl.map Lib.itoa) [32]).length ≤ 352 := by
        have h := Is.joinTo_len kl (Cl.may HKS.out) kl.length (Nat.le_refl _)
        unfold Is.joinTo at h
        rw [List.take_length] at h
        have := ((Cl.ok_iff kl).1 HKS.out).1
        omega
      have D1 : Adds ⟨#[32, 99, 108, 117, 115, 116, 101, 114, 115, 32, 91]⟩ tk v2 := by
        rw [htk, hv2]
        exact adds_list tCl _ (by decide) (by omega)
      have D2 : Adds v2 ⟨#[93]⟩ v3 := by
        rw [hv2, hv3]
        exact adds_list _ [93] (by simp [tCl]; omega) (by decide)
      have D3 : Adds s5 v3 t := by
        rw [HS5.out, hv3, HXE.out, At.clt, if_neg hkne]
        exact adds_list _ _ (by have := HXL.out; omega) (by simp [tCl]; omega)
      have CK := hide (fun W' (hb : Below W3.heap.size W3 W') => numbers_is ko ck kl tk (hide htk) W' (Is.slot_below L3.out.2.2 hb) (Cl.may HKS.out) (T3.out.on hb))
      unfold Adds at D1 D2 D3
      clear htk hv2 hv3 hjl hkne hk0 HKS HXL HXE HS5 HT HHL
      go_wp2_with fail
      refine (CK.out _ (brefl _)).mono ?_
      rintro e w5 ⟨rfl, hb5⟩
      have B5 := hide (bthen B3.out hb5)
      clear hb5 CK
      go_wp2_with fail
      go_ret
      exact ⟨rfl, B5.out⟩
  · have CN := hide (fun t ht W' (hb : Below W3.heap.size W3 W') => itoaW_is x5 t K7.out (by have := K8.out; omega) ht W' (T3.out.on hb))
    obtain ⟨n5, hn5⟩ : ∃ n5 : ByteArray, n5 = ⟨(Lib.itoa x5).toArray⟩ := ⟨_, rfl⟩
    obtain ⟨v1, hv1⟩ : ∃ v1 : ByteArray, v1 = ⟨(tFrom ++ Lib.itoa x5).toArray⟩ := ⟨_, rfl⟩
    have hil := itoa_len' K7.out (by have := K8.out; omega)
    have A1 : Adds ⟨#[32, 102, 114, 111, 109, 32]⟩ n5 v1 := by
      rw [hn5, hv1]
      exact adds_list tFrom _ (by decide) (by omega)
    have A2 : Adds u10 v1 s5 := by
      have he : X = At.head ⟨x0, x1, x2, pa, cm, x5, kl⟩ ++ (tFrom ++ Lib.itoa x5) := by rw [hX]; simp [At.frm, hx5]
      rw [hv1, HEU.out, hs5, he]
      exact adds_list _ _ (by have := HHL.out; omega) (by simp [tFrom]; omega)
    have CN5 := hide (CN.out n5 hn5 W3 (brefl _))
    have hx5' : (x5 != 0) = true := by simpa using hx5
    clear hv1 hn5 hs5 hX HEU hx5 hil CN
    unfold Adds at A1 A2
    go_wp2_with fail
    refine CN5.out.mono ?_
    rintro e w4 ⟨rfl, hb4⟩
    have B4 := hide (bthen B3.out hb4)
    have L4 := hide (At.lies_below L3.out hb4)
    have N4 := hide ((hb4.block p (heap_lt N3.out)).trans N3.out)
    have T4 := hide (T3.out.on hb4)
    clear hb4 CN5 B3 L3 N3 T3 c0 c1 c2 c3 c4 c5 c6
    have B3 := B4
    have L3 := L4
    have N3 := N4
    have T3 := T4
    clear B4 L4 N4 T4
    obtain ⟨c0, c1, c2, c3, c4, c5, c6⟩ := seven_cells N3.out
    obtain ⟨W3, hW3⟩ : ∃ x, x = w4 := ⟨_, rfl⟩
    subst hW3
    rcases Nat.eq_zero_or_pos kl.length with hk0 | hk0
    · have hkl : kl = [] := List.length_eq_zero_iff.1 hk0
      subst hkl
      have HE : Hid (s5 = t) := by show _ = _; rw [HXE.out, HS5.out]; simp [At.clt]
      clear hk0 HKS L3
      go_wp2_with fail
      go_ret
      exact ⟨by rw [← HE.out]; rfl, B3.out⟩
    · have hk1 : (0 : Int) < (kl.length : Int) := by omega
      have hkne : kl ≠ [] := fun h => by rw [h] at hk0; exact absurd hk0 (Nat.lt_irrefl _)
      obtain ⟨tk, htk⟩ : ∃ tk : ByteArray, tk = ⟨(Lib.join (kl.map Lib.itoa) [32]).toArray⟩ := ⟨_, rfl⟩
      obtain ⟨v2, hv2⟩ : ∃ v2 : ByteArray, v2 = ⟨(tCl ++ Lib.join (kl.map Lib.itoa) [32]).toArray⟩ := ⟨_, rfl⟩
      obtain ⟨v3, hv3⟩ : ∃ v3 : ByteArray, v3 = ⟨(tCl ++ Lib.join (kl.map Lib.itoa) [32] ++ [93]).toArray⟩ := ⟨_, rfl⟩
      have hjl : (Lib.join (kl.map Lib.itoa) [32]).length ≤ 352 := by
        have h := Is.joinTo_len kl (Cl.may HKS.out) kl.length (Nat.le_refl _)
        unfold Is.joinTo at h
        rw [List.take_length] at h
        have := ((Cl.ok_iff kl).1 HKS.out).1
        omega
      have D1 : Adds ⟨#[32, 99, 108, 117, 115, 116, 101, 114, 115, 32, 91]⟩ tk v2 := by
        rw [htk, hv2]
        exact adds_list tCl _ (by decide) (by omega)
      have D2 : Adds v2 ⟨#[93]⟩ v3 := by
        rw [hv2, hv3]
        exact adds_list _ [93] (by simp [tCl]; omega) (by decide)
      have D3 : Adds s5 v3 t := by
        rw [HS5.out, hv3, HXE.out, At.clt, if_neg hkne]
        exact adds_list _ _ (by have := HXL.out; omega) (by simp [tCl]; omega)
      have CK := hide (fun W' (hb : Below W3.heap.size W3 W') => numbers_is ko ck kl tk (hide htk) W' (Is.slot_below L3.out.2.2 hb) (Cl.may HKS.out) (T3.out.on hb))
      unfold Adds at D1 D2 D3
      clear htk hv2 hv3 hjl hkne hk0 HKS HXL HXE HS5 HT HHL
      go_wp2_with fail
      refine (CK.out _ (brefl _)).mono ?_
      rintro e w5 ⟨rfl, hb5⟩
      have B5 := hide (bthen B3.out hb5)
      clear hb5 CK
      go_wp2_with fail
      go_ret
      exact ⟨rfl, B5.out⟩
theorem textA_is (a : At) (po co ko : Option Addr) (cp cc ck : Nat) (t : ByteArray) (ht : t = ⟨(At.text a).toArray⟩) (w : World) (hT : Tab w) (hA : At.lies w a po co ko) (h1 : a.path.length ≤ 100) (h2 : a.comms.length ≤ 100) (h3 : a.cl.length ≤ 100) (h4 : a.cl.length ≤ ck) :
    Calls Tryz.prog 17 #[.agg #[.int .i64 a.pf, .int .i64 a.md, .int .i64 a.og, .slice po a.path.length cp, .slice co a.comms.length cc, .int .i64 a.fr, .slice ko a.cl.length ck]] w fun e w' => e = .returned (.string t) ∧ Below w.heap.size w w' := by
  subst ht
  unfold At.text
  cases hm : At.may a
  · exact textA_bad a po co ko cp cc ck hm w hA h1 h2 h3 h4
  · exact textA_good a po co ko cp cc ck _ rfl hm w hT hA h4
end Go.Proofs.YtpkikfojiibdaaaGreatDoor
