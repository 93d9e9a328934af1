/- The document's Text. -/
import Derived.Test.YtpkikfojiibdaaaDoorE5
namespace Go.Proofs.YtpkikfojiibdaaaDoor
open Go.RowKit

set_option maxHeartbeats 1000000 in
set_option maxRecDepth 100000 in
theorem refTextA_bad (a : At) (po co ko : Option Addr) (cp cc ck : Nat) (hm : At.may a = false) (w : World) (hA : At.lies w a po co ko) (h1 : a.path.length ≤ 100) (h2 : a.comms.length ≤ 100) (h3 : a.cl.length ≤ 100) :
    Calls Tryd.prog 11 #[.agg #[.int .i64 a.pf, .int .i64 a.md, .int .i64 a.og, .slice po a.path.length cp, .slice co a.comms.length cc, .int .i64 a.fr, .slice ko a.cl.length ck]] w fun e w' => e = .returned (.string ⟨#[]⟩) ∧ Below w.heap.size w w' := by
  have HB := hide (balloc (brefl w) (.cells #[.int .i64 a.pf, .int .i64 a.md, .int .i64 a.og, .slice po a.path.length cp, .slice co a.comms.length cc, .int .i64 a.fr, .slice ko a.cl.length ck] 25))
  have CM := hide (refMayA_is a po co ko cp cc ck false hm _ (At.lies_below hA HB.out) h1 h2 h3)
  obtain ⟨x0, x1, x2, pa, cm, x5, kl⟩ := a
  simp only at *
  clear hA hm
  go_enter Tryd.func11, Tryd.ntmps11
  go_wp2_with fail
  refine CM.out.mono ?_
  rintro e w2 ⟨rfl, hb2⟩
  have HB2 := hide (bthen HB.out hb2)
  clear hb2 CM HB
  go_wp2_with fail
  go_ret
  exact ⟨rfl, HB2.out⟩
set_option maxHeartbeats 4000000 in
set_option maxRecDepth 100000 in
theorem refTextA_good (a : At) (po co ko : Option Addr) (cp cc ck : Nat) (t : ByteArray) (ht : t = ⟨(At.head a ++ At.frm a.fr ++ At.clt a.cl).toArray⟩) (hm : At.may a = true) (w : World) (hA : At.lies w a po co ko) :
    Calls Tryd.prog 11 #[.agg #[.int .i64 a.pf, .int .i64 a.md, .int .i64 a.og, .slice po a.path.length cp, .slice co a.comms.length cc, .int .i64 a.fr, .slice ko a.cl.length ck]] w fun e w' => e = .returned (.string t) ∧ Below w.heap.size w w' := by
  obtain ⟨t0, t1, nm, tp, tc, u1, u2, u3, u4, u5, u6, u7, u8, u9, u10, hW⟩ := wy_of hm
  obtain ⟨e0, e1, en, ep, ec, a1, a2, a3, a4, a5, a6, a7, a8, a9, a10, eu⟩ := hW
  have hm' := hm
  unfold At.may at hm'
  simp only [Bool.and_eq_true, decide_eq_true_eq] at hm'
  obtain ⟨⟨k1, k2, k3, k4, k5, k6, k7, k8⟩, pm, cs, ks⟩ := hm'
  have lp := ((Is.may_iff _).1 pm).1
  have lc := ((Cm.Co.set_iff _).1 cs).1
  have lk := ((Cl.ok_iff _).1 ks).1
  have HB := hide (balloc (brefl w) (.cells #[.int .i64 a.pf, .int .i64 a.md, .int .i64 a.og, .slice po a.path.length cp, .slice co a.comms.length cc, .int .i64 a.fr, .slice ko a.cl.length ck] 25))
  have N0 := hide (heap_new w #[.int .i64 a.pf, .int .i64 a.md, .int .i64 a.og, .slice po a.path.length cp, .slice co a.comms.length cc, .int .i64 a.fr, .slice ko a.cl.length ck] 25)
  have HL := hide (At.lies_below hA HB.out)
  have CM := hide (refMayA_is a po co ko cp cc ck true hm _ HL.out (by omega) (by omega) (by omega))
  obtain ⟨x0, x1, x2, pa, cm, x5, kl⟩ := a
  simp only at *
  have HNM := hide (fun (w : World) (g : Nat) => nm_cell (w := w) (g := g) x2 ⟨k5, k6⟩)
  rw [← en] at HNM
  have CN0 : Hid (∀ W : World, Calls Tryd.prog 33 #[.int .i64 x0] W fun e w' => e = .returned (.string t0) ∧ Below W.heap.size W w') := fun W => by rw [e0]; exact refNumber_any x0 k1 (by omega) W
  have CN1 : Hid (∀ W : World, Calls Tryd.prog 33 #[.int .i64 x1] W fun e w' => e = .returned (.string t1) ∧ Below W.heap.size W w') := fun W => by rw [e1]; exact refNumber_any x1 k3 (by omega) W
  have HT := hide ht
  have HEU := hide eu
  have HHL := hide (head_len hm)
  have HKS := hide ks
  have HPS := hide pm
  have HCS := hide cs
  have hlt2 : x2 < 3 := by omega
  clear hA hm ht eu e0 e1 en pm cs ks k1 k2 k3 k4 k6
  unfold Adds at a1 a2 a3 a4 a5 a6 a7 a8 a9 a10
  go_enter Tryd.func11, Tryd.ntmps11
  go_wp2_with fail
  generalize w.alloc (.cells #[.int .i64 x0, .int .i64 x1, .int .i64 x2, .slice po pa.length cp, .slice co cm.length cc, .int .i64 x5, .slice ko kl.length ck] 25) = W0 at *
  obtain ⟨p, hp⟩ : ∃ p, w.heap.size = p := ⟨_, rfl⟩
  rw [hp] at N0
  rw [hp]
  clear hp
  refine CM.out.mono ?_
  rintro e w1 ⟨rfl, hb1⟩
  have B1 := hide (bthen HB.out hb1)
  have L1 := hide (At.lies_below HL.out hb1)
  have N1 := hide ((hb1.block p (heap_lt N0.out)).trans N0.out)
  clear hb1 CM HB HL N0
  go_wp2_with fail
  have NB := hide (balloc (brefl w1) (.cells #[.string ⟨#[105, 103, 112]⟩, .string ⟨#[101, 103, 112]⟩, .string ⟨#[110, 111, 110, 101]⟩] 9))
  have N2 := hide ((NB.out.block p (heap_lt N1.out)).trans N1.out)
  have G2 := hide (heap_new w1 #[.string ⟨#[105, 103, 112]⟩, .string ⟨#[101, 103, 112]⟩, .string ⟨#[110, 111, 110, 101]⟩] 9)
  have B2 := hide (bthen B1.out NB.out)
  have L2 := hide (At.lies_below L1.out NB.out)
  clear B1 L1 N1 NB
  generalize w1.alloc (.cells #[.string ⟨#[105, 103, 112]⟩, .string ⟨#[101, 103, 112]⟩, .string ⟨#[110, 111, 110, 101]⟩] 9) = W2 at *
  generalize w1.heap.size = g at *
  have gn := HNM.out W2 g G2.out
  obtain ⟨c0, c1, c2, c3, c4, c5, c6⟩ := seven_cells N2.out
  have CP : Hid (∀ W', Below W2.heap.size W2 W' → Calls Tryd.prog 34 #[.slice po pa.length cp] W' fun e w' => e = .returned (.string tp) ∧ Below W'.heap.size W' w') := fun W' hb => refText_is po cp pa tp ep W' (Is.slot_below L2.out.1 hb) (by omega)
  have CC : Hid (∀ W', Below W2.heap.size W2 W' → Calls Tryd.prog 35 #[.slice co cm.length cc] W' fun e w' => e = .returned (.string tc) ∧ Below W'.heap.size W' w') := fun W' hb => Cm.refTexts_is co cc cm tc ec W' (Cm.Co.slot_below L2.out.2.1 hb) (by omega)
  have r0 := fun dd os => cell_regrown c0 dd os
  have r1 := fun dd os => cell_regrown c1 dd os
  have r2 := fun dd os => cell_regrown c2 dd os
  have r3 := fun dd os => cell_regrown c3 dd os
  have r4 := fun dd os => cell_regrown c4 dd os
  have rg := fun dd os => cell_regrown gn dd os
  clear ep ec gn c0 c1 c2 c3 c4 c5 c6
  refine wp_region_quiet_below (by kernel_rfl) (by kernel_rfl) ?_
  iterate 3 (go_big_quiet_step ((go_at_call 33; exact Calls.regrown_of (CN0.out _))))
  iterate 25 (go_big_quiet_step ((first | (go_at_call 33; exact Calls.regrown_of (CN1.out _)) | (go_at_call 34; exact Calls.regrown_of (CP.out _ (below_regrown _ _ _))) | (go_at_call 35; exact Calls.regrown_of (CC.out _ (below_regrown _ _ _))))))
  refine wpQuiet_nil ?_
  rintro _ ⟨⟨dd, os⟩, rfl⟩
  have hb3 := below_regrown W2 dd os
  generalize Sort.grow (redrawn W2 dd) os = W3 at hb3
  have B3 := hide (bthen B2.out hb3)
  have L3 := hide (At.lies_below L2.out hb3)
  have N3 := hide ((hb3.block p (heap_lt N2.out)).trans N2.out)
  clear hb3 r0 r1 r2 r3 r4 rg CP CC CN0 CN1 HNM B2 L2 N2 G2 a1 a2 a3 a4 a5 a6 a7 a8 a9 a10
  obtain ⟨X, hX⟩ : ∃ X, X = At.head ⟨x0, x1, x2, pa, cm, x5, kl⟩ ++ At.frm x5 := ⟨_, rfl⟩
  have HXL : Hid (X.length ≤ 930) := by
    show _ ≤ _
    have h1 := HHL.out
    have h2 := frm_len k7 k8
    rw [hX, List.length_append]
    omega
  have HXE : Hid (t = ⟨(X ++ At.clt kl).toArray⟩) := by show _ = _; rw [HT.out, hX]
  obtain ⟨c0, c1, c2, c3, c4, c5, c6⟩ := seven_cells N3.out
  obtain ⟨s5, hs5⟩ : ∃ s5 : ByteArray, s5 = ⟨X.toArray⟩ := ⟨_, rfl⟩
  have HS5 := hide hs5
  by_cases hx5 : x5 = 0
  · have hu5 : Hid (u10 = s5) := by
      show _ = _
      rw [HEU.out, hs5, hX, hx5]
      simp [At.frm]
    have hu5' := hu5.out
    subst hx5
    clear hs5 hX HEU hu5
    subst hu5'
    go_wp2_with fail
    go_loopw [4, 5] (fun v4 v5 wr => ∃ (k : Nat) (s : ByteArray), v5 = .int .i64 k ∧ v4 = .string s ∧ k ≤ kl.length ∧ Hid (s = ⟨(X ++ At.cltTo kl k).toArray⟩) ∧ Below W3.heap.size W3 wr) (fun _ v5 _ => kl.length - (intOf v5).toNat)
    case atStart => exact ⟨0, _, rfl, rfl, Nat.zero_le _, (by show _ = _; rw [HS5.out]; simp [At.cltTo]), brefl _⟩
    case round =>
      obtain ⟨k, s, rfl, rfl, hk, HS, hbr⟩ := hrel
      have HBR := hide hbr
      have NR := hide ((hbr.block p (heap_lt N3.out)).trans N3.out)
      clear hbr
      obtain ⟨d0, d1, d2, d3, d4, d5, d6⟩ := seven_cells NR.out
      have hlk : kl.length ≤ 8 := lk
      by_cases hkl : k < kl.length
      · have hkl' : (k : Int) < (kl.length : Int) := by omega
        obtain ⟨b, off, rfl, hrd⟩ := Is.slot_at L3.out.2.2 hkl
        have e0 := Is.reads_below hrd HBR.out k hkl
        clear hrd
        have has := (Is.as_iff _).1 (((Cl.ok_iff kl).1 HKS.out).2.1 k hkl)
        have hcl := cltTo_len HKS.out k hk
        have hxl := HXL.out
        have HIT := hide (itoa_len' (n := kl[k]) (by omega) (by omega))
        rcases Nat.eq_zero_or_pos k with hk0 | hk0
        · subst hk0
          have HN := hide (cltTo_one hkl)
          simp only [Nat.add_zero] at e0
          generalize kl[0] = y at *
          have CN : Hid (∀ W : World, Calls Tryd.prog 33 #[.int .i64 y] W fun e w' => e = .returned (.string ⟨(Lib.itoa y).toArray⟩) ∧ Below W.heap.size W w') := fun W => refNumber_any y (by omega) (by omega) W
          obtain ⟨q1, hq1⟩ : ∃ q1 : ByteArray, q1 = ⟨(X ++ tCl).toArray⟩ := ⟨_, rfl⟩
          obtain ⟨n1, hn1⟩ : ∃ n1 : ByteArray, n1 = ⟨(Lib.itoa y).toArray⟩ := ⟨_, rfl⟩
          obtain ⟨q2, hq2⟩ : ∃ q2 : ByteArray, q2 = ⟨(X ++ tCl ++ Lib.itoa y).toArray⟩ := ⟨_, rfl⟩
          obtain ⟨q3, hq3⟩ : ∃ q3 : ByteArray, q3 = ⟨(X ++ tCl ++ Lib.itoa y ++ [93]).toArray⟩ := ⟨_, rfl⟩
          have A1 : Adds s ⟨#[32, 99, 108, 117, 115, 116, 101, 114, 115, 32, 91]⟩ q1 := by
            have e : s = ⟨X.toArray⟩ := by rw [HS.out]; simp [At.cltTo]
            rw [e, hq1]
            exact adds_list _ tCl (by omega) (by decide)
          have A2 : Adds q1 n1 q2 := by
            rw [hq1, hn1, hq2]
            exact adds_list _ _ (by simp [tCl]; omega) (by have := HIT.out; omega)
          have A3 : Adds q2 ⟨#[93]⟩ q3 := by
            rw [hq2, hq3]
            exact adds_list _ [93] (by have := HIT.out; simp [tCl]; omega) (by decide)
          rw [← hn1] at CN
          unfold Adds at A1 A2 A3
          have HQ2 := hide hq2
          have HQ3 := hide hq3
          clear hq1 hn1 hq2 hq3 hcl hxl has HIT
          by_cases hend : 1 = kl.length
          · have HF : Hid (At.cltTo kl 1 = tCl ++ Lib.itoa y ++ [93]) := by show _ = _; rw [HN.out, if_pos hend]
            have hend' : ((0 : Int) == (kl.length : Int) - 1) = true := by simp; omega
            have hlen1 : (kl.length : Int) - 1 = 0 := by omega
            clear hend hend'
            go_wp2_with fail
            refine (CN.out _).mono ?_
            rintro e w5 ⟨rfl, hb5⟩
            have B5 := hide (bthen HBR.out hb5)
            have N5 := hide ((hb5.block p (heap_lt NR.out)).trans NR.out)
            clear hb5 d0 d1 d2 d3 d4 d5 d6
            obtain ⟨d0, d1, d2, d3, d4, d5, d6⟩ := seven_cells N5.out
            go_wp2_with fail
            refine ⟨⟨1, q3, by go_num, rfl, by omega, ?_, B5.out⟩, by simp [intOf] <;> omega⟩
            show _ = _
            rw [HQ3.out, HF.out]
            simp
          · have HF : Hid (At.cltTo kl 1 = tCl ++ Lib.itoa y) := by show _ = _; rw [HN.out, if_neg hend]; simp
            have hend' : ((0 : Int) == (kl.length : Int) - 1) = false := by simp; omega
            clear hend
            go_wp2_with fail
            refine (CN.out _).mono ?_
            rintro e w5 ⟨rfl, hb5⟩
            have B5 := hide (bthen HBR.out hb5)
            have N5 := hide ((hb5.block p (heap_lt NR.out)).trans NR.out)
            clear hb5 d0 d1 d2 d3 d4 d5 d6
            obtain ⟨d0, d1, d2, d3, d4, d5, d6⟩ := seven_cells N5.out
            go_wp2_with fail
            refine ⟨⟨1, q2, by go_num, rfl, by omega, ?_, B5.out⟩, by simp [intOf] <;> omega⟩
            show _ = _
            rw [HQ2.out, HF.out]
            simp
        · obtain ⟨m, rfl⟩ : ∃ m, k = m + 1 := ⟨k - 1, by omega⟩
          have HN := hide (cltTo_succ hkl)
          have hne0 : (((m : Int) + 1) == 0) = false := by simp; omega
          have hkl2 : (m : Int) + 1 < (kl.length : Int) := by omega
          generalize kl[m + 1] = y at *
          have CN : Hid (∀ W : World, Calls Tryd.prog 33 #[.int .i64 y] W fun e w' => e = .returned (.string ⟨(Lib.itoa y).toArray⟩) ∧ Below W.heap.size W w') := fun W => refNumber_any y (by omega) (by omega) W
          obtain ⟨q1, hq1⟩ : ∃ q1 : ByteArray, q1 = ⟨(X ++ At.cltTo kl (m + 1) ++ [32]).toArray⟩ := ⟨_, rfl⟩
          obtain ⟨n1, hn1⟩ : ∃ n1 : ByteArray, n1 = ⟨(Lib.itoa y).toArray⟩ := ⟨_, rfl⟩
          obtain ⟨q2, hq2⟩ : ∃ q2 : ByteArray, q2 = ⟨(X ++ At.cltTo kl (m + 1) ++ [32] ++ Lib.itoa y).toArray⟩ := ⟨_, rfl⟩
          obtain ⟨q3, hq3⟩ : ∃ q3 : ByteArray, q3 = ⟨(X ++ At.cltTo kl (m + 1) ++ [32] ++ Lib.itoa y ++ [93]).toArray⟩ := ⟨_, rfl⟩
          have A1 : Adds s ⟨#[32]⟩ q1 := by
            rw [HS.out, hq1]
            exact adds_list _ [32] (by rw [List.length_append]; omega) (by decide)
          have A2 : Adds q1 n1 q2 := by
            rw [hq1, hn1, hq2]
            exact adds_list _ _ (by simp; omega) (by have := HIT.out; omega)
          have A3 : Adds q2 ⟨#[93]⟩ q3 := by
            rw [hq2, hq3]
            exact adds_list _ [93] (by have := HIT.out; simp; omega) (by decide)
          rw [← hn1] at CN
          unfold Adds at A1 A2 A3
          have HQ2 := hide hq2
          have HQ3 := hide hq3
          clear hq1 hn1 hq2 hq3 hcl hxl has HIT
          by_cases hend : m + 1 + 1 = kl.length
          · have HF : Hid (At.cltTo kl (m + 1 + 1) = At.cltTo kl (m + 1) ++ [32] ++ Lib.itoa y ++ [93]) := by show _ = _; rw [HN.out, if_pos hend]
            have hend' : (((m : Int) + 1) == (kl.length : Int) - 1) = true := by simp; omega
            have hlen1 : (kl.length : Int) - 1 = (m : Int) + 1 := by omega
            clear hend hend'
            go_wp2_with fail
            refine (CN.out _).mono ?_
            rintro e w5 ⟨rfl, hb5⟩
            have B5 := hide (bthen HBR.out hb5)
            have N5 := hide ((hb5.block p (heap_lt NR.out)).trans NR.out)
            clear hb5 d0 d1 d2 d3 d4 d5 d6
            obtain ⟨d0, d1, d2, d3, d4, d5, d6⟩ := seven_cells N5.out
            go_wp2_with fail
            refine ⟨⟨m + 1 + 1, q3, by go_num, rfl, by omega, ?_, B5.out⟩, by simp [intOf] <;> omega⟩
            show _ = _
            rw [HQ3.out, HF.out]
            simp
          · have HF : Hid (At.cltTo kl (m + 1 + 1) = At.cltTo kl (m + 1) ++ [32] ++ Lib.itoa y) := by show _ = _; rw [HN.out, if_neg hend]; simp
            have hend' : (((m : Int) + 1) == (kl.length : Int) - 1) = false := by simp; omega
            clear hend
            go_wp2_with fail
            refine (CN.out _).mono ?_
            rintro e w5 ⟨rfl, hb5⟩
            have B5 := hide (bthen HBR.out hb5)
            have N5 := hide ((hb5.block p (heap_lt NR.out)).trans NR.out)
            clear hb5 d0 d1 d2 d3 d4 d5 d6
            obtain ⟨d0, d1, d2, d3, d4, d5, d6⟩ := seven_cells N5.out
            go_wp2_with fail
            refine ⟨⟨m + 1 + 1, q2, by go_num, rfl, by omega, ?_, B5.out⟩, by simp [intOf] <;> omega⟩
            show _ = _
            rw [HQ2.out, HF.out]
            simp
      · obtain rfl : k = kl.length := by omega
        have HE : Hid (s = t) := by show _ = _; rw [HXE.out, ← cltTo_end]; exact HS.out
        have B5 := hide (bthen B3.out HBR.out)
        go_wp2_with fail
        go_ret
        exact ⟨by rw [← HE.out]; rfl, B5.out⟩
  · have CN : Hid (∀ W : World, Calls Tryd.prog 33 #[.int .i64 x5] W fun e w' => e = .returned (.string ⟨(Lib.itoa x5).toArray⟩) ∧ Below W.heap.size W w') := fun W => refNumber_any x5 k7 (by omega) W
    obtain ⟨v1, hv1⟩ : ∃ v1 : ByteArray, v1 = ⟨(At.head ⟨x0, x1, x2, pa, cm, x5, kl⟩ ++ tFrom).toArray⟩ := ⟨_, rfl⟩
    obtain ⟨n5, hn5⟩ : ∃ n5 : ByteArray, n5 = ⟨(Lib.itoa x5).toArray⟩ := ⟨_, rfl⟩
    have A1 : Adds u10 ⟨#[32, 102, 114, 111, 109, 32]⟩ v1 := by
      rw [HEU.out, hv1]
      exact adds_list _ tFrom (by have := HHL.out; omega) (by decide)
    have A2 : Adds v1 n5 s5 := by
      have he : X = At.head ⟨x0, x1, x2, pa, cm, x5, kl⟩ ++ tFrom ++ Lib.itoa x5 := by rw [hX]; simp [At.frm, hx5]
      rw [hv1, hn5, hs5, he]
      exact adds_list _ _ (by have := HHL.out; simp [tFrom]; omega) (by have := itoa_len' k7 (by omega); omega)
    rw [← hn5] at CN
    have hx5' : (x5 != 0) = true := by simpa using hx5
    clear hv1 hn5 hs5 hX HEU hx5
    unfold Adds at A1 A2
    go_wp2_with fail
    refine (CN.out _).mono ?_
    rintro e w4 ⟨rfl, hb4⟩
    have B4 := hide (bthen B3.out hb4)
    have L4 := hide (At.lies_below L3.out hb4)
    have N4 := hide ((hb4.block p (heap_lt N3.out)).trans N3.out)
    clear hb4 CN B3 L3 N3 c0 c1 c2 c3 c4 c5 c6
    have B3 := B4
    have L3 := L4
    have N3 := N4
    clear B4 L4 N4
    obtain ⟨c0, c1, c2, c3, c4, c5, c6⟩ := seven_cells N3.out
    obtain ⟨W3, hW3⟩ : ∃ x, x = w4 := ⟨_, rfl⟩
    subst hW3
    go_wp2_with fail
    go_loopw [4, 5] (fun v4 v5 wr => ∃ (k : Nat) (s : ByteArray), v5 = .int .i64 k ∧ v4 = .string s ∧ k ≤ kl.length ∧ Hid (s = ⟨(X ++ At.cltTo kl k).toArray⟩) ∧ Below W3.heap.size W3 wr) (fun _ v5 _ => kl.length - (intOf v5).toNat)
    case atStart => exact ⟨0, _, rfl, rfl, Nat.zero_le _, (by show _ = _; rw [HS5.out]; simp [At.cltTo]), brefl _⟩
    case round =>
      obtain ⟨k, s, rfl, rfl, hk, HS, hbr⟩ := hrel
      have HBR := hide hbr
      have NR := hide ((hbr.block p (heap_lt N3.out)).trans N3.out)
      clear hbr
      obtain ⟨d0, d1, d2, d3, d4, d5, d6⟩ := seven_cells NR.out
      have hlk : kl.length ≤ 8 := lk
      by_cases hkl : k < kl.length
      · have hkl' : (k : Int) < (kl.length : Int) := by omega
        obtain ⟨b, off, rfl, hrd⟩ := Is.slot_at L3.out.2.2 hkl
        have e0 := Is.reads_below hrd HBR.out k hkl
        clear hrd
        have has := (Is.as_iff _).1 (((Cl.ok_iff kl).1 HKS.out).2.1 k hkl)
        have hcl := cltTo_len HKS.out k hk
        have hxl := HXL.out
        have HIT := hide (itoa_len' (n := kl[k]) (by omega) (by omega))
        rcases Nat.eq_zero_or_pos k with hk0 | hk0
        · subst hk0
          have HN := hide (cltTo_one hkl)
          simp only [Nat.add_zero] at e0
          generalize kl[0] = y at *
          have CN : Hid (∀ W : World, Calls Tryd.prog 33 #[.int .i64 y] W fun e w' => e = .returned (.string ⟨(Lib.itoa y).toArray⟩) ∧ Below W.heap.size W w') := fun W => refNumber_any y (by omega) (by omega) W
          obtain ⟨q1, hq1⟩ : ∃ q1 : ByteArray, q1 = ⟨(X ++ tCl).toArray⟩ := ⟨_, rfl⟩
          obtain ⟨n1, hn1⟩ : ∃ n1 : ByteArray, n1 = ⟨(Lib.itoa y).toArray⟩ := ⟨_, rfl⟩
          obtain ⟨q2, hq2⟩ : ∃ q2 : ByteArray, q2 = ⟨(X ++ tCl ++ Lib.itoa y).toArray⟩ := ⟨_, rfl⟩
          obtain ⟨q3, hq3⟩ : ∃ q3 : ByteArray, q3 = ⟨(X ++ tCl ++ Lib.itoa y ++ [93]).toArray⟩ := ⟨_, rfl⟩
          have A1 : Adds s ⟨#[32, 99, 108, 117, 115, 116, 101, 114, 115, 32, 91]⟩ q1 := by
            have e : s = ⟨X.toArray⟩ := by rw [HS.out]; simp [At.cltTo]
            rw [e, hq1]
            exact adds_list _ tCl (by omega) (by decide)
          have A2 : Adds q1 n1 q2 := by
            rw [hq1, hn1, hq2]
            exact adds_list _ _ (by simp [tCl]; omega) (by have := HIT.out; omega)
          have A3 : Adds q2 ⟨#[93]⟩ q3 := by
            rw [hq2, hq3]
            exact adds_list _ [93] (by have := HIT.out; simp [tCl]; omega) (by decide)
          rw [← hn1] at CN
          unfold Adds at A1 A2 A3
          have HQ2 := hide hq2
          have HQ3 := hide hq3
          clear hq1 hn1 hq2 hq3 hcl hxl has HIT
          by_cases hend : 1 = kl.length
          · have HF : Hid (At.cltTo kl 1 = tCl ++ Lib.itoa y ++ [93]) := by show _ = _; rw [HN.out, if_pos hend]
            have hend' : ((0 : Int) == (kl.length : Int) - 1) = true := by simp; omega
            have hlen1 : (kl.length : Int) - 1 = 0 := by omega
            clear hend hend'
            go_wp2_with fail
            refine (CN.out _).mono ?_
            rintro e w5 ⟨rfl, hb5⟩
            have B5 := hide (bthen HBR.out hb5)
            have N5 := hide ((hb5.block p (heap_lt NR.out)).trans NR.out)
            clear hb5 d0 d1 d2 d3 d4 d5 d6
            obtain ⟨d0, d1, d2, d3, d4, d5, d6⟩ := seven_cells N5.out
            go_wp2_with fail
            refine ⟨⟨1, q3, by go_num, rfl, by omega, ?_, B5.out⟩, by simp [intOf] <;> omega⟩
            show _ = _
            rw [HQ3.out, HF.out]
            simp
          · have HF : Hid (At.cltTo kl 1 = tCl ++ Lib.itoa y) := by show _ = _; rw [HN.out, if_neg hend]; simp
            have hend' : ((0 : Int) == (kl.length : Int) - 1) = false := by simp; omega
            clear hend
            go_wp2_with fail
            refine (CN.out _).mono ?_
            rintro e w5 ⟨rfl, hb5⟩
            have B5 := hide (bthen HBR.out hb5)
            have N5 := hide ((hb5.block p (heap_lt NR.out)).trans NR.out)
            clear hb5 d0 d1 d2 d3 d4 d5 d6
            obtain ⟨d0, d1, d2, d3, d4, d5, d6⟩ := seven_cells N5.out
            go_wp2_with fail
            refine ⟨⟨1, q2, by go_num, rfl, by omega, ?_, B5.out⟩, by simp [intOf] <;> omega⟩
            show _ = _
            rw [HQ2.out, HF.out]
            simp
        · obtain ⟨m, rfl⟩ : ∃ m, k = m + 1 := ⟨k - 1, by omega⟩
          have HN := hide (cltTo_succ hkl)
          have hne0 : (((m : Int) + 1) == 0) = false := by simp; omega
          have hkl2 : (m : Int) + 1 < (kl.length : Int) := by omega
          generalize kl[m + 1] = y at *
          have CN : Hid (∀ W : World, Calls Tryd.prog 33 #[.int .i64 y] W fun e w' => e = .returned (.string ⟨(Lib.itoa y).toArray⟩) ∧ Below W.heap.size W w') := fun W => refNumber_any y (by omega) (by omega) W
          obtain ⟨q1, hq1⟩ : ∃ q1 : ByteArray, q1 = ⟨(X ++ At.cltTo kl (m + 1) ++ [32]).toArray⟩ := ⟨_, rfl⟩
          obtain ⟨n1, hn1⟩ : ∃ n1 : ByteArray, n1 = ⟨(Lib.itoa y).toArray⟩ := ⟨_, rfl⟩
          obtain ⟨q2, hq2⟩ : ∃ q2 : ByteArray, q2 = ⟨(X ++ At.cltTo kl (m + 1) ++ [32] ++ Lib.itoa y).toArray⟩ := ⟨_, rfl⟩
          obtain ⟨q3, hq3⟩ : ∃ q3 : ByteArray, q3 = ⟨(X ++ At.cltTo kl (m + 1) ++ [32] ++ Lib.itoa y ++ [93]).toArray⟩ := ⟨_, rfl⟩
          have A1 : Adds s ⟨#[32]⟩ q1 := by
            rw [HS.out, hq1]
            exact adds_list _ [32] (by rw [List.length_append]; omega) (by decide)
          have A2 : Adds q1 n1 q2 := by
            rw [hq1, hn1, hq2]
            exact adds_list _ _ (by simp; omega) (by have := HIT.out; omega)
          have A3 : Adds q2 ⟨#[93]⟩ q3 := by
            rw [hq2, hq3]
            exact adds_list _ [93] (by have := HIT.out; simp; omega) (by decide)
          rw [← hn1] at CN
          unfold Adds at A1 A2 A3
          have HQ2 := hide hq2
          have HQ3 := hide hq3
          clear hq1 hn1 hq2 hq3 hcl hxl has HIT
          by_cases hend : m + 1 + 1 = kl.length
          · have HF : Hid (At.cltTo kl (m + 1 + 1) = At.cltTo kl (m + 1) ++ [32] ++ Lib.itoa y ++ [93]) := by show _ = _; rw [HN.out, if_pos hend]
            have hend' : (((m : Int) + 1) == (kl.length : Int) - 1) = true := by simp; omega
            have hlen1 : (kl.length : Int) - 1 = (m : Int) + 1 := by omega
            clear hend hend'
            go_wp2_with fail
            refine (CN.out _).mono ?_
            rintro e w5 ⟨rfl, hb5⟩
            have B5 := hide (bthen HBR.out hb5)
            have N5 := hide ((hb5.block p (heap_lt NR.out)).trans NR.out)
            clear hb5 d0 d1 d2 d3 d4 d5 d6
            obtain ⟨d0, d1, d2, d3, d4, d5, d6⟩ := seven_cells N5.out
            go_wp2_with fail
            refine ⟨⟨m + 1 + 1, q3, by go_num, rfl, by omega, ?_, B5.out⟩, by simp [intOf] <;> omega⟩
            show _ = _
            rw [HQ3.out, HF.out]
            simp
          · have HF : Hid (At.cltTo kl (m + 1 + 1) = At.cltTo kl (m + 1) ++ [32] ++ Lib.itoa y) := by show _ = _; rw [HN.out, if_neg hend]; simp
            have hend' : (((m : Int) + 1) == (kl.length : Int) - 1) = false := by simp; omega
            clear hend
            go_wp2_with fail
            refine (CN.out _).mono ?_
            rintro e w5 ⟨rfl, hb5⟩
            have B5 := hide (bthen HBR.out hb5)
            have N5 := hide ((hb5.block p (heap_lt NR.out)).trans NR.out)
            clear hb5 d0 d1 d2 d3 d4 d5 d6
            obtain ⟨d0, d1, d2, d3, d4, d5, d6⟩ := seven_cells N5.out
            go_wp2_with fail
            refine ⟨⟨m + 1 + 1, q2, by go_num, rfl, by omega, ?_, B5.out⟩, by simp [intOf] <;> omega⟩
            show _ = _
            rw [HQ2.out, HF.out]
            simp
      · obtain rfl : k = kl.length := by omega
        have HE : Hid (s = t) := by show _ = _; rw [HXE.out, ← cltTo_end]; exact HS.out
        have B5 := hide (bthen B3.out HBR.out)
        go_wp2_with fail
        go_ret
        exact ⟨by rw [← HE.out]; rfl, B5.out⟩
end Go.Proofs.YtpkikfojiibdaaaDoor
