/- The document's router. -/
import Derived.Test.YtpmmhmgojjlniaaGreatDoorQ02
import Derived.Test.YtpmmhmgojjlniaaGreatDoorQ03
import Derived.Test.YtpmmhmgojjlniaaGreatDoorQ37
import Derived.Test.YtpmmhmgojjlniaaGreatDoorQ43
namespace Go.Proofs.YtpmmhmgojjlniaaGreatDoor
open Go.RowKit Go.Sort
theorem bool_ne {R : Bool} (h : ¬ R = true) : R = false := by cases R <;> simp_all
set_option maxHeartbeats 16000000 in
set_option maxRecDepth 100000 in
theorem rrouter_is (r : Rt) (vn vb vl : Value) (w : World) (h1 : Rd w 2 PxR vn r.nets) (h2 : Rd w 4 NbR vb r.nbs) (h3 : Rd w 2 LkR vl r.links) (hw : ∀ p ∈ r.nets, U32 p.1) (hsz : (∀ n ∈ r.nbs, n.name.size ≤ 1000 ∧ n.imp.size ≤ 1000 ∧ n.exp.size ≤ 1000) ∧ ∀ k ∈ r.links, k.name.size ≤ 1000) :
    Calls Tryz.prog 28 #[.agg #[.string r.name, .int .i64 r.asn, .int .i64 r.id, vn, vb, vl]] w fun e w' => e = .returned (.bool (rtOk r)) ∧ Below w.heap.size w w' := by
  obtain ⟨on, kn, rfl⟩ := h1.slice
  obtain ⟨ob, kb, rfl⟩ := h2.slice
  obtain ⟨ol, kl, rfl⟩ := h3.slice
  have HIF := hide (rtOk_iff hw)
  have RN := hide h1
  have RB := hide h2
  have RL := hide h3
  have HU := hide hw
  have HZ := hide hsz
  generalize rtOk r = R at *
  have A0 := balloc (brefl w) (.cells #[.string r.name, .int .i64 r.asn, .int .i64 r.id, .slice on r.nets.length kn, .slice ob r.nbs.length kb, .slice ol r.links.length kl] 66)
  have N := hide (heap_new w #[.string r.name, .int .i64 r.asn, .int .i64 r.id, .slice on r.nets.length kn, .slice ob r.nbs.length kb, .slice ol r.links.length kl] 66)
  have HA := hide A0
  have hwl : w.heap.size < (w.alloc (.cells #[.string r.name, .int .i64 r.asn, .int .i64 r.id, .slice on r.nets.length kn, .slice ob r.nbs.length kb, .slice ol r.links.length kl] 66)).heap.size := by rw [size_alloc]; omega
  clear h1 h2 h3 A0 hw hsz
  go_enter Tryz.func28, Tryz.ntmps28
  go_upto_region 1 with fail
  obtain ⟨bc, hbc⟩ : ∃ q, w.heap.size = q := ⟨_, rfl⟩
  have HBC := hide hbc
  rw [hbc] at N hwl ⊢
  obtain ⟨w0, hw0⟩ : ∃ q, w.alloc (.cells #[.string r.name, .int .i64 r.asn, .int .i64 r.id, .slice on r.nets.length kn, .slice ob r.nbs.length kb, .slice ol r.links.length kl] 66) = q := ⟨_, rfl⟩
  rw [hw0] at N HA hwl ⊢
  have hw0l : w.heap.size ≤ w0.heap.size := by omega
  clear hw0 hbc
  have n1 := cell_of N.out 1 rfl
  have n2 := cell_of N.out 2 rfl
  have n3 := cell_of N.out 3 rfl
  have n4 := cell_of N.out 4 rfl
  have n5 := cell_of N.out 5 rfl
  have CA := hide (fun W => Ar.refAS_is r.asn (Ar.Is.as r.asn) rfl W)
  have CI := hide (fun W => Ar.refAS_is r.id (Ar.Is.as r.id) rfl W)
  go_wp2_with fail
  refine (CA.out _).mono ?_
  rintro e w1 ⟨rfl, hw1⟩
  rw [hw1]
  clear hw1
  cases ha : Ar.Is.as r.asn with
  | false =>
    have HR : Hid (R = false) := bool_ne fun h => by have := (HIF.out.1 h).asn; rw [ha] at this; cases this
    clear HIF CA CI ha
    go_wp2_with fail
    go_ret
    exact ⟨ret_bool HR.out.symm, HA.out⟩
  | true =>
  go_wp2_with fail
  refine (CI.out _).mono ?_
  rintro e w1 ⟨rfl, hw1⟩
  rw [hw1]
  clear hw1
  cases hi : Ar.Is.as r.id with
  | false =>
    have HR : Hid (R = false) := bool_ne fun h => by have := (HIF.out.1 h).id; rw [hi] at this; cases this
    clear HIF CA CI ha hi
    go_wp2_with fail
    go_ret
    exact ⟨ret_bool HR.out.symm, HA.out⟩
  | true =>
  by_cases lnets : 16 < r.nets.length
  · have lnets' : (16 : Int) < (r.nets.length : Int) := by omega
    have HR : Hid (R = false) := bool_ne fun h => by have := (HIF.out.1 h).nets; omega
    clear HIF CA CI ha hi
    go_wp2_with fail
    go_ret
    exact ⟨ret_bool HR.out.symm, HA.out⟩
  have lnets' : ¬ (16 : Int) < (r.nets.length : Int) := by omega
  by_cases lnbs : 16 < r.nbs.length
  · have lnbs' : (16 : Int) < (r.nbs.length : Int) := by omega
    have HR : Hid (R = false) := bool_ne fun h => by have := (HIF.out.1 h).nbs; omega
    clear HIF CA CI ha hi
    go_wp2_with fail
    go_ret
    exact ⟨ret_bool HR.out.symm, HA.out⟩
  have lnbs' : ¬ (16 : Int) < (r.nbs.length : Int) := by omega
  by_cases llinks : 16 < r.links.length
  · have llinks' : (16 : Int) < (r.links.length : Int) := by omega
    have HR : Hid (R = false) := bool_ne fun h => by have := (HIF.out.1 h).links; omega
    clear HIF CA CI ha hi
    go_wp2_with fail
    go_ret
    exact ⟨ret_bool HR.out.symm, HA.out⟩
  have llinks' : ¬ (16 : Int) < (r.links.length : Int) := by omega
  have HSIX := hide (show (Ar.Is.as r.asn = true ∧ Ar.Is.as r.id = true) ∧ r.nets.length ≤ 16 ∧ r.nbs.length ≤ 16 ∧ r.links.length ≤ 16 from ⟨⟨ha, hi⟩, by omega, by omega, by omega⟩)
  clear ha hi CA CI
  go_wp2_with fail
  clear lnets lnets' lnbs lnbs' llinks llinks' n1 n2 n3 n4 n5
  go_loopw [3] (fun v wr => ∃ i : Nat, v = .int .i64 i ∧ i ≤ r.nets.length ∧ Hid (∀ j (h : j < r.nets.length), j < i → Ax.Ad.may r.nets[j].1 r.nets[j].2 = true ∧ ∀ k (hk : k < j), r.nets[k] ≠ r.nets[j]) ∧ Hid (Below w0.heap.size w0 wr)) (fun v _ => r.nets.length - (intOf v).toNat)
  case atStart => exact ⟨0, rfl, Nat.zero_le _, fun j _ h => absurd h (Nat.not_lt_zero _), Below.refl _ w0⟩
  case round =>
    obtain ⟨i, rfl, hi, HALL, HBR⟩ := hrel
    have HBZ := hide (bthen HA.out HBR.out)
    have HN := hide ((HBR.out.block bc hwl).trans N.out)
    have n3 := cell_of HN.out 3 rfl
    by_cases hil : i < r.nets.length
    · have hil' : (i : Int) < (r.nets.length : Int) := by omega
      obtain ⟨b2, off, xs, rfl, hb2, hx, hxc⟩ := RN.out.later HBZ.out hil
      have HUi := hide (HU.out r.nets[i] (List.getElem_mem hil))
      obtain rfl : xs = [.int .u32 r.nets[i].1, .int .i64 r.nets[i].2] := hx
      have a0 := hxc 0 _ rfl
      have a1 := hxc 1 _ rfl
      simp only [Nat.add_zero] at a0
      clear hxc
      obtain ⟨q, hq⟩ : ∃ q, r.nets[i] = q := ⟨_, rfl⟩
      rw [hq] at a0 a1 HUi
      have HQ := hide hq
      clear hq
      have CM := hide (fun W => Ax.refMay_is q.1 q.2 (Ax.Ad.may q.1 q.2) rfl W HUi.out.1 HUi.out.2)
      go_wp2_with fail
      refine (CM.out _).mono ?_
      rintro e w2 ⟨rfl, hb2'⟩
      have HB2 := hide (HBR.out.trans (bless hb2' HBR.out.size))
      have HBZ2 := hide (bthen HA.out HB2.out)
      clear hb2' CM
      cases hm : Ax.Ad.may q.1 q.2 with
      | false =>
        have HR : Hid (R = false) := bool_ne fun h => by have := (HIF.out.1 h).net i hil; rw [HQ.out, hm] at this; cases this
        clear HIF HALL hm n3 a0 a1
        go_wp2_with fail
        go_ret
        exact ⟨ret_bool HR.out.symm, HBZ2.out⟩
      | true =>
      have HM := hide hm
      clear hm n3 a0 a1 HBR HN HBZ
      go_wp2_with fail
      go_loopw [4] (fun v wr => ∃ k : Nat, v = .int .i64 k ∧ k ≤ i ∧ Hid (∀ j (hk : j < i), j < k → r.nets[j] ≠ r.nets[i]) ∧ Hid (Below w0.heap.size w0 wr)) (fun v _ => i - (intOf v).toNat)
      case atStart => exact ⟨0, rfl, Nat.zero_le _, fun j _ h => absurd h (Nat.not_lt_zero _), HB2.out⟩
      case round =>
        obtain ⟨k, rfl, hk, HNE, HBR⟩ := hrel
        have HBZ := hide (bthen HA.out HBR.out)
        have HN := hide ((HBR.out.block bc hwl).trans N.out)
        by_cases hki : k < i
        · have hki' : (k : Int) < (i : Int) := by omega
          have hkl : k < r.nets.length := by omega
          obtain ⟨b3, off3, xs, e3, hb3, hx, hxc⟩ := RN.out.later HBZ.out hkl
          obtain ⟨b4, off4, ys, e4, hb4, hy, hyc⟩ := RN.out.later HBZ.out hil
          have e5 := e3.symm.trans e4
          simp only [Option.some.injEq, Addr.mk.injEq, and_true] at e3 e4
          obtain ⟨rfl, rfl⟩ := e3
          obtain ⟨rfl, rfl⟩ := e4
          clear e5
          obtain rfl : xs = [.int .u32 r.nets[k].1, .int .i64 r.nets[k].2] := hx
          obtain rfl : ys = [.int .u32 r.nets[i].1, .int .i64 r.nets[i].2] := hy
          have a0 := hxc 0 _ rfl
          have a1 := hxc 1 _ rfl
          have c0 := hyc 0 _ rfl
          have c1 := hyc 1 _ rfl
          simp only [Nat.add_zero] at a0 c0
          clear hxc hyc
          have n3 := cell_of HN.out 3 rfl
          have HNX : Hid (¬ r.nets[k] = r.nets[i] → ∀ j (hk : j < i), j < k + 1 → r.nets[j] ≠ r.nets[i]) := by
            intro h j hj hjk
            rcases Nat.lt_or_ge j k with h1 | h1
            · exact HNE.out j hj h1
            · obtain rfl : j = k := by omega
              exact h
          have HBD : Hid (r.nets[k] = r.nets[i] → R = false) := fun h => bool_ne fun h2 => (HIF.out.1 h2).dup i k hil hki h
          generalize r.nets[k] = p at *
          have hlq : r.nets[i] = q := HQ.out
          rw [hlq] at c0 c1 HNX HBD
          clear hlq
          by_cases heq : p = q
          · have HR := hide (HBD.out heq)
            subst heq
            have hx0 : (p.1 == p.1) = true := by simp
            have hx2 : (p.2 == p.2) = true := by simp
            clear HNX HBD HIF HALL HNE
            have rn3 := fun dd os => cell_regrown n3 dd os
            have ra0 := fun dd os => cell_regrown a0 dd os
            have ra1 := fun dd os => cell_regrown a1 dd os
            have rc0 := fun dd os => cell_regrown c0 dd os
            have rc1 := fun dd os => cell_regrown c1 dd os
            go_wp2_with fail
            refine wp_region_quiet_below (by kernel_rfl) (by kernel_rfl) ?_
            repeat (go_big_quiet_step (fail))
            refine wpQuiet_nil ?_
            rintro _ ⟨⟨dd, os⟩, rfl⟩
            have hb1 := below_regrown wr dd os
            generalize Sort.grow (redrawn wr dd) os = w5 at hb1
            have HBN := hide (HBR.out.trans (bless hb1 HBR.out.size))
            have HBV := hide (bthen HA.out HBN.out)
            clear hb1 rn3 ra0 ra1 rc0 rc1 n3 a0 a1 c0 c1
            go_wp2_with fail
            go_ret
            exact ⟨ret_bool HR.out.symm, HBV.out⟩
          · have HN2 := hide (HNX.out heq)
            clear HNX HBD HNE
            obtain ⟨p1, p2⟩ := p
            obtain ⟨q1, q2⟩ := q
            simp only at a0 a1 c0 c1
            by_cases h1 : p1 = q1
            · subst h1
              have h2 : (p2 == q2) = false := beq_eq_false_iff_ne.2 fun e => heq (by rw [e])
              clear heq
              have rn3 := fun dd os => cell_regrown n3 dd os
              have ra0 := fun dd os => cell_regrown a0 dd os
              have ra1 := fun dd os => cell_regrown a1 dd os
              have rc0 := fun dd os => cell_regrown c0 dd os
              have rc1 := fun dd os => cell_regrown c1 dd os
              go_wp2_with fail
              refine wp_region_quiet_below (by kernel_rfl) (by kernel_rfl) ?_
              repeat (go_big_quiet_step (fail))
              refine wpQuiet_nil ?_
              rintro _ ⟨⟨dd, os⟩, rfl⟩
              have hb1 := below_regrown wr dd os
              generalize Sort.grow (redrawn wr dd) os = w5 at hb1
              have HBN := hide (HBR.out.trans (bless hb1 HBR.out.size))
              clear hb1 rn3 ra0 ra1 rc0 rc1 n3 a0 a1 c0 c1
              go_wp2_with fail
              exact ⟨⟨k + 1, by go_num, by omega, by rw [HQ.out]; exact HN2, HBN⟩, by simp [intOf] <;> omega⟩
            · have h2 : (p1 == q1) = false := beq_eq_false_iff_ne.2 h1
              clear heq h1
              have rn3 := fun dd os => cell_regrown n3 dd os
              have ra0 := fun dd os => cell_regrown a0 dd os
              have ra1 := fun dd os => cell_regrown a1 dd os
              have rc0 := fun dd os => cell_regrown c0 dd os
              have rc1 := fun dd os => cell_regrown c1 dd os
              go_wp2_with fail
              refine wp_region_quiet_below (by kernel_rfl) (by kernel_rfl) ?_
              repeat (go_big_quiet_step (fail))
              refine wpQuiet_nil ?_
              rintro _ ⟨⟨dd, os⟩, rfl⟩
              have hb1 := below_regrown wr dd os
              generalize Sort.grow (redrawn wr dd) os = w5 at hb1
              have HBN := hide (HBR.out.trans (bless hb1 HBR.out.size))
              clear hb1 rn3 ra0 ra1 rc0 rc1 n3 a0 a1 c0 c1
              go_wp2_with fail
              exact ⟨⟨k + 1, by go_num, by omega, by rw [HQ.out]; exact HN2, HBN⟩, by simp [intOf] <;> omega⟩
        · have hki' : ¬ (k : Int) < (i : Int) := by omega
          have HN2 : Hid (∀ j (h : j < r.nets.length), j < i + 1 → Ax.Ad.may r.nets[j].1 r.nets[j].2 = true ∧ ∀ k (hk : k < j), r.nets[k] ≠ r.nets[j]) := by
            intro j hj hjk
            rcases Nat.lt_or_ge j i with h1 | h1
            · exact HALL.out j hj h1
            · obtain rfl : j = i := by omega
              exact ⟨by rw [HQ.out]; exact HM.out, fun k' hk' => HNE.out k' hk' (by omega)⟩
          clear HALL HNE
          go_wp2_with fail
          exact ⟨⟨i + 1, by go_num, by omega, HN2, HBR⟩, by simp [intOf] <;> omega⟩
    · have hil' : ¬ (i : Int) < (r.nets.length : Int) := by omega
      obtain rfl : i = r.nets.length := by omega
      have HNT : Hid (∀ j (h : j < r.nets.length), Ax.Ad.may r.nets[j].1 r.nets[j].2 = true ∧ ∀ k (hk : k < j), r.nets[k] ≠ r.nets[j]) := fun j h => HALL.out j h h
      clear HALL
      go_wp2_with fail
      clear n3 hil hil' hi HBZ HN
      obtain ⟨wA, hwA⟩ : ∃ q, q = wr := ⟨_, rfl⟩
      subst hwA
      have HBA := hide HBR.out
      clear HBR
      go_loopw [5, 6] (fun v5 v6 wr => ∃ (k : Nat) (o : Option Addr) (cp : Nat), v6 = .int .i64 k ∧ v5 = .slice o k cp ∧ k ≤ r.nbs.length ∧ Hid (∀ j (h : j < r.nbs.length), j < k → rnm2 r.nbs[j].name ((r.nbs.take j).map Nb.name) = true ∧ lackOk r.nbs[j].imp = true ∧ lackOk r.nbs[j].exp = true) ∧ Hid (wr.ownsRow w0.heap.size 9 1 (.slice o k cp) k (((r.nbs.take k).map Nb.name).map Value.string)) ∧ Hid (Below w0.heap.size w0 wr)) (fun _ v6 _ => r.nbs.length - (intOf v6).toNat)
      case atStart => exact ⟨0, none, 0, rfl, rfl, Nat.zero_le _, fun j _ h => absurd h (Nat.not_lt_zero _), ⟨by simp, .inl ⟨rfl, rfl⟩⟩, HBA.out⟩
      case round =>
        clear HBA
        obtain ⟨k, o, cp, rfl, rfl, hk, HALL, HO, HBR⟩ := hrel
        have HBZ := hide (bthen HA.out HBR.out)
        have HN := hide ((HBR.out.block bc hwl).trans N.out)
        have n4 := cell_of HN.out 4 rfl
        by_cases hkl : k < r.nbs.length
        · have hkl' : (k : Int) < (r.nbs.length : Int) := by omega
          have HNS := hide (nms_snoc Nb.name r.nbs k hkl)
          obtain ⟨b2, off, xs, rfl, hb2, hx, hxc⟩ := RB.out.later HBZ.out hkl
          obtain rfl : xs = [.string r.nbs[k].name, .string r.nbs[k].imp, .string r.nbs[k].exp, .bool r.nbs[k].client] := hx
          have a0 := hxc 0 _ rfl
          have a1 := hxc 1 _ rfl
          have a2 := hxc 2 _ rfl
          have a3 := hxc 3 _ rfl
          simp only [Nat.add_zero] at a0
          clear hxc
          have HZk := hide (HZ.out.1 r.nbs[k] (List.getElem_mem hkl))
          have HLN : Hid (((r.nbs.take k).map Nb.name).length = k) := by show _ = _; rw [List.length_map, List.length_take]; omega
          have HNX : Hid (rnm2 r.nbs[k].name ((r.nbs.take k).map Nb.name) = true ∧ lackOk r.nbs[k].imp = true ∧ lackOk r.nbs[k].exp = true → ∀ j (h : j < r.nbs.length), j < k + 1 → rnm2 r.nbs[j].name ((r.nbs.take j).map Nb.name) = true ∧ lackOk r.nbs[j].imp = true ∧ lackOk r.nbs[j].exp = true) := by
            intro h j hj hjk
            rcases Nat.lt_or_ge j k with h1 | h1
            · exact HALL.out j hj h1
            · obtain rfl : j = k := by omega
              exact h
          have HBD : Hid (¬ (rnm2 r.nbs[k].name ((r.nbs.take k).map Nb.name) = true ∧ lackOk r.nbs[k].imp = true ∧ lackOk r.nbs[k].exp = true) → R = false) := fun h => bool_ne fun h2 => h ((HIF.out.1 h2).nb k hkl)
          obtain ⟨XS, hXS⟩ : ∃ x, (r.nbs.take k).map Nb.name = x := ⟨_, rfl⟩
          obtain ⟨XN, hXN⟩ : ∃ x, ((r.nbs.take (k + 1)).map Nb.name).map Value.string = x := ⟨_, rfl⟩
          have HXN := hide hXN
          rw [hXS] at HO HNS HLN HNX HBD
          rw [hXN] at HNS
          clear hXS hXN HALL
          generalize r.nbs[k] = q at *
          have B3 := hide (HBR.out.trans (bless (balloc (brefl wr) (.cells #[.string q.name, .string q.imp, .string q.exp, .bool q.client] 68)) HBR.out.size))
          have HO3 := hide (HO.out.alloc (.cells #[.string q.name, .string q.imp, .string q.exp, .bool q.client] 68))
          have M := hide (heap_new wr #[.string q.name, .string q.imp, .string q.exp, .bool q.client] 68)
          have hsz3 : wr.heap.size < (wr.alloc (.cells #[.string q.name, .string q.imp, .string q.exp, .bool q.client] 68)).heap.size := by rw [size_alloc]; omega
          clear HO HBR HN HBZ
          go_upto_region 18 with fail
          clear a0 a1 a2 a3 n4
          obtain ⟨bq, hbq⟩ : ∃ y, wr.heap.size = y := ⟨_, rfl⟩
          rw [hbq] at M hsz3 ⊢
          obtain ⟨w3, hw3⟩ : ∃ y, wr.alloc (.cells #[.string q.name, .string q.imp, .string q.exp, .bool q.client] 68) = y := ⟨_, rfl⟩
          rw [hw3] at M B3 HO3 hsz3 ⊢
          clear hw3 hbq
          have CN := hide (rname2_is w0.heap.size (.slice o k cp) XS q.name (by rw [HLN.out]; have := HSIX.out; omega) HZk.out.1 w3 (by rw [HLN.out]; exact HO3.out))
          have m0 := cell_of M.out 0 rfl
          go_wp2_with fail
          refine CN.out.mono ?_
          rintro e w4 ⟨rfl, hb4⟩
          have B4 := hide (B3.out.trans (bless hb4 B3.out.size))
          have M4 := hide ((hb4.block bq hsz3).trans M.out)
          have HO4 := hide (Ax.row_below HO3.out hb4)
          clear hb4 CN m0 M B3 HO3 hsz3
          have CU := hide (fun W => rused_is q.imp HZk.out.2.1 W)
          have CV := hide (fun W => rused_is q.exp HZk.out.2.2 W)
          generalize rnm2 q.name XS = r1 at *
          cases r1 with
          | false =>
            have HR : Hid (R = false) := HBD.out fun h => (by cases h.1)
            have HF := hide (bthen HA.out B4.out)
            clear HIF HNX HBD CU CV
            go_wp2_with fail
            go_ret
            exact ⟨ret_bool HR.out.symm, HF.out⟩
          | true =>
          have m1 := cell_of M4.out 1 rfl
          go_wp2_with fail
          refine (CU.out _).mono ?_
          rintro e w5 ⟨rfl, hb5⟩
          have B5 := hide (B4.out.trans (bless hb5 B4.out.size))
          have M5 := hide ((hb5.block bq (heap_lt M4.out)).trans M4.out)
          have HO5 := hide (Ax.row_below HO4.out hb5)
          clear hb5 CU m1 M4 B4 HO4
          generalize lackOk q.imp = r2 at *
          cases r2 with
          | false =>
            have HR : Hid (R = false) := HBD.out fun h => (by cases h.2.1)
            have HF := hide (bthen HA.out B5.out)
            clear HIF HNX HBD CV
            go_wp2_with fail
            go_ret
            exact ⟨ret_bool HR.out.symm, HF.out⟩
          | true =>
          have m2 := cell_of M5.out 2 rfl
          go_wp2_with fail
          refine (CV.out _).mono ?_
          rintro e w6 ⟨rfl, hb6⟩
          have B6 := hide (B5.out.trans (bless hb6 B5.out.size))
          have M6 := hide ((hb6.block bq (heap_lt M5.out)).trans M5.out)
          have HO6 := hide (Ax.row_below HO5.out hb6)
          clear hb6 CV m2 M5 B5 HO5
          generalize lackOk q.exp = r3 at *
          cases r3 with
          | false =>
            have HR : Hid (R = false) := HBD.out fun h => (by cases h.2.2)
            have HF := hide (bthen HA.out B6.out)
            clear HIF HNX HBD
            go_wp2_with fail
            go_ret
            exact ⟨ret_bool HR.out.symm, HF.out⟩
          | true =>
          have HALL2 := hide (HNX.out (by simp))
          clear HNX HBD
          have m0 := cell_of M6.out 0 rfl
          generalize q.name = t at *
          go_wp2_with (at_builtin; go_must (refine append_str1 (w0 := w0) rfl _ _ rfl _ k _ rfl (HO6.out.alloc _) w6.heap.size 1 t rfl ?c1 (by omega) (balloc B6.out _) ?_))
          case c1 => simp
          intro v' w7 hnew hb7
          obtain ⟨no, nc, rfl⟩ := Ar.row_slice hnew
          rw [← HNS.out] at hnew
          have HNW := hide hnew
          have B7 := hide hb7
          clear hnew hb7
          go_wp2_with fail
          exact ⟨⟨k + 1, no, nc, by go_num, rfl, by omega, HALL2, (by rw [HXN.out]; exact HNW), B7⟩, by simp [intOf] <;> omega⟩
        · have hkl' : ¬ (k : Int) < (r.nbs.length : Int) := by omega
          obtain rfl : k = r.nbs.length := by omega
          have HNB : Hid (∀ j (h : j < r.nbs.length), rnm2 r.nbs[j].name ((r.nbs.take j).map Nb.name) = true ∧ lackOk r.nbs[j].imp = true ∧ lackOk r.nbs[j].exp = true) := fun j h => HALL.out j h h
          clear HALL HO
          go_wp2_with fail
          clear n4 hkl hkl' hk HBZ HN
          obtain ⟨wC, hwC⟩ : ∃ q, q = wr := ⟨_, rfl⟩
          subst hwC
          have HBA := hide HBR.out
          clear HBR
          go_loopw [8, 9] (fun v5 v6 wr => ∃ (k : Nat) (o : Option Addr) (cp : Nat), v6 = .int .i64 k ∧ v5 = .slice o k cp ∧ k ≤ r.links.length ∧ Hid (∀ j (h : j < r.links.length), j < k → rnm2 r.links[j].name ((r.links.take j).map Lk.name) = true ∧ 0 ≤ r.links[j].cost ∧ r.links[j].cost ≤ 65536) ∧ Hid (wr.ownsRow w0.heap.size 9 1 (.slice o k cp) k (((r.links.take k).map Lk.name).map Value.string)) ∧ Hid (Below w0.heap.size w0 wr)) (fun _ v6 _ => r.links.length - (intOf v6).toNat)
          case atStart => exact ⟨0, none, 0, rfl, rfl, Nat.zero_le _, fun j _ h => absurd h (Nat.not_lt_zero _), ⟨by simp, .inl ⟨rfl, rfl⟩⟩, HBA.out⟩
          case round =>
            clear HBA
            obtain ⟨k, o, cp, rfl, rfl, hk, HALL, HO, HBR⟩ := hrel
            have HBZ := hide (bthen HA.out HBR.out)
            have HN := hide ((HBR.out.block bc hwl).trans N.out)
            have n5 := cell_of HN.out 5 rfl
            by_cases hkl : k < r.links.length
            · have hkl' : (k : Int) < (r.links.length : Int) := by omega
              have HNS := hide (nms_snoc Lk.name r.links k hkl)
              obtain ⟨b2, off, xs, rfl, hb2, hx, hxc⟩ := RL.out.later HBZ.out hkl
              obtain rfl : xs = [.string r.links[k].name, .int .i64 r.links[k].cost] := hx
              have a0 := hxc 0 _ rfl
              have a1 := hxc 1 _ rfl
              simp only [Nat.add_zero] at a0
              clear hxc
              have HZk := hide (HZ.out.2 r.links[k] (List.getElem_mem hkl))
              have HLN : Hid (((r.links.take k).map Lk.name).length = k) := by show _ = _; rw [List.length_map, List.length_take]; omega
              have HNX : Hid (rnm2 r.links[k].name ((r.links.take k).map Lk.name) = true ∧ 0 ≤ r.links[k].cost ∧ r.links[k].cost ≤ 65536 → ∀ j (h : j < r.links.length), j < k + 1 → rnm2 r.links[j].name ((r.links.take j).map Lk.name) = true ∧ 0 ≤ r.links[j].cost ∧ r.links[j].cost ≤ 65536) := by
                intro h j hj hjk
                rcases Nat.lt_or_ge j k with h1 | h1
                · exact HALL.out j hj h1
                · obtain rfl : j = k := by omega
                  exact h
              have HBD : Hid (¬ (rnm2 r.links[k].name ((r.links.take k).map Lk.name) = true ∧ 0 ≤ r.links[k].cost ∧ r.links[k].cost ≤ 65536) → R = false) := fun h => bool_ne fun h2 => h ((HIF.out.1 h2).link k hkl)
              obtain ⟨XS, hXS⟩ : ∃ x, (r.links.take k).map Lk.name = x := ⟨_, rfl⟩
              obtain ⟨XN, hXN⟩ : ∃ x, ((r.links.take (k + 1)).map Lk.name).map Value.string = x := ⟨_, rfl⟩
              have HXN := hide hXN
              rw [hXS] at HO HNS HLN HNX HBD
              rw [hXN] at HNS
              clear hXS hXN HALL
              generalize r.links[k] = q at *
              have CN := hide (rname2_is w0.heap.size (.slice o k cp) XS q.name (by rw [HLN.out]; have := HSIX.out; omega) HZk.out wr (by rw [HLN.out]; exact HO.out))
              obtain ⟨qn, qc⟩ := q
              simp only at a0 a1 CN HNX HBD HNS
              go_wp2_with fail
              refine CN.out.mono ?_
              rintro e w4 ⟨rfl, hb4⟩
              have B4 := hide (HBR.out.trans (bless hb4 HBR.out.size))
              have N4 := hide ((hb4.block bc (heap_lt HN.out)).trans HN.out)
              have HO4 := hide (Ax.row_below HO.out hb4)
              have c0 := (hb4.cell (p := ⟨b2, off + k * 2, none⟩) hb2).trans a0
              have c1 := (hb4.cell (p := ⟨b2, off + k * 2 + 1, none⟩) hb2).trans a1
              have hb2' : b2 < w4.heap.size := Nat.lt_of_lt_of_le hb2 hb4.size
              clear hb4 CN a0 a1 n5 HN HBR HO HBZ
              have n5 := cell_of N4.out 5 rfl
              generalize rnm2 qn XS = r1 at *
              cases r1 with
              | false =>
                have HR : Hid (R = false) := HBD.out fun h => (by cases h.1)
                have HF := hide (bthen HA.out B4.out)
                clear HIF HNX HBD
                go_wp2_with fail
                go_ret
                exact ⟨ret_bool HR.out.symm, HF.out⟩
              | true =>
              by_cases q1 : qc < 0
              · have HR : Hid (R = false) := HBD.out fun h => (by have := h.2.1; omega)
                have HF := hide (bthen HA.out B4.out)
                clear HIF HNX HBD
                go_wp2_with fail
                go_ret
                exact ⟨ret_bool HR.out.symm, HF.out⟩
              by_cases q2 : 65536 < qc
              · have HR : Hid (R = false) := HBD.out fun h => (by have := h.2.2; omega)
                have HF := hide (bthen HA.out B4.out)
                clear HIF HNX HBD
                go_wp2_with fail
                go_ret
                exact ⟨ret_bool HR.out.symm, HF.out⟩
              have HALL2 := hide (HNX.out ⟨by simp, by omega, by omega⟩)
              clear HNX HBD
              go_wp2_with (at_builtin; go_must (refine append_str1 (w0 := w0) rfl _ _ rfl _ k _ rfl (HO4.out.alloc _) w4.heap.size 1 qn rfl ?c1 (by omega) (balloc B4.out _) ?_))
              case c1 => simp
              intro v' w7 hnew hb7
              obtain ⟨no, nc, rfl⟩ := Ar.row_slice hnew
              rw [← HNS.out] at hnew
              have HNW := hide hnew
              have B7 := hide hb7
              clear hnew hb7
              go_wp2_with fail
              exact ⟨⟨k + 1, no, nc, by go_num, rfl, by omega, HALL2, (by rw [HXN.out]; exact HNW), B7⟩, by simp [intOf] <;> omega⟩
            · have hkl' : ¬ (k : Int) < (r.links.length : Int) := by omega
              obtain rfl : k = r.links.length := by omega
              have HLK : Hid (∀ j (h : j < r.links.length), rnm2 r.links[j].name ((r.links.take j).map Lk.name) = true ∧ 0 ≤ r.links[j].cost ∧ r.links[j].cost ≤ 65536) := fun j h => HALL.out j h h
              have HR : Hid (R = true) := HIF.out.2 ⟨HSIX.out.1.1, HSIX.out.1.2, HSIX.out.2.1, HSIX.out.2.2.1, HSIX.out.2.2.2, fun j h => (HNT.out j h).1, fun j k h hk => (HNT.out j h).2 k hk, HNB.out, HLK.out⟩
              clear HALL HO HIF
              go_wp2_with fail
              go_ret
              exact ⟨ret_bool HR.out.symm, HBZ.out⟩
end Go.Proofs.YtpmmhmgojjlniaaGreatDoor
namespace Go.Proofs.YtpmmhmgojjlniaaGreatDoor.Ax
open Go.RowKit
set_option maxHeartbeats 1000000 in
theorem refRMay_any (a b g l : Int) (p : Bool) (w : World) (ha : 0 ≤ a) (ha2 : a ≤ 4294967295) :
    Calls Tryz.prog 61 #[.agg #[.int .u32 a, .int .i64 b, .int .i64 g, .int .i64 l, .bool p]] w fun e w' => e = .returned (.bool (Ad.rmay (a, b, g, l, p))) ∧ Below w.heap.size w w' := by
  cases hm : Ad.may a b
  · go_enter Tryz.func61, Tryz.ntmps61
    go_wp2_with fail
    refine (refMay_is _ _ _ hm _ ha ha2).mono ?_
    rintro e w1 ⟨rfl, hb1⟩
    go_wp2_with fail
    go_ret
    exact ⟨ret_bool (by simp [Ad.rmay, hm]), bthen (balloc (brefl w) _) hb1⟩
  · by_cases h1 : b ≤ g
    · by_cases h2 : g ≤ l
      · go_enter Tryz.func61, Tryz.ntmps61
        go_wp2_with fail
        refine (refMay_is _ _ _ hm _ ha ha2).mono ?_
        rintro e w1 ⟨rfl, hb1⟩
        obtain ⟨hc1, hf1⟩ := bcell hb1
        go_wp2_with fail
        go_ret
        exact ⟨ret_bool (by simp [Ad.rmay, hm]; omega), bthen (balloc (brefl w) _) hb1⟩
      · have hd : decide (g ≤ l) = false := by simpa using h2
        go_enter Tryz.func61, Tryz.ntmps61
        go_wp2_with fail
        refine (refMay_is _ _ _ hm _ ha ha2).mono ?_
        rintro e w1 ⟨rfl, hb1⟩
        obtain ⟨hc1, hf1⟩ := bcell hb1
        go_wp2_with fail
        go_ret
        exact ⟨ret_bool (by simp [Ad.rmay, hm]; omega), bthen (balloc (brefl w) _) hb1⟩
    · have hd : decide (b ≤ g) = false := by simpa using h1
      go_enter Tryz.func61, Tryz.ntmps61
      go_wp2_with fail
      refine (refMay_is _ _ _ hm _ ha ha2).mono ?_
      rintro e w1 ⟨rfl, hb1⟩
      obtain ⟨hc1, hf1⟩ := bcell hb1
      go_wp2_with fail
      go_ret
      exact ⟨ret_bool (by simp [Ad.rmay, hm]; omega), bthen (balloc (brefl w) _) hb1⟩

theorem refRMay_is (a b g l : Int) (p r : Bool) (h : Ad.rmay (a, b, g, l, p) = r) (w : World) (ha : 0 ≤ a) (ha2 : a ≤ 4294967295) :
    Calls Tryz.prog 61 #[.agg #[.int .u32 a, .int .i64 b, .int .i64 g, .int .i64 l, .bool p]] w fun e w' => e = .returned (.bool r) ∧ Below w.heap.size w w' := by
  rw [← h]; exact refRMay_any a b g l p w ha ha2

end Go.Proofs.YtpmmhmgojjlniaaGreatDoor.Ax
namespace Go.Proofs.YtpmmhmgojjlniaaGreatDoor.Ax
open Go.RowKit
/-- A prefix's two cells read there, in this world; and its block is an old one. -/
def Two (w : World) (n : Nat) (a b : Int) : Prop := w.cell? ⟨n, 0, none⟩ = some (.int .u32 a) ∧ w.cell? ⟨n, 1, none⟩ = some (.int .i64 b) ∧ n < w.heap.size ∧ n < w.heap.size + 1
theorem two_of {W : World} {n : Nat} {a b : Int} (h0 : W.cell? ⟨n, 0, none⟩ = some (.int .u32 a)) (h1 : W.cell? ⟨n, 1, none⟩ = some (.int .i64 b)) : Two W n a b :=
  ⟨h0, h1, block_lt_of_cell h0, Nat.lt_succ_of_lt (block_lt_of_cell h0)⟩
theorem two_below {W w1 : World} {n : Nat} {a b : Int} (hb : Below W.heap.size W w1) (h0 : W.cell? ⟨n, 0, none⟩ = some (.int .u32 a)) (h1 : W.cell? ⟨n, 1, none⟩ = some (.int .i64 b)) : Two w1 n a b :=
  two_of ((hb.cell (p := ⟨n, 0, none⟩) (block_lt_of_cell h0)).trans h0) ((hb.cell (p := ⟨n, 1, none⟩) (block_lt_of_cell h1)).trans h1)

end Go.Proofs.YtpmmhmgojjlniaaGreatDoor.Ax
namespace Go.Proofs.YtpmmhmgojjlniaaGreatDoor.Ax
open Go.RowKit
set_option maxHeartbeats 1000000 in
theorem refRWhy_row (ao : Option Addr) (cap : Nat) (l : List Ad.R) (w : World) (hR : Ad.slotR w ao l) (hf : Ad.fitsR l) (hlen : l.length ≤ 16) :
    Calls Tryz.prog 26 #[.slice ao l.length cap] w fun e w' => e = .returned (.int .i64 (Ad.rwhy l)) ∧ Below w.heap.size w w' := by
  have HR := hide hR
  have HF := hide hf
  clear hR hf
  have hgt : ¬ (16 : Int) < (l.length : Int) := by omega
  go_enter Tryz.func26, Tryz.ntmps26
  go_wp2_with fail
  go_loopw [3] (fun i wr => ∃ k : Nat, k ≤ l.length ∧ i = .int .i64 k ∧ (∀ j (hj : j < l.length), j < k → Ad.rmay l[j] = true) ∧ Below w.heap.size w wr) (fun i _ => l.length - (intOf i).toNat)
  case atStart => exact ⟨0, Nat.zero_le _, rfl, fun j _ hj => absurd hj (Nat.not_lt_zero _), brefl w⟩
  case round =>
    obtain ⟨k, hk, rfl, hall, hbr⟩ := hrel
    have HALL := hide hall
    clear hall
    by_cases hlt : k < l.length
    · obtain ⟨b, off, rfl, hrd⟩ := Ad.slotR_at HR.out hlt
      obtain ⟨e0, e1, e2, e3, e4⟩ := Ad.readsR_at (Ad.readsR_below hrd hbr) k hlt
      clear hrd
      have hx := hide (HF.out l[k] (List.getElem_mem hlt))
      generalize hxx : l[k] = x at *
      obtain ⟨a, d, g, t, p⟩ := x
      have HX := hide hxx
      clear hxx
      have hx0 : 0 ≤ a := hx.out.1
      have hx1 : a ≤ 4294967295 := hx.out.2
      cases hm : Ad.rmay (a, d, g, t, p)
      · go_wp2_with fail
        refine (refRMay_is _ _ _ _ _ _ hm _ hx0 hx1).mono ?_
        rintro e w1 ⟨rfl, hb1⟩
        go_wp2_with fail
        go_ret
        exact ⟨ret_int (Ad.rwhy_bad l hlen k hlt (by rw [HX.out]; exact hm)).symm, bthen hbr hb1⟩
      · go_wp2_with fail
        refine (refRMay_is _ _ _ _ _ _ hm _ hx0 hx1).mono ?_
        rintro e w1 ⟨rfl, hb1⟩
        go_wp2_with fail
        refine ⟨⟨k + 1, by omega, by go_num, fun j hj hjk => ?_, bthen hbr hb1⟩, by simp [intOf]; omega⟩
        rcases Nat.lt_succ_iff_lt_or_eq.1 hjk with h1 | rfl
        · exact HALL.out j hj h1
        · rw [HX.out]; exact hm
    · go_wp2_with fail
      go_ret
      exact ⟨ret_int (Ad.rwhy_ok l hlen fun j hj => HALL.out j hj (by omega)).symm, hbr⟩

set_option maxHeartbeats 1000000 in
theorem refRWhy_long (a : Option Addr) (n cap : Nat) (w : World) (h : 16 < n) :
    Calls Tryz.prog 26 #[.slice a n cap] w fun e w' => e = .returned (.int .i64 2) ∧ Below w.heap.size w w' := by
  have hgt : (16 : Int) < (n : Int) := by omega
  go_enter Tryz.func26, Tryz.ntmps26
  go_wp2_with fail
  go_ret
  exact ⟨rfl, brefl w⟩

theorem refRWhy_any (ao : Option Addr) (cap : Nat) (l : List Ad.R) (w : World) (hR : Ad.slotR w ao l) (hf : Ad.fitsR l) :
    Calls Tryz.prog 26 #[.slice ao l.length cap] w fun e w' => e = .returned (.int .i64 (Ad.rwhy l)) ∧ Below w.heap.size w w' := by
  by_cases h : l.length ≤ 16
  · exact refRWhy_row ao cap l w hR hf h
  · have e : Ad.rwhy l = 2 := by rw [Ad.rwhy, if_pos (by omega)]
    rw [e]
    exact refRWhy_long ao l.length cap w (by omega)

end Go.Proofs.YtpmmhmgojjlniaaGreatDoor.Ax
namespace Go.Proofs.YtpmmhmgojjlniaaGreatDoor.Ax
open Go.RowKit
theorem refRWhy_is (ao : Option Addr) (cap : Nat) (l : List Ad.R) (x : Int) (h : Ad.rwhy l = x) (w : World) (hR : Ad.slotR w ao l) (hf : Ad.fitsR l) :
    Calls Tryz.prog 26 #[.slice ao l.length cap] w fun e w' => e = .returned (.int .i64 x) ∧ Below w.heap.size w w' := by
  rw [← h]; exact refRWhy_any ao cap l w hR hf
end Go.Proofs.YtpmmhmgojjlniaaGreatDoor.Ax
