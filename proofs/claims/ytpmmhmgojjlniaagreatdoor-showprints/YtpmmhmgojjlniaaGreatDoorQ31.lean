/- The document's clause. -/
import Derived.Test.YtpmmhmgojjlniaaGreatDoorQ30
namespace Go.Proofs.YtpmmhmgojjlniaaGreatDoor
open Go.RowKit Go.Sort
theorem rd_slotI {w : World} {ao : Option Addr} {n c : Nat} {l : List Int} (h : Rd w 1 InR (.slice ao n c) l) : Ar.Is.slot w ao l := by
  obtain ⟨ao', c', hv, _, h⟩ := h
  cases hv
  rcases h with rfl | ⟨b, off, h, hr⟩
  · exact .inl rfl
  · refine .inr ⟨b, off, h, fun j u => ?_⟩
    obtain ⟨xs, h1, _, h3⟩ := hr j u
    obtain rfl : xs = [.int .i64 l[j]] := h1
    have := h3 0 _ rfl
    rw [Nat.mul_one, Nat.add_zero] at this
    exact this
theorem two_boxesT (w : World) (x y : Array Value) (s t : TypeId) : Below w.heap.size w ((w.alloc (.cells x s)).alloc (.cells y t)) ∧ ((w.alloc (.cells x s)).alloc (.cells y t)).heap[w.heap.size]? = some (.cells x s (0, 0)) ∧ ((w.alloc (.cells x s)).alloc (.cells y t)).heap[w.heap.size + 1]? = some (.cells y t (0, 0)) := by
  have A := balloc (brefl w) (.cells x s)
  have B := balloc A (.cells y t)
  refine ⟨B, ?_, ?_⟩
  · exact ((balloc (brefl (w.alloc (.cells x s))) (.cells y t)).block w.heap.size (by rw [size_alloc]; omega)).trans (heap_new w x s)
  · have := heap_new (w.alloc (.cells x s)) y t
    rw [size_alloc] at this
    exact this
/-- May a clause behind one with a number be, as the document asks? -/
def rcl (c : Cl) (last : Int) : Bool := decide (last < c.n) && decide (c.n ≤ 65535) && lackOk c.m.list && pathOkB c.m.path && ((c.m.ca == 0 && c.m.cn == 0) || Cm.Co.may (c.m.ca, c.m.cn)) && decide (-1 ≤ c.s.pref) && decide (c.s.pref ≤ 1048576) && decide (-1 ≤ c.s.med) && decide (c.s.med ≤ 1048576) && decide (-1 ≤ c.s.org) && decide (c.s.org ≤ 2) && commsOkB c.s.add && commsOkB c.s.del && Ar.Is.may c.s.prep
set_option maxHeartbeats 16000000 in
set_option maxRecDepth 100000 in
theorem rclause_is (c : Cl) (last : Int) (va vd vp : Value) (w : World) (h1 : Rd w 2 PrR va c.s.add) (h2 : Rd w 2 PrR vd c.s.del) (h3 : Rd w 1 InR vp c.s.prep) (hs : c.m.list.size ≤ 1000 ∧ c.m.path.size ≤ 1000) (hn : c.s.add.length ≤ 900 ∧ c.s.del.length ≤ 900 ∧ c.s.prep.length ≤ 300) :
    Calls Tryz.prog 27 #[clV c va vd vp, .int .i64 last] w fun e w' => e = .returned (.bool (rcl c last)) ∧ Below w.heap.size w w' := by
  obtain ⟨oa, ka, rfl⟩ := h1.slice
  obtain ⟨od, kd, rfl⟩ := h2.slice
  obtain ⟨op, kp, rfl⟩ := h3.slice
  obtain ⟨n, ok, ⟨ml, mp, ca, cn⟩, ⟨pref, med, org, add, del, clr, prep⟩⟩ := c
  simp only at *
  have HE : Hid (rcl ⟨n, ok, ⟨ml, mp, ca, cn⟩, ⟨pref, med, org, add, del, clr, prep⟩⟩ last = (decide (last < n) && decide (n ≤ 65535) && lackOk ml && pathOkB mp && ((ca == 0 && cn == 0) || Cm.Co.may (ca, cn)) && decide (-1 ≤ pref) && decide (pref ≤ 1048576) && decide (-1 ≤ med) && decide (med ≤ 1048576) && decide (-1 ≤ org) && decide (org ≤ 2) && commsOkB add && commsOkB del && Ar.Is.may prep)) := rfl
  generalize rcl ⟨n, ok, ⟨ml, mp, ca, cn⟩, ⟨pref, med, org, add, del, clr, prep⟩⟩ last = R at *
  unfold clV
  simp only
  have mixed : Tryz.prog.follows Departure.mixedOrders = true := by kernel_rfl
  have AC := balloc (brefl w) (.cells #[.int .i64 n, .bool ok, .string ml, .string mp, .int .i64 ca, .int .i64 cn, .int .i64 pref, .int .i64 med, .int .i64 org, .slice oa add.length ka, .slice od del.length kd, .bool clr, .slice op prep.length kp] 61)
  have N := hide (heap_new w #[.int .i64 n, .bool ok, .string ml, .string mp, .int .i64 ca, .int .i64 cn, .int .i64 pref, .int .i64 med, .int .i64 org, .slice oa add.length ka, .slice od del.length kd, .bool clr, .slice op prep.length kp] 61)
  have CU := hide (fun W => rused_is ml hs.1 W)
  have CP := hide (fun W => rpath_is mp hs.2 W)
  have CM := hide (fun r h W => Cm.refMay_is ca cn r h W)
  have C1 := hide (fun W (hb : Below w.heap.size w W) => rcomms_is _ add W (h1.below PrR.mono hb) hn.1)
  have C2 := hide (fun W (hb : Below w.heap.size w W) => rcomms_is _ del W (h2.below PrR.mono hb) hn.2.1)
  have C3 := hide (fun W (hb : Below w.heap.size w W) => Ar.refMay_is op kp prep (Ar.Is.may prep) rfl W (rd_slotI (h3.below InR.mono hb)) hn.2.2)
  have HAC := hide AC
  clear h1 h2 h3 AC hs hn
  go_enter Tryz.func27, Tryz.ntmps27
  go_upto_region 1 with fail
  obtain ⟨bc, hbc⟩ : ∃ q, w.heap.size = q := ⟨_, rfl⟩
  rw [hbc] at N ⊢
  have HBC := hide hbc
  clear hbc
  generalize w.alloc (.cells #[.int .i64 n, .bool ok, .string ml, .string mp, .int .i64 ca, .int .i64 cn, .int .i64 pref, .int .i64 med, .int .i64 org, .slice oa add.length ka, .slice od del.length kd, .bool clr, .slice op prep.length kp] 61) = w0 at *
  have hlt : bc < w0.heap.size := heap_lt N.out
  have n0 := cell_of N.out 0 rfl
  have n1 := cell_of N.out 1 rfl
  have n2 := cell_of N.out 2 rfl
  have n3 := cell_of N.out 3 rfl
  have n4 := cell_of N.out 4 rfl
  have n5 := cell_of N.out 5 rfl
  have n6 := cell_of N.out 6 rfl
  have n7 := cell_of N.out 7 rfl
  have n8 := cell_of N.out 8 rfl
  have n9 := cell_of N.out 9 rfl
  have n10 := cell_of N.out 10 rfl
  have n11 := cell_of N.out 11 rfl
  have n12 := cell_of N.out 12 rfl
  go_wp2_with fail
  go_region_o
  · have TB := two_boxesT w0 #[.string ml, .string mp, .int .i64 ca, .int .i64 cn] #[.int .i64 pref, .int .i64 med, .int .i64 org, .slice oa add.length ka, .slice od del.length kd, .bool clr, .slice op prep.length kp] 55 59
    have HB1 := hide (Below.drew (bthen HAC.out TB.1))
    have NF : Hid (((w0.alloc (.cells #[.string ml, .string mp, .int .i64 ca, .int .i64 cn] 55)).alloc (.cells #[.int .i64 pref, .int .i64 med, .int .i64 org, .slice oa add.length ka, .slice od del.length kd, .bool clr, .slice op prep.length kp] 59)).drew.heap[w0.heap.size]? = some (.cells #[.string ml, .string mp, .int .i64 ca, .int .i64 cn] 55 (0, 0))) := TB.2.1
    have NS : Hid (((w0.alloc (.cells #[.string ml, .string mp, .int .i64 ca, .int .i64 cn] 55)).alloc (.cells #[.int .i64 pref, .int .i64 med, .int .i64 org, .slice oa add.length ka, .slice od del.length kd, .bool clr, .slice op prep.length kp] 59)).drew.heap[w0.heap.size + 1]? = some (.cells #[.int .i64 pref, .int .i64 med, .int .i64 org, .slice oa add.length ka, .slice od del.length kd, .bool clr, .slice op prep.length kp] 59 (0, 0))) := TB.2.2
    have NC : Hid (((w0.alloc (.cells #[.string ml, .string mp, .int .i64 ca, .int .i64 cn] 55)).alloc (.cells #[.int .i64 pref, .int .i64 med, .int .i64 org, .slice oa add.length ka, .slice od del.length kd, .bool clr, .slice op prep.length kp] 59)).drew.heap[bc]? = some (.cells #[.int .i64 n, .bool ok, .string ml, .string mp, .int .i64 ca, .int .i64 cn, .int .i64 pref, .int .i64 med, .int .i64 org, .slice oa add.length ka, .slice od del.length kd, .bool clr, .slice op prep.length kp] 61 (0, 0))) := (TB.1.block bc hlt).trans N.out
    clear TB n0 n1 n2 n3 n4 n5 n6 n7 n8 n9 n10 n11 n12 HAC
    obtain ⟨b1, hb1⟩ : ∃ q, w0.heap.size = q := ⟨_, rfl⟩
    rw [hb1] at NF NS hlt ⊢
    obtain ⟨b2, hb2⟩ : ∃ q, b1 + 1 = q := ⟨_, rfl⟩
    rw [hb2] at NS ⊢
    generalize ((w0.alloc (.cells #[.string ml, .string mp, .int .i64 ca, .int .i64 cn] 55)).alloc (.cells #[.int .i64 pref, .int .i64 med, .int .i64 org, .slice oa add.length ka, .slice od del.length kd, .bool clr, .slice op prep.length kp] 59)).drew = W at *
    clear hb1 hb2 N hlt
    have n0 := cell_of NC.out 0 rfl
    have m0 := cell_of NF.out 0 rfl
    have m1 := cell_of NF.out 1 rfl
    have m2 := cell_of NF.out 2 rfl
    have m3 := cell_of NF.out 3 rfl
    by_cases g1 : n ≤ last
    · have HR : Hid (R = false) := by show _ = _; rw [HE.out, decide_eq_false (show ¬ last < n by omega)]; simp
      clear HE CU CP CM C1 C2 C3
      go_wp2_with fail
      go_ret
      exact ⟨ret_bool HR.out.symm, HB1.out⟩
    by_cases g2 : 65535 < n
    · have HR : Hid (R = false) := by show _ = _; rw [HE.out, decide_eq_false (show ¬ n ≤ 65535 by omega)]; simp
      clear HE CU CP CM C1 C2 C3
      go_wp2_with fail
      go_ret
      exact ⟨ret_bool HR.out.symm, HB1.out⟩
    have HE1 : Hid (R = (lackOk ml && pathOkB mp && ((ca == 0 && cn == 0) || Cm.Co.may (ca, cn)) && decide (-1 ≤ pref) && decide (pref ≤ 1048576) && decide (-1 ≤ med) && decide (med ≤ 1048576) && decide (-1 ≤ org) && decide (org ≤ 2) && commsOkB add && commsOkB del && Ar.Is.may prep)) := by
      show _ = _
      rw [HE.out, decide_eq_true (show last < n by omega), decide_eq_true (show n ≤ 65535 by omega)]
      rfl
    clear HE
    go_wp2_with fail
    refine (CU.out _).mono ?_
    rintro e w2 ⟨rfl, hb2⟩
    have HB2 := hide (bthen HB1.out hb2)
    have M2 := hide ((hb2.block _ (heap_lt NF.out)).trans NF.out)
    have E2 := hide ((hb2.block _ (heap_lt NS.out)).trans NS.out)
    have hz2 := hb2.size
    clear hb2 CU n0 m0 m1 m2 m3 NF NS NC g1 g2
    have m1 := cell_of M2.out 1 rfl
    have m2 := cell_of M2.out 2 rfl
    have m3 := cell_of M2.out 3 rfl
    generalize lackOk ml = r1 at *
    cases r1 with
    | false =>
      have HR : Hid (R = false) := by show _ = _; rw [HE1.out]; rfl
      clear HE1 CP CM C1 C2 C3
      go_wp2_with fail
      go_ret
      exact ⟨ret_bool HR.out.symm, HB2.out⟩
    | true =>
      rw [Bool.true_and] at HE1
      go_wp2_with fail
      refine (CP.out _).mono ?_
      rintro e w3 ⟨rfl, hb3⟩
      have HB3 := hide (bthen HB2.out hb3)
      have M3 := hide ((hb3.block _ (heap_lt M2.out)).trans M2.out)
      have E3 := hide ((hb3.block _ (heap_lt E2.out)).trans E2.out)
      clear hb3 CP m1 m2 m3 M2 E2
      have m2 := cell_of M3.out 2 rfl
      have m3 := cell_of M3.out 3 rfl
      generalize pathOkB mp = r2 at *
      cases r2 with
      | false =>
        have HR : Hid (R = false) := by show _ = _; rw [HE1.out]; rfl
        clear HE1 CM C1 C2 C3
        go_wp2_with fail
        go_ret
        exact ⟨ret_bool HR.out.symm, HB3.out⟩
      | true =>
        rw [Bool.true_and] at HE1
        generalize h0q : (ca == 0 && cn == 0) = z0 at *
        have HR3 := hide (CM.out (Cm.Co.may (ca, cn)) rfl)
        generalize Cm.Co.may (ca, cn) = r3 at *
        cases z0 with
        | true =>
          rw [Bool.true_or, Bool.true_and] at HE1
          clear HR3 CM
          simp only [Bool.and_eq_true, beq_iff_eq] at h0q
          obtain ⟨rfl, rfl⟩ := h0q
          go_upto_region 4 with fail
          have e0 := cell_of E3.out 0 rfl
          have e1 := cell_of E3.out 1 rfl
          have e2 := cell_of E3.out 2 rfl
          have e3 := cell_of E3.out 3 rfl
          have e4 := cell_of E3.out 4 rfl
          have e6 := cell_of E3.out 6 rfl
          by_cases q0 : pref < -1
          · have HR : Hid (R = false) := by show _ = _; rw [HE1.out, decide_eq_false (show ¬ -1 ≤ pref by omega)]; simp
            clear HE1 C1 C2 C3
            go_wp2_with fail
            go_ret
            exact ⟨ret_bool HR.out.symm, HB3.out⟩
          by_cases q1 : 1048576 < pref
          · have HR : Hid (R = false) := by show _ = _; rw [HE1.out, decide_eq_false (show ¬ pref ≤ 1048576 by omega)]; simp
            clear HE1 C1 C2 C3
            go_wp2_with fail
            go_ret
            exact ⟨ret_bool HR.out.symm, HB3.out⟩
          by_cases q2 : med < -1
          · have HR : Hid (R = false) := by show _ = _; rw [HE1.out, decide_eq_false (show ¬ -1 ≤ med by omega)]; simp
            clear HE1 C1 C2 C3
            go_wp2_with fail
            go_ret
            exact ⟨ret_bool HR.out.symm, HB3.out⟩
          by_cases q3 : 1048576 < med
          · have HR : Hid (R = false) := by show _ = _; rw [HE1.out, decide_eq_false (show ¬ med ≤ 1048576 by omega)]; simp
            clear HE1 C1 C2 C3
            go_wp2_with fail
            go_ret
            exact ⟨ret_bool HR.out.symm, HB3.out⟩
          by_cases q4 : org < -1
          · have HR : Hid (R = false) := by show _ = _; rw [HE1.out, decide_eq_false (show ¬ -1 ≤ org by omega)]; simp
            clear HE1 C1 C2 C3
            go_wp2_with fail
            go_ret
            exact ⟨ret_bool HR.out.symm, HB3.out⟩
          by_cases q5 : 2 < org
          · have HR : Hid (R = false) := by show _ = _; rw [HE1.out, decide_eq_false (show ¬ org ≤ 2 by omega)]; simp
            clear HE1 C1 C2 C3
            go_wp2_with fail
            go_ret
            exact ⟨ret_bool HR.out.symm, HB3.out⟩
          have HE2 : Hid (R = (commsOkB add && commsOkB del && Ar.Is.may prep)) := by
            show _ = _
            rw [HE1.out, decide_eq_true (show -1 ≤ pref by omega), decide_eq_true (show pref ≤ 1048576 by omega), decide_eq_true (show -1 ≤ med by omega), decide_eq_true (show med ≤ 1048576 by omega), decide_eq_true (show -1 ≤ org by omega), decide_eq_true (show org ≤ 2 by omega)]
            rfl
          clear HE1
          go_wp2_with fail
          clear q0 q1 q2 q3 q4 q5
          refine (C1.out _ HB3.out).mono ?_
          rintro e w5 ⟨rfl, hb5⟩
          have HB5 := hide (bthen HB3.out hb5)
          have E5 := hide ((hb5.block _ (heap_lt E3.out)).trans E3.out)
          clear hb5 C1 e0 e1 e2 e3 e4 e6 E3 HB3
          have e4 := cell_of E5.out 4 rfl
          have e6 := cell_of E5.out 6 rfl
          generalize commsOkB add = t1 at *
          cases t1 with
          | false =>
            have HR : Hid (R = false) := by show _ = _; rw [HE2.out]; rfl
            clear HE2 C2 C3
            go_wp2_with fail
            go_ret
            exact ⟨ret_bool HR.out.symm, HB5.out⟩
          | true =>
            go_wp2_with fail
            refine (C2.out _ HB5.out).mono ?_
            rintro e w6 ⟨rfl, hb6⟩
            have HB6 := hide (bthen HB5.out hb6)
            have E6 := hide ((hb6.block _ (heap_lt E5.out)).trans E5.out)
            clear hb6 C2 e4 e6 E5 HB5
            have e6 := cell_of E6.out 6 rfl
            generalize commsOkB del = t2 at *
            cases t2 with
            | false =>
              have HR : Hid (R = false) := by show _ = _; rw [HE2.out]; rfl
              clear HE2 C3
              go_wp2_with fail
              go_ret
              exact ⟨ret_bool HR.out.symm, HB6.out⟩
            | true =>
              have HR : Hid (R = Ar.Is.may prep) := by show _ = _; rw [HE2.out]; rfl
              generalize Ar.Is.may prep = t3 at *
              go_wp2_with fail
              refine (C3.out _ HB6.out).mono ?_
              rintro e w7 ⟨rfl, rfl⟩
              go_wp2_with fail
              go_ret
              exact ⟨ret_bool HR.out.symm, HB6.out⟩
        | false =>
          rw [Bool.false_or] at HE1
          have hcc : ca ≠ 0 ∨ (ca = 0 ∧ cn ≠ 0) := by
            by_cases h : ca = 0
            · refine .inr ⟨h, fun h2 => ?_⟩
              rw [h, h2] at h0q
              cases h0q
            · exact .inl h
          clear h0q
          rcases hcc with hca | ⟨rfl, hcn⟩
          · have k1 : (ca == 0) = false := beq_eq_false_iff_ne.2 hca
            go_wp2_with fail
            refine (HR3.out _).mono ?_
            rintro e w4 ⟨rfl, hb4⟩
            have HB4 := hide (bthen HB3.out hb4)
            have E4 := hide ((hb4.block _ (heap_lt E3.out)).trans E3.out)
            clear hb4 HR3 CM m2 m3 M3 E3 HB3 k1
            have HB3 := HB4
            have E3 := E4
            clear HB4 E4
            cases r3 with
            | false =>
              have HR : Hid (R = false) := by show _ = _; rw [HE1.out]; rfl
              clear HE1 C1 C2 C3
              go_wp2_with fail
              go_ret
              exact ⟨ret_bool HR.out.symm, HB3.out⟩
            | true =>
              rw [Bool.true_and] at HE1
              go_upto_region 4 with fail
              have e0 := cell_of E3.out 0 rfl
              have e1 := cell_of E3.out 1 rfl
              have e2 := cell_of E3.out 2 rfl
              have e3 := cell_of E3.out 3 rfl
              have e4 := cell_of E3.out 4 rfl
              have e6 := cell_of E3.out 6 rfl
              by_cases q0 : pref < -1
              · have HR : Hid (R = false) := by show _ = _; rw [HE1.out, decide_eq_false (show ¬ -1 ≤ pref by omega)]; simp
                clear HE1 C1 C2 C3
                go_wp2_with fail
                go_ret
                exact ⟨ret_bool HR.out.symm, HB3.out⟩
              by_cases q1 : 1048576 < pref
              · have HR : Hid (R = false) := by show _ = _; rw [HE1.out, decide_eq_false (show ¬ pref ≤ 1048576 by omega)]; simp
                clear HE1 C1 C2 C3
                go_wp2_with fail
                go_ret
                exact ⟨ret_bool HR.out.symm, HB3.out⟩
              by_cases q2 : med < -1
              · have HR : Hid (R = false) := by show _ = _; rw [HE1.out, decide_eq_false (show ¬ -1 ≤ med by omega)]; simp
                clear HE1 C1 C2 C3
                go_wp2_with fail
                go_ret
                exact ⟨ret_bool HR.out.symm, HB3.out⟩
              by_cases q3 : 1048576 < med
              · have HR : Hid (R = false) := by show _ = _; rw [HE1.out, decide_eq_false (show ¬ med ≤ 1048576 by omega)]; simp
                clear HE1 C1 C2 C3
                go_wp2_with fail
                go_ret
                exact ⟨ret_bool HR.out.symm, HB3.out⟩
              by_cases q4 : org < -1
              · have HR : Hid (R = false) := by show _ = _; rw [HE1.out, decide_eq_false (show ¬ -1 ≤ org by omega)]; simp
                clear HE1 C1 C2 C3
                go_wp2_with fail
                go_ret
                exact ⟨ret_bool HR.out.symm, HB3.out⟩
              by_cases q5 : 2 < org
              · have HR : Hid (R = false) := by show _ = _; rw [HE1.out, decide_eq_false (show ¬ org ≤ 2 by omega)]; simp
                clear HE1 C1 C2 C3
                go_wp2_with fail
                go_ret
                exact ⟨ret_bool HR.out.symm, HB3.out⟩
              have HE2 : Hid (R = (commsOkB add && commsOkB del && Ar.Is.may prep)) := by
                show _ = _
                rw [HE1.out, decide_eq_true (show -1 ≤ pref by omega), decide_eq_true (show pref ≤ 1048576 by omega), decide_eq_true (show -1 ≤ med by omega), decide_eq_true (show med ≤ 1048576 by omega), decide_eq_true (show -1 ≤ org by omega), decide_eq_true (show org ≤ 2 by omega)]
                rfl
              clear HE1
              go_wp2_with fail
              clear q0 q1 q2 q3 q4 q5
              refine (C1.out _ HB3.out).mono ?_
              rintro e w5 ⟨rfl, hb5⟩
              have HB5 := hide (bthen HB3.out hb5)
              have E5 := hide ((hb5.block _ (heap_lt E3.out)).trans E3.out)
              clear hb5 C1 e0 e1 e2 e3 e4 e6 E3 HB3
              have e4 := cell_of E5.out 4 rfl
              have e6 := cell_of E5.out 6 rfl
              generalize commsOkB add = t1 at *
              cases t1 with
              | false =>
                have HR : Hid (R = false) := by show _ = _; rw [HE2.out]; rfl
                clear HE2 C2 C3
                go_wp2_with fail
                go_ret
                exact ⟨ret_bool HR.out.symm, HB5.out⟩
              | true =>
                go_wp2_with fail
                refine (C2.out _ HB5.out).mono ?_
                rintro e w6 ⟨rfl, hb6⟩
                have HB6 := hide (bthen HB5.out hb6)
                have E6 := hide ((hb6.block _ (heap_lt E5.out)).trans E5.out)
                clear hb6 C2 e4 e6 E5 HB5
                have e6 := cell_of E6.out 6 rfl
                generalize commsOkB del = t2 at *
                cases t2 with
                | false =>
                  have HR : Hid (R = false) := by show _ = _; rw [HE2.out]; rfl
                  clear HE2 C3
                  go_wp2_with fail
                  go_ret
                  exact ⟨ret_bool HR.out.symm, HB6.out⟩
                | true =>
                  have HR : Hid (R = Ar.Is.may prep) := by show _ = _; rw [HE2.out]; rfl
                  generalize Ar.Is.may prep = t3 at *
                  go_wp2_with fail
                  refine (C3.out _ HB6.out).mono ?_
                  rintro e w7 ⟨rfl, rfl⟩
                  go_wp2_with fail
                  go_ret
                  exact ⟨ret_bool HR.out.symm, HB6.out⟩
          · have k1 : (cn == 0) = false := beq_eq_false_iff_ne.2 hcn
            go_wp2_with fail
            refine (HR3.out _).mono ?_
            rintro e w4 ⟨rfl, hb4⟩
            have HB4 := hide (bthen HB3.out hb4)
            have E4 := hide ((hb4.block _ (heap_lt E3.out)).trans E3.out)
            clear hb4 HR3 CM m2 m3 M3 E3 HB3 k1
            have HB3 := HB4
            have E3 := E4
            clear HB4 E4
            cases r3 with
            | false =>
              have HR : Hid (R = false) := by show _ = _; rw [HE1.out]; rfl
              clear HE1 C1 C2 C3
              go_wp2_with fail
              go_ret
              exact ⟨ret_bool HR.out.symm, HB3.out⟩
            | true =>
              rw [Bool.true_and] at HE1
              go_upto_region 4 with fail
              have e0 := cell_of E3.out 0 rfl
              have e1 := cell_of E3.out 1 rfl
              have e2 := cell_of E3.out 2 rfl
              have e3 := cell_of E3.out 3 rfl
              have e4 := cell_of E3.out 4 rfl
              have e6 := cell_of E3.out 6 rfl
              by_cases q0 : pref < -1
              · have HR : Hid (R = false) := by show _ = _; rw [HE1.out, decide_eq_false (show ¬ -1 ≤ pref by omega)]; simp
                clear HE1 C1 C2 C3
                go_wp2_with fail
                go_ret
                exact ⟨ret_bool HR.out.symm, HB3.out⟩
              by_cases q1 : 1048576 < pref
              · have HR : Hid (R = false) := by show _ = _; rw [HE1.out, decide_eq_false (show ¬ pref ≤ 1048576 by omega)]; simp
                clear HE1 C1 C2 C3
                go_wp2_with fail
                go_ret
                exact ⟨ret_bool HR.out.symm, HB3.out⟩
              by_cases q2 : med < -1
              · have HR : Hid (R = false) := by show _ = _; rw [HE1.out, decide_eq_false (show ¬ -1 ≤ med by omega)]; simp
                clear HE1 C1 C2 C3
                go_wp2_with fail
                go_ret
                exact ⟨ret_bool HR.out.symm, HB3.out⟩
              by_cases q3 : 1048576 < med
              · have HR : Hid (R = false) := by show _ = _; rw [HE1.out, decide_eq_false (show ¬ med ≤ 1048576 by omega)]; simp
                clear HE1 C1 C2 C3
                go_wp2_with fail
                go_ret
                exact ⟨ret_bool HR.out.symm, HB3.out⟩
              by_cases q4 : org < -1
              · have HR : Hid (R = false) := by show _ = _; rw [HE1.out, decide_eq_false (show ¬ -1 ≤ org by omega)]; simp
                clear HE1 C1 C2 C3
                go_wp2_with fail
                go_ret
                exact ⟨ret_bool HR.out.symm, HB3.out⟩
              by_cases q5 : 2 < org
              · have HR : Hid (R = false) := by show _ = _; rw [HE1.out, decide_eq_false (show ¬ org ≤ 2 by omega)]; simp
                clear HE1 C1 C2 C3
                go_wp2_with fail
                go_ret
                exact ⟨ret_bool HR.out.symm, HB3.out⟩
              have HE2 : Hid (R = (commsOkB add && commsOkB del && Ar.Is.may prep)) := by
                show _ = _
                rw [HE1.out, decide_eq_true (show -1 ≤ pref by omega), decide_eq_true (show pref ≤ 1048576 by omega), decide_eq_true (show -1 ≤ med by omega), decide_eq_true (show med ≤ 1048576 by omega), decide_eq_true (show -1 ≤ org by omega), decide_eq_true (show org ≤ 2 by omega)]
                rfl
              clear HE1
              go_wp2_with fail
              clear q0 q1 q2 q3 q4 q5
              refine (C1.out _ HB3.out).mono ?_
              rintro e w5 ⟨rfl, hb5⟩
              have HB5 := hide (bthen HB3.out hb5)
              have E5 := hide ((hb5.block _ (heap_lt E3.out)).trans E3.out)
              clear hb5 C1 e0 e1 e2 e3 e4 e6 E3 HB3
              have e4 := cell_of E5.out 4 rfl
              have e6 := cell_of E5.out 6 rfl
              generalize commsOkB add = t1 at *
              cases t1 with
              | false =>
                have HR : Hid (R = false) := by show _ = _; rw [HE2.out]; rfl
                clear HE2 C2 C3
                go_wp2_with fail
                go_ret
                exact ⟨ret_bool HR.out.symm, HB5.out⟩
              | true =>
                go_wp2_with fail
                refine (C2.out _ HB5.out).mono ?_
                rintro e w6 ⟨rfl, hb6⟩
                have HB6 := hide (bthen HB5.out hb6)
                have E6 := hide ((hb6.block _ (heap_lt E5.out)).trans E5.out)
                clear hb6 C2 e4 e6 E5 HB5
                have e6 := cell_of E6.out 6 rfl
                generalize commsOkB del = t2 at *
                cases t2 with
                | false =>
                  have HR : Hid (R = false) := by show _ = _; rw [HE2.out]; rfl
                  clear HE2 C3
                  go_wp2_with fail
                  go_ret
                  exact ⟨ret_bool HR.out.symm, HB6.out⟩
                | true =>
                  have HR : Hid (R = Ar.Is.may prep) := by show _ = _; rw [HE2.out]; rfl
                  generalize Ar.Is.may prep = t3 at *
                  go_wp2_with fail
                  refine (C3.out _ HB6.out).mono ?_
                  rintro e w7 ⟨rfl, rfl⟩
                  go_wp2_with fail
                  go_ret
                  exact ⟨ret_bool HR.out.symm, HB6.out⟩
  · have TB := two_boxesT w0 #[.int .i64 pref, .int .i64 med, .int .i64 org, .slice oa add.length ka, .slice od del.length kd, .bool clr, .slice op prep.length kp] #[.string ml, .string mp, .int .i64 ca, .int .i64 cn] 59 55
    have HB1 := hide (Below.drew (bthen HAC.out TB.1))
    have NF : Hid (((w0.alloc (.cells #[.int .i64 pref, .int .i64 med, .int .i64 org, .slice oa add.length ka, .slice od del.length kd, .bool clr, .slice op prep.length kp] 59)).alloc (.cells #[.string ml, .string mp, .int .i64 ca, .int .i64 cn] 55)).drew.heap[w0.heap.size]? = some (.cells #[.int .i64 pref, .int .i64 med, .int .i64 org, .slice oa add.length ka, .slice od del.length kd, .bool clr, .slice op prep.length kp] 59 (0, 0))) := TB.2.1
    have NS : Hid (((w0.alloc (.cells #[.int .i64 pref, .int .i64 med, .int .i64 org, .slice oa add.length ka, .slice od del.length kd, .bool clr, .slice op prep.length kp] 59)).alloc (.cells #[.string ml, .string mp, .int .i64 ca, .int .i64 cn] 55)).drew.heap[w0.heap.size + 1]? = some (.cells #[.string ml, .string mp, .int .i64 ca, .int .i64 cn] 55 (0, 0))) := TB.2.2
    have NC : Hid (((w0.alloc (.cells #[.int .i64 pref, .int .i64 med, .int .i64 org, .slice oa add.length ka, .slice od del.length kd, .bool clr, .slice op prep.length kp] 59)).alloc (.cells #[.string ml, .string mp, .int .i64 ca, .int .i64 cn] 55)).drew.heap[bc]? = some (.cells #[.int .i64 n, .bool ok, .string ml, .string mp, .int .i64 ca, .int .i64 cn, .int .i64 pref, .int .i64 med, .int .i64 org, .slice oa add.length ka, .slice od del.length kd, .bool clr, .slice op prep.length kp] 61 (0, 0))) := (TB.1.block bc hlt).trans N.out
    clear TB n0 n1 n2 n3 n4 n5 n6 n7 n8 n9 n10 n11 n12 HAC
    obtain ⟨b1, hb1⟩ : ∃ q, w0.heap.size = q := ⟨_, rfl⟩
    rw [hb1] at NF NS hlt ⊢
    obtain ⟨b2, hb2⟩ : ∃ q, b1 + 1 = q := ⟨_, rfl⟩
    rw [hb2] at NS ⊢
    generalize ((w0.alloc (.cells #[.int .i64 pref, .int .i64 med, .int .i64 org, .slice oa add.length ka, .slice od del.length kd, .bool clr, .slice op prep.length kp] 59)).alloc (.cells #[.string ml, .string mp, .int .i64 ca, .int .i64 cn] 55)).drew = W at *
    clear hb1 hb2 N hlt
    have n0 := cell_of NC.out 0 rfl
    have m0 := cell_of NS.out 0 rfl
    have m1 := cell_of NS.out 1 rfl
    have m2 := cell_of NS.out 2 rfl
    have m3 := cell_of NS.out 3 rfl
    by_cases g1 : n ≤ last
    · have HR : Hid (R = false) := by show _ = _; rw [HE.out, decide_eq_false (show ¬ last < n by omega)]; simp
      clear HE CU CP CM C1 C2 C3
      go_wp2_with fail
      go_ret
      exact ⟨ret_bool HR.out.symm, HB1.out⟩
    by_cases g2 : 65535 < n
    · have HR : Hid (R = false) := by show _ = _; rw [HE.out, decide_eq_false (show ¬ n ≤ 65535 by omega)]; simp
      clear HE CU CP CM C1 C2 C3
      go_wp2_with fail
      go_ret
      exact ⟨ret_bool HR.out.symm, HB1.out⟩
    have HE1 : Hid (R = (lackOk ml && pathOkB mp && ((ca == 0 && cn == 0) || Cm.Co.may (ca, cn)) && decide (-1 ≤ pref) && decide (pref ≤ 1048576) && decide (-1 ≤ med) && decide (med ≤ 1048576) && decide (-1 ≤ org) && decide (org ≤ 2) && commsOkB add && commsOkB del && Ar.Is.may prep)) := by
      show _ = _
      rw [HE.out, decide_eq_true (show last < n by omega), decide_eq_true (show n ≤ 65535 by omega)]
      rfl
    clear HE
    go_wp2_with fail
    refine (CU.out _).mono ?_
    rintro e w2 ⟨rfl, hb2⟩
    have HB2 := hide (bthen HB1.out hb2)
    have M2 := hide ((hb2.block _ (heap_lt NS.out)).trans NS.out)
    have E2 := hide ((hb2.block _ (heap_lt NF.out)).trans NF.out)
    have hz2 := hb2.size
    clear hb2 CU n0 m0 m1 m2 m3 NF NS NC g1 g2
    have m1 := cell_of M2.out 1 rfl
    have m2 := cell_of M2.out 2 rfl
    have m3 := cell_of M2.out 3 rfl
    generalize lackOk ml = r1 at *
    cases r1 with
    | false =>
      have HR : Hid (R = false) := by show _ = _; rw [HE1.out]; rfl
      clear HE1 CP CM C1 C2 C3
      go_wp2_with fail
      go_ret
      exact ⟨ret_bool HR.out.symm, HB2.out⟩
    | true =>
      rw [Bool.true_and] at HE1
      go_wp2_with fail
      refine (CP.out _).mono ?_
      rintro e w3 ⟨rfl, hb3⟩
      have HB3 := hide (bthen HB2.out hb3)
      have M3 := hide ((hb3.block _ (heap_lt M2.out)).trans M2.out)
      have E3 := hide ((hb3.block _ (heap_lt E2.out)).trans E2.out)
      clear hb3 CP m1 m2 m3 M2 E2
      have m2 := cell_of M3.out 2 rfl
      have m3 := cell_of M3.out 3 rfl
      generalize pathOkB mp = r2 at *
      cases r2 with
      | false =>
        have HR : Hid (R = false) := by show _ = _; rw [HE1.out]; rfl
        clear HE1 CM C1 C2 C3
        go_wp2_with fail
        go_ret
        exact ⟨ret_bool HR.out.symm, HB3.out⟩
      | true =>
        rw [Bool.true_and] at HE1
        generalize h0q : (ca == 0 && cn == 0) = z0 at *
        have HR3 := hide (CM.out (Cm.Co.may (ca, cn)) rfl)
        generalize Cm.Co.may (ca, cn) = r3 at *
        cases z0 with
        | true =>
          rw [Bool.true_or, Bool.true_and] at HE1
          clear HR3 CM
          simp only [Bool.and_eq_true, beq_iff_eq] at h0q
          obtain ⟨rfl, rfl⟩ := h0q
          go_upto_region 4 with fail
          have e0 := cell_of E3.out 0 rfl
          have e1 := cell_of E3.out 1 rfl
          have e2 := cell_of E3.out 2 rfl
          have e3 := cell_of E3.out 3 rfl
          have e4 := cell_of E3.out 4 rfl
          have e6 := cell_of E3.out 6 rfl
          by_cases q0 : pref < -1
          · have HR : Hid (R = false) := by show _ = _; rw [HE1.out, decide_eq_false (show ¬ -1 ≤ pref by omega)]; simp
            clear HE1 C1 C2 C3
            go_wp2_with fail
            go_ret
            exact ⟨ret_bool HR.out.symm, HB3.out⟩
          by_cases q1 : 1048576 < pref
          · have HR : Hid (R = false) := by show _ = _; rw [HE1.out, decide_eq_false (show ¬ pref ≤ 1048576 by omega)]; simp
            clear HE1 C1 C2 C3
            go_wp2_with fail
            go_ret
            exact ⟨ret_bool HR.out.symm, HB3.out⟩
          by_cases q2 : med < -1
          · have HR : Hid (R = false) := by show _ = _; rw [HE1.out, decide_eq_false (show ¬ -1 ≤ med by omega)]; simp
            clear HE1 C1 C2 C3
            go_wp2_with fail
            go_ret
            exact ⟨ret_bool HR.out.symm, HB3.out⟩
          by_cases q3 : 1048576 < med
          · have HR : Hid (R = false) := by show _ = _; rw [HE1.out, decide_eq_false (show ¬ med ≤ 1048576 by omega)]; simp
            clear HE1 C1 C2 C3
            go_wp2_with fail
            go_ret
            exact ⟨ret_bool HR.out.symm, HB3.out⟩
          by_cases q4 : org < -1
          · have HR : Hid (R = false) := by show _ = _; rw [HE1.out, decide_eq_false (show ¬ -1 ≤ org by omega)]; simp
            clear HE1 C1 C2 C3
            go_wp2_with fail
            go_ret
            exact ⟨ret_bool HR.out.symm, HB3.out⟩
          by_cases q5 : 2 < org
          · have HR : Hid (R = false) := by show _ = _; rw [HE1.out, decide_eq_false (show ¬ org ≤ 2 by omega)]; simp
            clear HE1 C1 C2 C3
            go_wp2_with fail
            go_ret
            exact ⟨ret_bool HR.out.symm, HB3.out⟩
          have HE2 : Hid (R = (commsOkB add && commsOkB del && Ar.Is.may prep)) := by
            show _ = _
            rw [HE1.out, decide_eq_true (show -1 ≤ pref by omega), decide_eq_true (show pref ≤ 1048576 by omega), decide_eq_true (show -1 ≤ med by omega), decide_eq_true (show med ≤ 1048576 by omega), decide_eq_true (show -1 ≤ org by omega), decide_eq_true (show org ≤ 2 by omega)]
            rfl
          clear HE1
          go_wp2_with fail
          clear q0 q1 q2 q3 q4 q5
          refine (C1.out _ HB3.out).mono ?_
          rintro e w5 ⟨rfl, hb5⟩
          have HB5 := hide (bthen HB3.out hb5)
          have E5 := hide ((hb5.block _ (heap_lt E3.out)).trans E3.out)
          clear hb5 C1 e0 e1 e2 e3 e4 e6 E3 HB3
          have e4 := cell_of E5.out 4 rfl
          have e6 := cell_of E5.out 6 rfl
          generalize commsOkB add = t1 at *
          cases t1 with
          | false =>
            have HR : Hid (R = false) := by show _ = _; rw [HE2.out]; rfl
            clear HE2 C2 C3
            go_wp2_with fail
            go_ret
            exact ⟨ret_bool HR.out.symm, HB5.out⟩
          | true =>
            go_wp2_with fail
            refine (C2.out _ HB5.out).mono ?_
            rintro e w6 ⟨rfl, hb6⟩
            have HB6 := hide (bthen HB5.out hb6)
            have E6 := hide ((hb6.block _ (heap_lt E5.out)).trans E5.out)
            clear hb6 C2 e4 e6 E5 HB5
            have e6 := cell_of E6.out 6 rfl
            generalize commsOkB del = t2 at *
            cases t2 with
            | false =>
              have HR : Hid (R = false) := by show _ = _; rw [HE2.out]; rfl
              clear HE2 C3
              go_wp2_with fail
              go_ret
              exact ⟨ret_bool HR.out.symm, HB6.out⟩
            | true =>
              have HR : Hid (R = Ar.Is.may prep) := by show _ = _; rw [HE2.out]; rfl
              generalize Ar.Is.may prep = t3 at *
              go_wp2_with fail
              refine (C3.out _ HB6.out).mono ?_
              rintro e w7 ⟨rfl, rfl⟩
              go_wp2_with fail
              go_ret
              exact ⟨ret_bool HR.out.symm, HB6.out⟩
        | false =>
          rw [Bool.false_or] at HE1
          have hcc : ca ≠ 0 ∨ (ca = 0 ∧ cn ≠ 0) := by
            by_cases h : ca = 0
            · refine .inr ⟨h, fun h2 => ?_⟩
              rw [h, h2] at h0q
              cases h0q
            · exact .inl h
          clear h0q
          rcases hcc with hca | ⟨rfl, hcn⟩
          · have k1 : (ca == 0) = false := beq_eq_false_iff_ne.2 hca
            go_wp2_with fail
            refine (HR3.out _).mono ?_
            rintro e w4 ⟨rfl, hb4⟩
            have HB4 := hide (bthen HB3.out hb4)
            have E4 := hide ((hb4.block _ (heap_lt E3.out)).trans E3.out)
            clear hb4 HR3 CM m2 m3 M3 E3 HB3 k1
            have HB3 := HB4
            have E3 := E4
            clear HB4 E4
            cases r3 with
            | false =>
              have HR : Hid (R = false) := by show _ = _; rw [HE1.out]; rfl
              clear HE1 C1 C2 C3
              go_wp2_with fail
              go_ret
              exact ⟨ret_bool HR.out.symm, HB3.out⟩
            | true =>
              rw [Bool.true_and] at HE1
              go_upto_region 4 with fail
              have e0 := cell_of E3.out 0 rfl
              have e1 := cell_of E3.out 1 rfl
              have e2 := cell_of E3.out 2 rfl
              have e3 := cell_of E3.out 3 rfl
              have e4 := cell_of E3.out 4 rfl
              have e6 := cell_of E3.out 6 rfl
              by_cases q0 : pref < -1
              · have HR : Hid (R = false) := by show _ = _; rw [HE1.out, decide_eq_false (show ¬ -1 ≤ pref by omega)]; simp
                clear HE1 C1 C2 C3
                go_wp2_with fail
                go_ret
                exact ⟨ret_bool HR.out.symm, HB3.out⟩
              by_cases q1 : 1048576 < pref
              · have HR : Hid (R = false) := by show _ = _; rw [HE1.out, decide_eq_false (show ¬ pref ≤ 1048576 by omega)]; simp
                clear HE1 C1 C2 C3
                go_wp2_with fail
                go_ret
                exact ⟨ret_bool HR.out.symm, HB3.out⟩
              by_cases q2 : med < -1
              · have HR : Hid (R = false) := by show _ = _; rw [HE1.out, decide_eq_false (show ¬ -1 ≤ med by omega)]; simp
                clear HE1 C1 C2 C3
                go_wp2_with fail
                go_ret
                exact ⟨ret_bool HR.out.symm, HB3.out⟩
              by_cases q3 : 1048576 < med
              · have HR : Hid (R = false) := by show _ = _; rw [HE1.out, decide_eq_false (show ¬ med ≤ 1048576 by omega)]; simp
                clear HE1 C1 C2 C3
                go_wp2_with fail
                go_ret
                exact ⟨ret_bool HR.out.symm, HB3.out⟩
              by_cases q4 : org < -1
              · have HR : Hid (R = false) := by show _ = _; rw [HE1.out, decide_eq_false (show ¬ -1 ≤ org by omega)]; simp
                clear HE1 C1 C2 C3
                go_wp2_with fail
                go_ret
                exact ⟨ret_bool HR.out.symm, HB3.out⟩
              by_cases q5 : 2 < org
              · have HR : Hid (R = false) := by show _ = _; rw [HE1.out, decide_eq_false (show ¬ org ≤ 2 by omega)]; simp
                clear HE1 C1 C2 C3
                go_wp2_with fail
                go_ret
                exact ⟨ret_bool HR.out.symm, HB3.out⟩
              have HE2 : Hid (R = (commsOkB add && commsOkB del && Ar.Is.may prep)) := by
                show _ = _
                rw [HE1.out, decide_eq_true (show -1 ≤ pref by omega), decide_eq_true (show pref ≤ 1048576 by omega), decide_eq_true (show -1 ≤ med by omega), decide_eq_true (show med ≤ 1048576 by omega), decide_eq_true (show -1 ≤ org by omega), decide_eq_true (show org ≤ 2 by omega)]
                rfl
              clear HE1
              go_wp2_with fail
              clear q0 q1 q2 q3 q4 q5
              refine (C1.out _ HB3.out).mono ?_
              rintro e w5 ⟨rfl, hb5⟩
              have HB5 := hide (bthen HB3.out hb5)
              have E5 := hide ((hb5.block _ (heap_lt E3.out)).trans E3.out)
              clear hb5 C1 e0 e1 e2 e3 e4 e6 E3 HB3
              have e4 := cell_of E5.out 4 rfl
              have e6 := cell_of E5.out 6 rfl
              generalize commsOkB add = t1 at *
              cases t1 with
              | false =>
                have HR : Hid (R = false) := by show _ = _; rw [HE2.out]; rfl
                clear HE2 C2 C3
                go_wp2_with fail
                go_ret
                exact ⟨ret_bool HR.out.symm, HB5.out⟩
              | true =>
                go_wp2_with fail
                refine (C2.out _ HB5.out).mono ?_
                rintro e w6 ⟨rfl, hb6⟩
                have HB6 := hide (bthen HB5.out hb6)
                have E6 := hide ((hb6.block _ (heap_lt E5.out)).trans E5.out)
                clear hb6 C2 e4 e6 E5 HB5
                have e6 := cell_of E6.out 6 rfl
                generalize commsOkB del = t2 at *
                cases t2 with
                | false =>
                  have HR : Hid (R = false) := by show _ = _; rw [HE2.out]; rfl
                  clear HE2 C3
                  go_wp2_with fail
                  go_ret
                  exact ⟨ret_bool HR.out.symm, HB6.out⟩
                | true =>
                  have HR : Hid (R = Ar.Is.may prep) := by show _ = _; rw [HE2.out]; rfl
                  generalize Ar.Is.may prep = t3 at *
                  go_wp2_with fail
                  refine (C3.out _ HB6.out).mono ?_
                  rintro e w7 ⟨rfl, rfl⟩
                  go_wp2_with fail
                  go_ret
                  exact ⟨ret_bool HR.out.symm, HB6.out⟩
          · have k1 : (cn == 0) = false := beq_eq_false_iff_ne.2 hcn
            go_wp2_with fail
            refine (HR3.out _).mono ?_
            rintro e w4 ⟨rfl, hb4⟩
            have HB4 := hide (bthen HB3.out hb4)
            have E4 := hide ((hb4.block _ (heap_lt E3.out)).trans E3.out)
            clear hb4 HR3 CM m2 m3 M3 E3 HB3 k1
            have HB3 := HB4
            have E3 := E4
            clear HB4 E4
            cases r3 with
            | false =>
              have HR : Hid (R = false) := by show _ = _; rw [HE1.out]; rfl
              clear HE1 C1 C2 C3
              go_wp2_with fail
              go_ret
              exact ⟨ret_bool HR.out.symm, HB3.out⟩
            | true =>
              rw [Bool.true_and] at HE1
              go_upto_region 4 with fail
              have e0 := cell_of E3.out 0 rfl
              have e1 := cell_of E3.out 1 rfl
              have e2 := cell_of E3.out 2 rfl
              have e3 := cell_of E3.out 3 rfl
              have e4 := cell_of E3.out 4 rfl
              have e6 := cell_of E3.out 6 rfl
              by_cases q0 : pref < -1
              · have HR : Hid (R = false) := by show _ = _; rw [HE1.out, decide_eq_false (show ¬ -1 ≤ pref by omega)]; simp
                clear HE1 C1 C2 C3
                go_wp2_with fail
                go_ret
                exact ⟨ret_bool HR.out.symm, HB3.out⟩
              by_cases q1 : 1048576 < pref
              · have HR : Hid (R = false) := by show _ = _; rw [HE1.out, decide_eq_false (show ¬ pref ≤ 1048576 by omega)]; simp
                clear HE1 C1 C2 C3
                go_wp2_with fail
                go_ret
                exact ⟨ret_bool HR.out.symm, HB3.out⟩
              by_cases q2 : med < -1
              · have HR : Hid (R = false) := by show _ = _; rw [HE1.out, decide_eq_false (show ¬ -1 ≤ med by omega)]; simp
                clear HE1 C1 C2 C3
                go_wp2_with fail
                go_ret
                exact ⟨ret_bool HR.out.symm, HB3.out⟩
              by_cases q3 : 1048576 < med
              · have HR : Hid (R = false) := by show _ = _; rw [HE1.out, decide_eq_false (show ¬ med ≤ 1048576 by omega)]; simp
                clear HE1 C1 C2 C3
                go_wp2_with fail
                go_ret
                exact ⟨ret_bool HR.out.symm, HB3.out⟩
              by_cases q4 : org < -1
              · have HR : Hid (R = false) := by show _ = _; rw [HE1.out, decide_eq_false (show ¬ -1 ≤ org by omega)]; simp
                clear HE1 C1 C2 C3
                go_wp2_with fail
                go_ret
                exact ⟨ret_bool HR.out.symm, HB3.out⟩
              by_cases q5 : 2 < org
              · have HR : Hid (R = false) := by show _ = _; rw [HE1.out, decide_eq_false (show ¬ org ≤ 2 by omega)]; simp
                clear HE1 C1 C2 C3
                go_wp2_with fail
                go_ret
                exact ⟨ret_bool HR.out.symm, HB3.out⟩
              have HE2 : Hid (R = (commsOkB add && commsOkB del && Ar.Is.may prep)) := by
                show _ = _
                rw [HE1.out, decide_eq_true (show -1 ≤ pref by omega), decide_eq_true (show pref ≤ 1048576 by omega), decide_eq_true (show -1 ≤ med by omega), decide_eq_true (show med ≤ 1048576 by omega), decide_eq_true (show -1 ≤ org by omega), decide_eq_true (show org ≤ 2 by omega)]
                rfl
              clear HE1
              go_wp2_with fail
              clear q0 q1 q2 q3 q4 q5
              refine (C1.out _ HB3.out).mono ?_
              rintro e w5 ⟨rfl, hb5⟩
              have HB5 := hide (bthen HB3.out hb5)
              have E5 := hide ((hb5.block _ (heap_lt E3.out)).trans E3.out)
              clear hb5 C1 e0 e1 e2 e3 e4 e6 E3 HB3
              have e4 := cell_of E5.out 4 rfl
              have e6 := cell_of E5.out 6 rfl
              generalize commsOkB add = t1 at *
              cases t1 with
              | false =>
                have HR : Hid (R = false) := by show _ = _; rw [HE2.out]; rfl
                clear HE2 C2 C3
                go_wp2_with fail
                go_ret
                exact ⟨ret_bool HR.out.symm, HB5.out⟩
              | true =>
                go_wp2_with fail
                refine (C2.out _ HB5.out).mono ?_
                rintro e w6 ⟨rfl, hb6⟩
                have HB6 := hide (bthen HB5.out hb6)
                have E6 := hide ((hb6.block _ (heap_lt E5.out)).trans E5.out)
                clear hb6 C2 e4 e6 E5 HB5
                have e6 := cell_of E6.out 6 rfl
                generalize commsOkB del = t2 at *
                cases t2 with
                | false =>
                  have HR : Hid (R = false) := by show _ = _; rw [HE2.out]; rfl
                  clear HE2 C3
                  go_wp2_with fail
                  go_ret
                  exact ⟨ret_bool HR.out.symm, HB6.out⟩
                | true =>
                  have HR : Hid (R = Ar.Is.may prep) := by show _ = _; rw [HE2.out]; rfl
                  generalize Ar.Is.may prep = t3 at *
                  go_wp2_with fail
                  refine (C3.out _ HB6.out).mono ?_
                  rintro e w7 ⟨rfl, rfl⟩
                  go_wp2_with fail
                  go_ret
                  exact ⟨ret_bool HR.out.symm, HB6.out⟩
end Go.Proofs.YtpmmhmgojjlniaaGreatDoor
