/- show.setMay, clauseMay. -/
import Derived.Test.YtpmmhmgojjlniaaGreatDoorQ01
import Derived.Test.YtpmmhmgojjlniaaGreatDoorQ14
import Derived.Test.YtpmmhmgojjlniaaGreatDoorQ15
import Derived.Laws.Rows
namespace Go.Proofs.YtpmmhmgojjlniaaGreatDoor
open Go.RowKit Go.Sort
/-- May a clause set so? -/
def setOk (s : Se) : Bool := inR s.pref (-1) 1048576 && inR s.med (-1) 1048576 && inR s.org (-1) 2 && (decide ((s.add.length : Int) ≤ 8) && s.add.all fun c => Cm.Co.may c) && (decide ((s.del.length : Int) ≤ 8) && s.del.all fun c => Cm.Co.may c) && (decide ((s.prep.length : Int) ≤ 16) && s.prep.all fun n => inR n 1 65535)
set_option maxHeartbeats 2000000 in
set_option maxRecDepth 100000 in
theorem setMay_is (s : Se) (va vd vp : Value) (w : World) (h1 : Rd w 2 PrR va s.add) (h2 : Rd w 2 PrR vd s.del) (h3 : Rd w 1 InR vp s.prep) (hz : s.add.length ≤ 100000 ∧ s.del.length ≤ 100000 ∧ s.prep.length ≤ 100000) :
    Calls Tryz.prog 153 #[.agg #[.int .i64 s.pref, .int .i64 s.med, .int .i64 s.org, va, vd, .bool s.clr, vp]] w fun e w' => e = .returned (.bool (setOk s)) ∧ Below w.heap.size w w' := by
  obtain ⟨oa, ka, rfl⟩ := h1.slice
  obtain ⟨od, kd, rfl⟩ := h2.slice
  obtain ⟨op, kp, rfl⟩ := h3.slice
  obtain ⟨pref, med, org, add, del, clr, prep⟩ := s
  simp only at h1 h2 h3 hz ⊢
  have A1 := balloc (brefl w) (.cells #[.int .i64 pref, .int .i64 med, .int .i64 org, .slice oa add.length ka, .slice od del.length kd, .bool clr, .slice op prep.length kp] 59)
  have N1 := hide (heap_new w #[.int .i64 pref, .int .i64 med, .int .i64 org, .slice oa add.length ka, .slice od del.length kd, .bool clr, .slice op prep.length kp] 59)
  have C1 := hide (fun W => within_is pref (-1) 1048576 W)
  have C2 := hide (fun W => within_is med (-1) 1048576 W)
  have C3 := hide (fun W => within_is org (-1) 2 W)
  have C4 := hide (fun W (hb : Below w.heap.size w W) => fewComm_is (.slice oa add.length ka) add 8 W (commMay_fn W (fun _ => True)) (h1.below PrR.mono hb) (fun _ _ => trivial) hz.1)
  have C5 := hide (fun W (hb : Below w.heap.size w W) => fewComm_is (.slice od del.length kd) del 8 W (commMay_fn W (fun _ => True)) (h2.below PrR.mono hb) (fun _ _ => trivial) hz.2.1)
  have C6 := hide (fun W (hb : Below w.heap.size w W) => fewint_is (.slice op prep.length kp) prep 16 W (asMay_fn W (fun _ => True)) (h3.below InR.mono hb) (fun _ _ => trivial) hz.2.2)
  have HE : Hid (setOk ⟨pref, med, org, add, del, clr, prep⟩ = (inR pref (-1) 1048576 && inR med (-1) 1048576 && inR org (-1) 2 && (decide ((add.length : Int) ≤ 8) && add.all fun c => Cm.Co.may c) && (decide ((del.length : Int) ≤ 8) && del.all fun c => Cm.Co.may c) && (decide ((prep.length : Int) ≤ 16) && prep.all fun n => inR n 1 65535))) := rfl
  have B1 := hide A1
  clear A1 h1 h2 h3 hz
  generalize setOk ⟨pref, med, org, add, del, clr, prep⟩ = R at *
  generalize inR pref (-1) 1048576 = r1 at *
  generalize inR med (-1) 1048576 = r2 at *
  generalize inR org (-1) 2 = r3 at *
  generalize (decide ((add.length : Int) ≤ 8) && add.all fun c => Cm.Co.may c) = r4 at *
  generalize (decide ((del.length : Int) ≤ 8) && del.all fun c => Cm.Co.may c) = r5 at *
  generalize (decide ((prep.length : Int) ≤ 16) && prep.all fun n => inR n 1 65535) = r6 at *
  generalize add.length = na at *
  generalize del.length = nd at *
  generalize prep.length = np at *
  go_enter Tryz.func153, Tryz.ntmps153
  go_upto_region 1 with fail
  obtain ⟨bx, hbx⟩ : ∃ x, w.heap.size = x := ⟨_, rfl⟩
  rw [hbx] at N1 ⊢
  generalize w.alloc (.cells #[.int .i64 pref, .int .i64 med, .int .i64 org, .slice oa na ka, .slice od nd kd, .bool clr, .slice op np kp] 59) = W1 at *
  have n0 := cell_of N1.out 0 rfl
  have n1 := cell_of N1.out 1 rfl
  have n2 := cell_of N1.out 2 rfl
  have n3 := cell_of N1.out 3 rfl
  go_wp2_with fail
  refine (C1.out W1).mono ?_
  rintro e w2 ⟨rfl, rfl⟩
  cases r1 with
  | false =>
    go_wp2_with fail
    go_ret
    exact ⟨ret_bool HE.out.symm, by first | exact B1.out | (rw [← hbx]; exact B1.out) | (rw [hbx]; exact B1.out)⟩
  | true =>
    go_wp2_with fail
    refine (C2.out _).mono ?_
    rintro e w2 ⟨rfl, rfl⟩
    cases r2 with
    | false =>
      go_wp2_with fail
      go_ret
      exact ⟨ret_bool HE.out.symm, by first | exact B1.out | (rw [← hbx]; exact B1.out) | (rw [hbx]; exact B1.out)⟩
    | true =>
      go_wp2_with fail
      refine (C3.out _).mono ?_
      rintro e w2 ⟨rfl, rfl⟩
      cases r3 with
      | false =>
        go_wp2_with fail
        go_ret
        exact ⟨ret_bool HE.out.symm, by first | exact B1.out | (rw [← hbx]; exact B1.out) | (rw [hbx]; exact B1.out)⟩
      | true =>
        go_wp2_with fail
        refine (C4.out _ B1.out).mono ?_
        rintro e w3 ⟨rfl, hb3⟩
        have N3 := hide ((hb3.block bx (heap_lt N1.out)).trans N1.out)
        have B3 := hide (bthen B1.out hb3)
        clear hb3 C1 C2 C3 C4 n0 n1 n2 n3
        have n4 := cell_of N3.out 4 rfl
        cases r4 with
        | false =>
          go_wp2_with fail
          go_ret
          exact ⟨ret_bool HE.out.symm, by first | exact B3.out | (rw [← hbx]; exact B3.out) | (rw [hbx]; exact B3.out)⟩
        | true =>
          go_wp2_with fail
          refine (C5.out _ B3.out).mono ?_
          rintro e w4 ⟨rfl, hb4⟩
          have N4 := hide ((hb4.block bx (heap_lt N3.out)).trans N3.out)
          have B4 := hide (bthen B3.out hb4)
          clear hb4 C5 n4
          have n6 := cell_of N4.out 6 rfl
          cases r5 with
          | false =>
            go_wp2_with fail
            go_ret
            exact ⟨ret_bool HE.out.symm, by first | exact B4.out | (rw [← hbx]; exact B4.out) | (rw [hbx]; exact B4.out)⟩
          | true =>
            go_wp2_with fail
            refine (C6.out _ B4.out).mono ?_
            rintro e w5 ⟨rfl, hb5⟩
            have B5 := hide (bthen B4.out hb5)
            clear hb5 C6 n6
            have HR : Hid (R = r6) := by show _ = _; rw [HE.out]; cases r6 <;> rfl
            go_wp2_with fail
            go_ret
            exact ⟨ret_bool HR.out.symm, by first | exact B5.out | (rw [← hbx]; exact B5.out) | (rw [hbx]; exact B5.out)⟩
/-- May a clause be? -/
def clOk (c : Cl) : Bool := inR c.n 1 65535 && matchOk c.m && setOk c.s
/-- No text or list of a clause is too long to be asked. -/
def GCl (c : Cl) : Prop := c.m.list.size ≤ 1000 ∧ c.s.add.length ≤ 100000 ∧ c.s.del.length ≤ 100000 ∧ c.s.prep.length ≤ 100000
set_option maxHeartbeats 2000000 in
set_option maxRecDepth 100000 in
theorem clauseMay_fn (W0 : World) (hT : Ar.Y4.Pt W0) : FnIs W0 78 #[] 13 ClR GCl clOk where
  enter := fun args w => by go_simp
  ok := fun W a x hW hx hga => by
    obtain ⟨xs, h1, _, rfl⟩ := hx
    obtain ⟨va, vd, vp, rfl, hva, hvd, hvp⟩ := h1
    obtain ⟨oa, ka, rfl⟩ := hva.slice
    obtain ⟨od, kd, rfl⟩ := hvd.slice
    obtain ⟨op, kp, rfl⟩ := hvp.slice
    obtain ⟨n, ok, ⟨ml, mp, ca, cn⟩, ⟨pref, med, org, add, del, clr, prep⟩⟩ := a
    simp only at hva hvd hvp hga ⊢
    obtain ⟨z0, z1, z2, z3⟩ := hga
    simp only at z0 z1 z2 z3
    show Calls Tryz.prog 78 #[.agg #[.int .i64 n, .bool ok, .string ml, .string mp, .int .i64 ca, .int .i64 cn, .int .i64 pref, .int .i64 med, .int .i64 org, .slice oa add.length ka, .slice od del.length kd, .bool clr, .slice op prep.length kp]] W _
    have A1 := balloc (brefl W) (.cells #[.int .i64 n, .bool ok, .string ml, .string mp, .int .i64 ca, .int .i64 cn, .int .i64 pref, .int .i64 med, .int .i64 org, .slice oa add.length ka, .slice od del.length kd, .bool clr, .slice op prep.length kp] 61)
    have N1 := hide (heap_new W #[.int .i64 n, .bool ok, .string ml, .string mp, .int .i64 ca, .int .i64 cn, .int .i64 pref, .int .i64 med, .int .i64 org, .slice oa add.length ka, .slice od del.length kd, .bool clr, .slice op prep.length kp] 61)
    have C1 := hide (fun W => within_is n 1 65535 W)
    have C2 := hide (fun W2 (hb : Below W.heap.size W W2) => matchMay_is ⟨ml, mp, ca, cn⟩ z0 W2 (hT.on (bthen hW hb)))
    have C3 := hide (fun W2 (hb : Below W.heap.size W W2) => setMay_is ⟨pref, med, org, add, del, clr, prep⟩ (.slice oa add.length ka) (.slice od del.length kd) (.slice op prep.length kp) W2 (hva.below PrR.mono hb) (hvd.below PrR.mono hb) (hvp.below InR.mono hb) ⟨z1, z2, z3⟩)
    have HE : Hid (clOk ⟨n, ok, ⟨ml, mp, ca, cn⟩, ⟨pref, med, org, add, del, clr, prep⟩⟩ = (inR n 1 65535 && matchOk ⟨ml, mp, ca, cn⟩ && setOk ⟨pref, med, org, add, del, clr, prep⟩)) := rfl
    have B1 := hide A1
    clear A1 hva hvd hvp hT hW z0 z1 z2 z3
    generalize clOk ⟨n, ok, ⟨ml, mp, ca, cn⟩, ⟨pref, med, org, add, del, clr, prep⟩⟩ = R at *
    generalize inR n 1 65535 = r1 at *
    generalize matchOk ⟨ml, mp, ca, cn⟩ = r2 at *
    generalize setOk ⟨pref, med, org, add, del, clr, prep⟩ = r3 at *
    generalize add.length = na at *
    generalize del.length = nd at *
    generalize prep.length = np at *
    go_enter Tryz.func78, Tryz.ntmps78
    go_upto_region 1 with fail
    obtain ⟨bx, hbx⟩ : ∃ x, W.heap.size = x := ⟨_, rfl⟩
    rw [hbx] at N1 ⊢
    generalize W.alloc (.cells #[.int .i64 n, .bool ok, .string ml, .string mp, .int .i64 ca, .int .i64 cn, .int .i64 pref, .int .i64 med, .int .i64 org, .slice oa na ka, .slice od nd kd, .bool clr, .slice op np kp] 61) = W1 at *
    have n0 := cell_of N1.out 0 rfl
    have n1 := cell_of N1.out 1 rfl
    have n2 := cell_of N1.out 2 rfl
    have n3 := cell_of N1.out 3 rfl
    have n4 := cell_of N1.out 4 rfl
    have n5 := cell_of N1.out 5 rfl
    go_wp2_with fail
    refine (C1.out W1).mono ?_
    rintro e w2 ⟨rfl, rfl⟩
    cases r1 with
    | false =>
      go_wp2_with fail
      go_ret
      exact ⟨ret_bool HE.out.symm, by first | exact B1.out | (rw [← hbx]; exact B1.out) | (rw [hbx]; exact B1.out)⟩
    | true =>
      go_wp2_with fail
      refine (C2.out _ B1.out).mono ?_
      rintro e w3 ⟨rfl, hb3⟩
      have N3 := hide ((hb3.block bx (heap_lt N1.out)).trans N1.out)
      have B3 := hide (bthen B1.out hb3)
      clear hb3 C1 C2 n0 n1 n2 n3 n4 n5
      cases r2 with
      | false =>
        go_wp2_with fail
        go_ret
        exact ⟨ret_bool HE.out.symm, by first | exact B3.out | (rw [← hbx]; exact B3.out) | (rw [hbx]; exact B3.out)⟩
      | true =>
        have n6 := cell_of N3.out 6 rfl
        have n7 := cell_of N3.out 7 rfl
        have n8 := cell_of N3.out 8 rfl
        have n9 := cell_of N3.out 9 rfl
        have n10 := cell_of N3.out 10 rfl
        have n11 := cell_of N3.out 11 rfl
        have n12 := cell_of N3.out 12 rfl
        go_wp2_with fail
        refine (C3.out _ B3.out).mono ?_
        rintro e w4 ⟨rfl, hb4⟩
        have B4 := hide (bthen B3.out hb4)
        clear hb4 C3
        have HR : Hid (R = r3) := by show _ = _; rw [HE.out]; cases r3 <;> rfl
        go_wp2_with fail
        go_ret
        exact ⟨ret_bool HR.out.symm, by first | exact B4.out | (rw [← hbx]; exact B4.out) | (rw [hbx]; exact B4.out)⟩
end Go.Proofs.YtpmmhmgojjlniaaGreatDoor
namespace Go.Proofs.YtpmmhmgojjlniaaGreatDoor
open Go.RowKit Go.Sort
/-- Do the clauses' numbers rise? -/
def riseB : List Cl → Bool
  | a :: b :: l => decide (a.n < b.n) && riseB (b :: l)
  | _ => true
theorem riseB_iff : ∀ l : List Cl, riseB l = true ↔ ∀ i (h : i + 1 < l.length), l[i].n < l[i + 1].n
  | [] => ⟨fun _ i h => by simp at h, fun _ => rfl⟩
  | [a] => ⟨fun _ i h => by simp at h, fun _ => rfl⟩
  | a :: b :: l => by
    unfold riseB
    rw [Bool.and_eq_true, decide_eq_true_iff, riseB_iff (b :: l)]
    constructor
    · rintro ⟨h1, h2⟩ i h
      cases i with
      | zero => exact h1
      | succ i => exact h2 i (by simpa using h)
    · intro h
      exact ⟨h 0 (by simp), fun i hi => h (i + 1) (by simpa using hi)⟩
set_option maxHeartbeats 2000000 in
set_option maxRecDepth 100000 in
theorem rise_is (v : Value) (l : List Cl) (w : World) (h : Rd w 13 ClR v l) (hz : l.length ≤ 100000) :
    Calls Tryz.prog 79 #[v] w fun e w' => e = .returned (.bool (riseB l)) ∧ Below w.heap.size w w' := by
  obtain ⟨ao, ca, rfl⟩ := h.slice
  have H := hide h
  have HR := hide (riseB_iff l)
  have HCA := hide h.cap
  generalize riseB l = R at *
  clear h
  go_enter Tryz.func79, Tryz.ntmps79
  go_wp2_with fail
  go_loopw [7] (fun v7 wr => ∃ k : Nat, v7 = .int .i64 k ∧ k ≤ l.length ∧ Hid (∀ i (h : i + 1 < l.length), i + 1 < k → l[i].n < l[i + 1].n) ∧ Hid (Below w.heap.size w wr)) (fun v7 _ => l.length - (intOf v7).toNat)
  case atStart => exact ⟨0, rfl, Nat.zero_le _, hide (fun _ _ h => absurd h (Nat.not_lt_zero _)), brefl w⟩
  case round =>
    obtain ⟨k, rfl, hk, HU, HBR⟩ := hrel
    by_cases hkl : k < l.length
    · have hkl' : (k : Int) < (l.length : Int) := by omega
      obtain ⟨b, off, xs, rfl, hbw, hx, ha⟩ := (Rd.below ClR.mono H.out HBR.out).at_ hkl
      obtain ⟨v1, v2, v3, rfl, hw1, hw2, hw3⟩ := hx
      obtain ⟨o1, c1, rfl⟩ := hw1.slice
      obtain ⟨o2, c2, rfl⟩ := hw2.slice
      obtain ⟨o3, c3, rfl⟩ := hw3.slice
      clear hw1 hw2 hw3
      have HP : Hid (∀ m (_ : k = m + 1) (hm : m < l.length), wr.cell? ⟨b, off + m * 13, none⟩ = some (.int .i64 l[m].n)) := fun m _ hm => by
        obtain ⟨b2, off2, xs, hbo, _, hx, ha⟩ := (Rd.below ClR.mono H.out HBR.out).at_ hm
        obtain ⟨v1, v2, v3, rfl, _⟩ := hx
        have h0 := ha 0 _ rfl
        rw [Nat.add_zero] at h0
        cases hbo
        exact h0
      have HS : Hid ((∀ m, k = m + 1 → ∀ hm : m < l.length, l[m].n < l[k].n) → ∀ i (h : i + 1 < l.length), i + 1 < k + 1 → l[i].n < l[i + 1].n) := fun h i hi hik => by
        rcases Nat.lt_or_ge (i + 1) k with h1 | h1
        · exact HU.out i hi h1
        · obtain rfl : k = i + 1 := by omega
          exact h i rfl (by omega)
      have HN : Hid (∀ m (_ : k = m + 1) (hm : m < l.length), ¬ l[m].n < l[k].n → R = false) := fun m hm hml h => by
        subst hm
        have : R ≠ true := fun hR => h (HR.out.1 hR m hkl)
        simpa using this
      have e0 := ha 0 _ rfl
      have e1 := ha 1 _ rfl
      have e2 := ha 2 _ rfl
      have e3 := ha 3 _ rfl
      have e4 := ha 4 _ rfl
      have e5 := ha 5 _ rfl
      have e6 := ha 6 _ rfl
      have e7 := ha 7 _ rfl
      have e8 := ha 8 _ rfl
      have e9 := ha 9 _ rfl
      have e10 := ha 10 _ rfl
      have e11 := ha 11 _ rfl
      have e12 := ha 12 _ rfl
      simp only [Nat.add_zero] at e0
      clear ha
      have HCN : Hid (∃ c, c = l[k]) := ⟨_, rfl⟩
      obtain ⟨c, hc⟩ := HCN.out
      rw [← hc] at e0 e1 e2 e3 e4 e5 e6 e7 e8 e9 e10 e11 e12
      have HC := hide hc
      clear HCN hc
      obtain ⟨n, okv, ⟨ml, mp, mca, mcn⟩, ⟨pref, med, org, add, del, clr, prep⟩⟩ := c
      simp only at e0 e1 e2 e3 e4 e5 e6 e7 e8 e9 e10 e11 e12
      have HCn : Hid (l[k].n = n) := by show _ = _; rw [← HC.out]
      clear HC
      generalize add.length = na at *
      generalize del.length = nd at *
      generalize prep.length = np at *
      have A2 := balloc (brefl wr) (.cells #[.int .i64 n, .bool okv, .string ml, .string mp, .int .i64 mca, .int .i64 mcn, .int .i64 pref, .int .i64 med, .int .i64 org, .slice o1 na c1, .slice o2 nd c2, .bool clr, .slice o3 np c3] 61)
      have N2 := cell_of (heap_new wr #[.int .i64 n, .bool okv, .string ml, .string mp, .int .i64 mca, .int .i64 mcn, .int .i64 pref, .int .i64 med, .int .i64 org, .slice o1 na c1, .slice o2 nd c2, .bool clr, .slice o3 np c3] 61) 0 rfl
      have hca := HCA.out
      rcases Nat.eq_zero_or_pos k with hk0 | hk0
      · subst hk0
        have HS2 := hide (HS.out (fun m hm => by omega))
        clear HS HN HP HU HCn
        simp only [Nat.zero_mul, Nat.add_zero] at e0 e1 e2 e3 e4 e5 e6 e7 e8 e9 e10 e11 e12
        go_wp2_with fail
        have B2 := hide (bthen HBR.out A2)
        clear A2
        generalize wr.alloc (.cells #[.int .i64 n, .bool okv, .string ml, .string mp, .int .i64 mca, .int .i64 mcn, .int .i64 pref, .int .i64 med, .int .i64 org, .slice o1 na c1, .slice o2 nd c2, .bool clr, .slice o3 np c3] 61) = W1 at *
        generalize wr.heap.size = bx at *
        have r0 := fun dd os => cell_regrown N2 dd os
        refine wp_region_quiet_below (by kernel_rfl) (by kernel_rfl) ?_
        repeat (go_big_quiet_step (fail))
        refine wpQuiet_nil ?_
        rintro _ ⟨⟨dd, os⟩, rfl⟩
        have hb1 := below_regrown W1 dd os
        generalize Sort.grow (redrawn W1 dd) os = w2 at hb1
        have B3 := hide (bthen B2.out hb1)
        clear hb1 r0 N2
        go_wp2_with fail
        exact ⟨⟨1, by go_num, by omega, HS2, B3⟩, by simp [intOf] <;> omega⟩
      · obtain ⟨m, rfl⟩ : ∃ m, k = m + 1 := ⟨k - 1, by omega⟩
        have hml : m < l.length := by omega
        have p0 := A2.cell (p := ⟨b, off + m * 13, none⟩) (World.block_lt_of_cell? wr _ (HP.out m rfl hml)) |>.trans (HP.out m rfl hml)
        have HN2 := hide (HN.out m rfl hml)
        have HS2 : Hid (l[m].n < l[m + 1].n → ∀ i (h : i + 1 < l.length), i + 1 < m + 1 + 1 → l[i].n < l[i + 1].n) := fun h => HS.out (fun m' hm' hml' => by
          obtain rfl : m' = m := by omega
          exact h)
        rw [HCn.out] at HN2 HS2
        generalize l[m].n = q at *
        clear HS HN HP HU HCn
        have hml' : (m : Int) < (l.length : Int) := by omega
        have hm0 : (0 : Int) < ((m + 1 : Nat) : Int) := by omega
        have hpos : (0 : Int) < (m : Int) + 1 := by omega
        have hw1 : IntKind.i64.wrap ((m : Int) + 1 - 1) = m := by rw [IntKind.wrap_i64]; omega
        have hw2 : ((m : Int) + 1 - 1) = m := by omega
        by_cases hlt : q < n
        · have hle : ¬ n ≤ q := by omega
          have HS3 := hide (HS2.out hlt)
          clear HS2 HN2
          go_wp2_with fail
          have B2 := hide (bthen HBR.out A2)
          clear A2
          generalize wr.alloc (.cells #[.int .i64 n, .bool okv, .string ml, .string mp, .int .i64 mca, .int .i64 mcn, .int .i64 pref, .int .i64 med, .int .i64 org, .slice o1 na c1, .slice o2 nd c2, .bool clr, .slice o3 np c3] 61) = W1 at *
          generalize wr.heap.size = bx at *
          have r0 := fun dd os => cell_regrown N2 dd os
          have q0 := fun dd os => cell_regrown p0 dd os
          refine wp_region_quiet_below (by kernel_rfl) (by kernel_rfl) ?_
          repeat (go_big_quiet_step (fail))
          refine wpQuiet_nil ?_
          rintro _ ⟨⟨dd, os⟩, rfl⟩
          have hb1 := below_regrown W1 dd os
          generalize Sort.grow (redrawn W1 dd) os = w2 at hb1
          have B3 := hide (bthen B2.out hb1)
          clear hb1 r0 q0 N2 p0
          go_wp2_with fail
          exact ⟨⟨m + 1 + 1, by go_num, by omega, HS3, B3⟩, by simp [intOf] <;> omega⟩
        · have hle : n ≤ q := by omega
          have HN3 := hide (HN2.out hlt)
          clear HS2 HN2
          go_wp2_with fail
          have B2 := hide (bthen HBR.out A2)
          clear A2
          generalize wr.alloc (.cells #[.int .i64 n, .bool okv, .string ml, .string mp, .int .i64 mca, .int .i64 mcn, .int .i64 pref, .int .i64 med, .int .i64 org, .slice o1 na c1, .slice o2 nd c2, .bool clr, .slice o3 np c3] 61) = W1 at *
          generalize wr.heap.size = bx at *
          have r0 := fun dd os => cell_regrown N2 dd os
          have q0 := fun dd os => cell_regrown p0 dd os
          refine wp_region_quiet_below (by kernel_rfl) (by kernel_rfl) ?_
          repeat (go_big_quiet_step (fail))
          refine wpQuiet_nil ?_
          rintro _ ⟨⟨dd, os⟩, rfl⟩
          have hb1 := below_regrown W1 dd os
          generalize Sort.grow (redrawn W1 dd) os = w2 at hb1
          have B3 := hide (bthen B2.out hb1)
          clear hb1 r0 q0 N2 p0
          go_wp2_with fail
          go_ret
          exact ⟨ret_bool HN3.out.symm, B3.out⟩
    · have hkl' : ¬ (k : Int) < (l.length : Int) := by omega
      have HY : Hid (R = true) := HR.out.2 (fun i hi => HU.out i hi (by omega))
      clear HU
      go_wp2_with fail
      go_ret
      exact ⟨ret_bool HY.out.symm, HBR.out⟩
end Go.Proofs.YtpmmhmgojjlniaaGreatDoor
namespace Go.Proofs.YtpmmhmgojjlniaaGreatDoor
open Go.RowKit Go.Sort
/-- May clauses be a map? -/
def clsOk (l : List Cl) : Bool := (decide ((l.length : Int) ≤ 16) && l.all clOk) && riseB l
/-- No text or list of a map is too long to be asked. -/
def GMp (m : Mp) : Prop := m.cls.length ≤ 100000 ∧ (∀ c ∈ m.cls, GCl c) ∧ m.name.size ≤ 1000
set_option maxHeartbeats 2000000 in
set_option maxRecDepth 100000 in
theorem mapMay_fn (W0 : World) (hT : Ar.Y4.Pt W0) : FnIs W0 34 #[] 2 MpR GMp (fun m => clsOk m.cls) where
  enter := fun args w => by go_simp
  ok := fun W a x hW hx hga => by
    obtain ⟨xs, h1, _, rfl⟩ := hx
    obtain ⟨v, rfl, hv⟩ := h1
    obtain ⟨o, c, rfl⟩ := hv.slice
    obtain ⟨name, cls⟩ := a
    simp only at hv hga ⊢
    obtain ⟨z0, z1, _⟩ := hga
    simp only at z0 z1
    show Calls Tryz.prog 34 #[.agg #[.string name, .slice o cls.length c]] W _
    have A1 := balloc (brefl W) (.cells #[.string name, .slice o cls.length c] 51)
    have N1 := hide (heap_new W #[.string name, .slice o cls.length c] 51)
    have C1 := hide (fun W2 (hb : Below W.heap.size W W2) => fewClause_is (.slice o cls.length c) cls 16 W2 (clauseMay_fn W2 (hT.on (bthen hW hb))) (hv.below ClR.mono hb) z1 z0)
    have C2 := hide (fun W2 (hb : Below W.heap.size W W2) => rise_is (.slice o cls.length c) cls W2 (hv.below ClR.mono hb) z0)
    have HE : Hid (clsOk cls = ((decide ((cls.length : Int) ≤ 16) && cls.all clOk) && riseB cls)) := rfl
    have B1 := hide A1
    clear A1 hv hT hW z0 z1
    generalize clsOk cls = R at *
    generalize (decide ((cls.length : Int) ≤ 16) && cls.all clOk) = r1 at *
    generalize riseB cls = r2 at *
    generalize cls.length = na at *
    go_enter Tryz.func34, Tryz.ntmps34
    go_upto_region 1 with fail
    obtain ⟨bx, hbx⟩ : ∃ x, W.heap.size = x := ⟨_, rfl⟩
    rw [hbx] at N1 ⊢
    generalize W.alloc (.cells #[.string name, .slice o na c] 51) = W1 at *
    have n1 := cell_of N1.out 1 rfl
    go_wp2_with fail
    refine (C1.out _ B1.out).mono ?_
    rintro e w2 ⟨rfl, hb⟩
    have N2 := hide ((hb.block bx (heap_lt N1.out)).trans N1.out)
    have B2 := hide (bthen B1.out hb)
    clear hb C1 n1
    cases r1 with
    | false =>
      go_wp2_with fail
      go_ret
      exact ⟨ret_bool HE.out.symm, by first | exact B2.out | (rw [← hbx]; exact B2.out) | (rw [hbx]; exact B2.out)⟩
    | true =>
      have n1 := cell_of N2.out 1 rfl
      go_wp2_with fail
      refine (C2.out _ B2.out).mono ?_
      rintro e w3 ⟨rfl, hb⟩
      have N3 := hide ((hb.block bx (heap_lt N2.out)).trans N2.out)
      have B3 := hide (bthen B2.out hb)
      clear hb C2 n1
      have HR : Hid (R = r2) := by show _ = _; rw [HE.out]; cases r2 <;> rfl
      go_wp2_with fail
      go_ret
      exact ⟨ret_bool HR.out.symm, by first | exact B3.out | (rw [← hbx]; exact B3.out) | (rw [hbx]; exact B3.out)⟩
end Go.Proofs.YtpmmhmgojjlniaaGreatDoor
namespace Go.Proofs.YtpmmhmgojjlniaaGreatDoor
open Go.RowKit Go.Sort
/-- No text of a neighbor is too long to be asked. -/
def GNb (n : Nb) : Prop := n.name.size ≤ 1000 ∧ n.imp.size ≤ 1000 ∧ n.exp.size ≤ 1000
def nbOk (n : Nb) : Bool := lackOk n.imp && lackOk n.exp
def GLk (n : Lk) : Prop := n.name.size ≤ 1000
def lkOk (n : Lk) : Bool := inR n.cost 0 65536
set_option maxRecDepth 100000 in
theorem itself_key (W0 : World) (G : Int × Int → Prop) : FnPfx W0 87 #[] 2 PxR G (fun p => p) where
  enter := fun args w => by go_simp
  ok := fun W a x _ hx _ => by
    obtain ⟨xs, h1, _, rfl⟩ := hx
    obtain ⟨a1, a2⟩ := a
    obtain rfl : xs = [.int .u32 a1, .int .i64 a2] := h1
    show Calls Tryz.prog 87 #[.agg #[.int .u32 a1, .int .i64 a2]] W _
    have A1 := hide (balloc (balloc (brefl W) (.cells #[.int .u32 a1, .int .i64 a2] 95)) (.cells #[.int .u32 a1, .int .i64 a2] 95))
    go_enter Tryz.func87, Tryz.ntmps87
    go_wp2_with fail
    exact bodyPost_ret (v := .agg #[.int .u32 a1, .int .i64 a2]) (results_cell_row Tryz.results87 _ _ _ 95 #[.int .u32 a1, .int .i64 a2] _ _ rfl (heap_alloc2_new _ _ _) Tryz.underlying95 rfl (by kernel_rfl)) rfl ⟨rfl, A1.out⟩
set_option maxHeartbeats 2000000 in
set_option maxRecDepth 100000 in
theorem neighborMay_fn (W0 : World) : FnIs W0 90 #[] 4 NbR GNb nbOk where
  enter := fun args w => by go_simp
  ok := fun W a x hW hx hga => by
    obtain ⟨xs, h1, _, rfl⟩ := hx
    obtain ⟨name, imp, exp, cl⟩ := a
    obtain rfl : xs = [.string name, .string imp, .string exp, .bool cl] := h1
    obtain ⟨_, z1, z2⟩ := hga
    simp only at z1 z2
    show Calls Tryz.prog 90 #[.agg #[.string name, .string imp, .string exp, .bool cl]] W _
    have A1 := balloc (brefl W) (.cells #[.string name, .string imp, .string exp, .bool cl] 68)
    have N1 := hide (heap_new W #[.string name, .string imp, .string exp, .bool cl] 68)
    have C1 := hide (fun W2 (_ : Below W.heap.size W W2) => mayLack_is imp z1 W2)
    have C2 := hide (fun W2 (_ : Below W.heap.size W W2) => mayLack_is exp z2 W2)
    have HE : Hid (nbOk ⟨name, imp, exp, cl⟩ = (lackOk imp && lackOk exp)) := rfl
    have B1 := hide A1
    clear A1 hW z1 z2
    generalize nbOk ⟨name, imp, exp, cl⟩ = R at *
    generalize lackOk imp = r1 at *
    generalize lackOk exp = r2 at *
    go_enter Tryz.func90, Tryz.ntmps90
    go_upto_region 1 with fail
    obtain ⟨bx, hbx⟩ : ∃ x, W.heap.size = x := ⟨_, rfl⟩
    rw [hbx] at N1 ⊢
    generalize W.alloc (.cells #[.string name, .string imp, .string exp, .bool cl] 68) = W1 at *
    have n1 := cell_of N1.out 1 rfl
    go_wp2_with fail
    refine (C1.out _ B1.out).mono ?_
    rintro e w2 ⟨rfl, hb⟩
    have N2 := hide ((hb.block bx (heap_lt N1.out)).trans N1.out)
    have B2 := hide (bthen B1.out hb)
    clear hb C1 n1
    cases r1 with
    | false =>
      go_wp2_with fail
      go_ret
      exact ⟨ret_bool HE.out.symm, by first | exact B2.out | (rw [← hbx]; exact B2.out) | (rw [hbx]; exact B2.out)⟩
    | true =>
      have n2 := cell_of N2.out 2 rfl
      go_wp2_with fail
      refine (C2.out _ B2.out).mono ?_
      rintro e w3 ⟨rfl, hb⟩
      have N3 := hide ((hb.block bx (heap_lt N2.out)).trans N2.out)
      have B3 := hide (bthen B2.out hb)
      clear hb C2 n2
      have HR : Hid (R = r2) := by show _ = _; rw [HE.out]; cases r2 <;> rfl
      go_wp2_with fail
      go_ret
      exact ⟨ret_bool HR.out.symm, by first | exact B3.out | (rw [← hbx]; exact B3.out) | (rw [hbx]; exact B3.out)⟩
set_option maxHeartbeats 2000000 in
set_option maxRecDepth 100000 in
theorem linkMay_fn (W0 : World) (G : Lk → Prop) : FnIs W0 93 #[] 2 LkR G lkOk where
  enter := fun args w => by go_simp
  ok := fun W a x hW hx hga => by
    obtain ⟨xs, h1, _, rfl⟩ := hx
    obtain ⟨name, cost⟩ := a
    obtain rfl : xs = [.string name, .int .i64 cost] := h1
    show Calls Tryz.prog 93 #[.agg #[.string name, .int .i64 cost]] W _
    have A1 := balloc (brefl W) (.cells #[.string name, .int .i64 cost] 70)
    have N1 := hide (heap_new W #[.string name, .int .i64 cost] 70)
    have C1 := hide (fun W => within_is cost 0 65536 W)
    have HE : Hid (lkOk ⟨name, cost⟩ = inR cost 0 65536) := rfl
    have B1 := hide A1
    clear A1 hW hga
    generalize lkOk ⟨name, cost⟩ = R at *
    generalize inR cost 0 65536 = r1 at *
    go_enter Tryz.func93, Tryz.ntmps93
    go_upto_region 1 with fail
    obtain ⟨bx, hbx⟩ : ∃ x, W.heap.size = x := ⟨_, rfl⟩
    rw [hbx] at N1 ⊢
    generalize W.alloc (.cells #[.string name, .int .i64 cost] 70) = W1 at *
    have n1 := cell_of N1.out 1 rfl
    go_wp2_with fail
    refine (C1.out _).mono ?_
    rintro e w0 ⟨rfl, rfl⟩
    clear C1 n1
    have HR : Hid (R = r1) := by show _ = _; rw [HE.out]
    go_wp2_with fail
    go_ret
    exact ⟨ret_bool HR.out.symm, by first | exact B1.out | (rw [← hbx]; exact B1.out) | (rw [hbx]; exact B1.out)⟩
end Go.Proofs.YtpmmhmgojjlniaaGreatDoor
