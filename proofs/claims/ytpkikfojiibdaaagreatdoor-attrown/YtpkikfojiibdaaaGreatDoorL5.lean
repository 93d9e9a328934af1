import Derived.Test.YtpkikfojiibdaaaGreatDoorM3
import Derived.Laws.Rows
/- The law AttrTwice. -/
namespace Go.Proofs.YtpkikfojiibdaaaGreatDoor
open Go.RowKit

set_option maxHeartbeats 8000000 in
set_option maxRecDepth 100000 in
theorem law_twice {T : World → Prop} (K : Kit T) (a : At) (po co ko : Option Addr) (cp cc ck : Nat) (s : St) (ao dl pr : Option Addr) (ca cd cr : Nat) (w : World) (hT : T w) (hA : At.lies w a po co ko) (hCA : At.came a po co ko cp cc ck) (hS : St.lies w s ao dl pr) (hCS : Cm.Co.came ao ca ∧ Cm.Co.came dl cd ∧ Cm.Co.came pr cr) :
    Calls Tryz.prog 4 #[.agg #[.int .i64 a.pf, .int .i64 a.md, .int .i64 a.og, .slice po a.path.length cp, .slice co a.comms.length cc, .int .i64 a.fr, .slice ko a.cl.length ck], .agg #[.int .i64 s.pf, .int .i64 s.md, .int .i64 s.og, .slice ao s.add.length ca, .slice dl s.del.length cd, .bool s.clr, .slice pr s.pre.length cr]] w fun e w' => e = .returned (.bool true) ∧ Below w.heap.size w w' := by
  obtain ⟨h1, h2, hbb⟩ := boxes2 w #[.int .i64 a.pf, .int .i64 a.md, .int .i64 a.og, .slice po a.path.length cp, .slice co a.comms.length cc, .int .i64 a.fr, .slice ko a.cl.length ck] #[.int .i64 s.pf, .int .i64 s.md, .int .i64 s.og, .slice ao s.add.length ca, .slice dl s.del.length cd, .bool s.clr, .slice pr s.pre.length cr] 25 27
  have N1 := hide h1
  have N2 := hide h2
  have HB := hide hbb
  clear h1 h2 hbb
  have CL := hide (fun W (hb : Below w.heap.size w W) => lives_is K W (K.on hT hb))
  have LA := hide hA
  have LS := hide hS
  have HCA := hide hCA
  have HCS := hide hCS
  have HT := hide hT
  have HK := hide K
  obtain ⟨fa, hfa⟩ : ∃ r, few3 a.path.length a.comms.length a.cl.length = r := ⟨_, rfl⟩
  obtain ⟨fs, hfs⟩ : ∃ r, few3 s.add.length s.del.length s.pre.length = r := ⟨_, rfl⟩
  have Fa := hide (fun W => few_is a.pf a.md a.og a.fr po co ko _ _ _ cp cc ck fa hfa W)
  have Fs := hide (fun W => fewSet_is s.pf s.md s.og ao dl pr _ _ _ ca cd cr s.clr fs hfs W)
  have HFa := hide hfa
  have HFs := hide hfs
  clear hfa hfs hA hS hCA hCS hT K
  go_enter Tryz.func4, Tryz.ntmps4
  go_wp2_with fail
  generalize (w.alloc (.cells #[.int .i64 a.pf, .int .i64 a.md, .int .i64 a.og, .slice po a.path.length cp, .slice co a.comms.length cc, .int .i64 a.fr, .slice ko a.cl.length ck] 25)).alloc (.cells #[.int .i64 s.pf, .int .i64 s.md, .int .i64 s.og, .slice ao s.add.length ca, .slice dl s.del.length cd, .bool s.clr, .slice pr s.pre.length cr] 27) = W at *
  obtain ⟨p, hp⟩ : ∃ p, w.heap.size = p := ⟨_, rfl⟩
  rw [hp] at N1 N2
  have HP := hide hp
  rw [hp]
  clear hp
  obtain ⟨q, hq⟩ : ∃ q, p + 1 = q := ⟨_, rfl⟩
  rw [hq] at N2
  have HPQ : Hid (p ≠ q ∧ p ≤ q) := ⟨by omega, by omega⟩
  rw [hq]
  clear hq
  cases fa
  · refine (Fa.out _).mono ?_
    rintro e w1 ⟨rfl, hb1⟩
    have B1 := hide (bthen HB.out hb1)
    have CL1 := hide (CL.out w1 B1.out)
    clear hb1
    go_wp2_with fail
    refine CL1.out.mono ?_
    rintro e w2 ⟨rfl, hb2⟩
    have B2 := hide (bthen B1.out hb2)
    clear hb2
    go_wp2_with fail
    go_ret
    exact ⟨rfl, B2.out⟩
  refine (Fa.out _).mono ?_
  rintro e w1 ⟨rfl, hb1⟩
  have B1 := hide hb1
  obtain ⟨d0, d1, d2, d3, d4, d5, d6⟩ := seven_cells ((hb1.block q (heap_lt N2.out)).trans N2.out)
  clear hb1
  go_wp2_with fail
  cases fs
  · refine (Fs.out _).mono ?_
    rintro e w2 ⟨rfl, hb2⟩
    have B2 := hide (bthen HB.out (bthen B1.out hb2))
    have CL1 := hide (CL.out w2 B2.out)
    clear hb2
    go_wp2_with fail
    refine CL1.out.mono ?_
    rintro e w3 ⟨rfl, hb3⟩
    have B3 := hide (bthen B2.out hb3)
    clear hb3
    go_wp2_with fail
    go_ret
    exact ⟨rfl, B3.out⟩
  refine (Fs.out _).mono ?_
  rintro e w3 ⟨rfl, hb3⟩
  have B3 := hide (bthen B1.out hb3)
  clear hb3 d0 d1 d2 d3 d4 d5 d6 Fa Fs B1
  obtain ⟨ma1, ma2, ma3⟩ := (few3_iff _ _ _).1 HFa.out
  obtain ⟨ms1, ms2, ms3⟩ := (few3_iff _ _ _).1 HFs.out
  have M1 := hide ma1
  have M2 := hide ma2
  have M3 := hide ma3
  have S1 := hide ms1
  have S2 := hide ms2
  clear ma1 ma2 ma3 ms1 ms2 ms3 HFa HFs
  have Nq := hide ((B3.out.block q (heap_lt N2.out)).trans N2.out)
  have Np := hide ((B3.out.block p (heap_lt N1.out)).trans N1.out)
  obtain ⟨d0, d1, d2, d3, d4, d5, d6⟩ := seven_cells Nq.out
  have fz := frozen7 Nq.out 6
  have NQ : Hid ((w3.setCell ⟨q, 6, none⟩ (.slice none 0 0)).heap[q]? = some (.cells #[.int .i64 s.pf, .int .i64 s.md, .int .i64 s.og, .slice ao s.add.length ca, .slice dl s.del.length cd, .bool s.clr, .slice none 0 0] 27 (0, 0))) := heap_setCell_same w3 q 6 _ 27 (.slice none 0 0) Nq.out
  have NP : Hid ((w3.setCell ⟨q, 6, none⟩ (.slice none 0 0)).heap[p]? = some (.cells #[.int .i64 a.pf, .int .i64 a.md, .int .i64 a.og, .slice po a.path.length cp, .slice co a.comms.length cc, .int .i64 a.fr, .slice ko a.cl.length ck] 25 (0, 0))) := (heap_setCell_other w3 ⟨q, 6, none⟩ p _ HPQ.out.1).trans Np.out
  have BW : Hid (Below w.heap.size w (w3.setCell ⟨q, 6, none⟩ (.slice none 0 0))) := (bthen HB.out B3.out).setCell (p := ⟨q, 6, none⟩) (by rw [HP.out]; exact HPQ.out.2) _
  go_wp2_with fail
  generalize w3.setCell ⟨q, 6, none⟩ (.slice none 0 0) = W4 at *
  clear d0 d1 d2 d3 d4 d5 d6 fz Nq Np N1 N2 B3 HB
  have CNo := hide (fun W' (hb : Below W4.heap.size W4 W') => HK.out.nothing W' (HK.out.on HT.out (bthen BW.out hb)))
  have CDo := hide (fun ao dl pr ca cd cr W' (hb : Below W4.heap.size W4 W') hc => HK.out.do_ a po co ko cp cc ck St.none ao dl pr ca cd cr W' (HK.out.on HT.out (bthen BW.out hb)) (At.lies_below LA.out (bthen BW.out hb)) HCA.out M1.out M2.out M3.out ⟨.inl rfl, .inl rfl, .inl rfl⟩ hc (by decide) (by decide) (by decide))
  unfold St.none at CDo
  simp only [List.length_nil] at CDo
  have SH : Hid (∀ W', Below W4.heap.size W4 W' → (fun w' => w'.cell? ⟨p, 0, none⟩ = some (.int .i64 a.pf) ∧ w'.cell? ⟨p, 1, none⟩ = some (.int .i64 a.md) ∧ w'.cell? ⟨p, 2, none⟩ = some (.int .i64 a.og) ∧ w'.cell? ⟨p, 3, none⟩ = some (.slice po a.path.length cp) ∧ w'.cell? ⟨p, 4, none⟩ = some (.slice co a.comms.length cc) ∧ w'.cell? ⟨p, 5, none⟩ = some (.int .i64 a.fr) ∧ w'.cell? ⟨p, 6, none⟩ = some (.slice ko a.cl.length ck)) W') := fun W' hb => by
    obtain ⟨c0, c1, c2, c3, c4, c5, c6⟩ := seven_cells ((hb.block p (heap_lt NP.out)).trans NP.out)
    exact ⟨c0, c1, c2, c3, c4, c5, c6⟩
  have B0 : Hid (Below W4.heap.size W4 W4.drew) := (brefl W4).drew
  refine wp_region_held_drew (S := fun w' => w'.cell? ⟨p, 0, none⟩ = some (.int .i64 a.pf) ∧ w'.cell? ⟨p, 1, none⟩ = some (.int .i64 a.md) ∧ w'.cell? ⟨p, 2, none⟩ = some (.int .i64 a.og) ∧ w'.cell? ⟨p, 3, none⟩ = some (.slice po a.path.length cp) ∧ w'.cell? ⟨p, 4, none⟩ = some (.slice co a.comms.length cc) ∧ w'.cell? ⟨p, 5, none⟩ = some (.int .i64 a.fr) ∧ w'.cell? ⟨p, 6, none⟩ = some (.slice ko a.cl.length ck)) (by kernel_rfl) (SH.out _ B0.out) (fun hHeld => ?_)
  refine wpAnyH_take (i := 0) (v := .agg #[.int .i64 a.pf, .int .i64 a.md, .int .i64 a.og, .slice po a.path.length cp, .slice co a.comms.length cc, .int .i64 a.fr, .slice ko a.cl.length ck]) rfl (by kernel_rfl) (by kernel_rfl) (by kernel_rfl) (fun _ _ _ h => h) (Or.inl ⟨by rfl, fun w hSw => by dsimp only at hSw; go_simp⟩) hHeld ?_
  simp only [Act.put, List.getElem_toArray, List.getElem_cons_zero, List.setIfInBounds_toArray, List.set_cons_zero, List.set_cons_succ]
  refine wpAnyH_ready (rs := [1, 6]) (by kernel_rfl) (by simp) ?_
  refine AllReadyH.cons rfl (fun K hK => ?_) ?_
  · go_simp
    go_wp2_with (refine (CNo.out _ B0.out).mono ?_; rintro e w1 ⟨an, dn, qn, can, cdn, cqn, rfl, hcn, hb⟩; have HCN := hide hcn; have B1 := hide (bthen B0.out hb); clear hb hcn)
    refine hK.out _ _ (SH.out _ B1.out) (fun hHeld => ?_)
    clear hK K
    try simp only [Act.put, List.getElem_toArray, List.getElem_cons_zero, List.getElem_cons_succ, List.setIfInBounds_toArray, List.set_cons_zero, List.set_cons_succ]
    refine wpAnyH_ready (rs := [2, 6]) (by kernel_rfl) (by simp) ?_
    refine AllReadyH.cons rfl (fun K hK => ?_) ?_
    · go_simp
      go_wp2_with (refine (CDo.out an dn qn can cdn cqn _ B1.out HCN.out).mono ?_; rintro e w2 ⟨r, rq, pn, cn, kn, np, nc, nk, rfl, hd, hm, hc, hb⟩; have HD := hide hd; have HM := hide hm; have HC := hide hc; have B2 := hide (bthen B1.out hb); clear hb hd hm hc)
      refine hK.out _ _ (SH.out _ B2.out) (fun hHeld => ?_)
      clear hK K
      try simp only [Act.put, List.getElem_toArray, List.getElem_cons_zero, List.getElem_cons_succ, List.setIfInBounds_toArray, List.set_cons_zero, List.set_cons_succ]
      refine wpAnyH_take (i := 3) (v := .tuple #[.agg #[.int .i64 r.pf, .int .i64 r.md, .int .i64 r.og, .slice pn r.path.length np, .slice cn r.comms.length nc, .int .i64 r.fr, .slice kn r.cl.length nk], .int .i64 rq]) rfl (by kernel_rfl) (by kernel_rfl) (by kernel_rfl) (fun _ _ _ h => h) (Or.inl ⟨by rfl, fun w hSw => by dsimp only at hSw; go_simp⟩) hHeld ?_
      simp only [Act.put, List.getElem_toArray, List.getElem_cons_zero, List.getElem_cons_succ, List.setIfInBounds_toArray, List.set_cons_zero, List.set_cons_succ]
      refine wpAnyH_take (i := 4) (v := .agg #[.int .i64 r.pf, .int .i64 r.md, .int .i64 r.og, .slice pn r.path.length np, .slice cn r.comms.length nc, .int .i64 r.fr, .slice kn r.cl.length nk]) rfl (by kernel_rfl) (by kernel_rfl) (by kernel_rfl) (fun _ _ _ h => h) (Or.inl ⟨by rfl, fun w hSw => by dsimp only at hSw; go_simp⟩) hHeld ?_
      simp only [Act.put, List.getElem_toArray, List.getElem_cons_zero, List.getElem_cons_succ, List.setIfInBounds_toArray, List.set_cons_zero, List.set_cons_succ]
      refine wpAnyH_take (i := 5) (v := .int .i64 rq) rfl (by kernel_rfl) (by kernel_rfl) (by kernel_rfl) (fun _ _ _ h => h) (Or.inl ⟨by rfl, fun w hSw => by dsimp only at hSw; go_simp⟩) hHeld ?_
      simp only [Act.put, List.getElem_toArray, List.getElem_cons_zero, List.getElem_cons_succ, List.setIfInBounds_toArray, List.set_cons_zero, List.set_cons_succ]
      refine wpAnyH_ready (rs := [6]) (by kernel_rfl) (by simp) ?_
      refine AllReadyH.cons rfl (fun K hK => ?_) AllReadyH.nil
      have NZ := hide (heap_new w2 #[.int .i64 0, .int .i64 0, .int .i64 0, .slice none 0 0, .slice none 0 0, .int .i64 0, .slice none 0 0] 25)
      have B3 := hide (bthen B2.out (balloc (brefl w2) (.cells #[.int .i64 0, .int .i64 0, .int .i64 0, .slice none 0 0, .slice none 0 0, .int .i64 0, .slice none 0 0] 25)))
      have HG : Hid (W4.heap.size ≤ w2.heap.size) := B2.out.size
      go_simp
      refine hK.out _ _ (SH.out _ B3.out) (fun hHeld => ?_)
      clear hK K
      try simp only [Act.put, List.getElem_toArray, List.getElem_cons_zero, List.getElem_cons_succ, List.setIfInBounds_toArray, List.set_cons_zero, List.set_cons_succ]
      have HLA : Hid (∀ w9, Below w2.heap.size w2 w9 → At.lies w9 r pn cn kn) := fun w9 hb => At.lies_below HM.out.1 hb
      have LN := hide (HLA.out _ (put7_below (balloc (brefl w2) (.cells #[.int .i64 0, .int .i64 0, .int .i64 0, .slice none 0 0, .slice none 0 0, .int .i64 0, .slice none 0 0] 25)) (Nat.le_refl _) (.int .i64 r.pf) (.int .i64 r.md) (.int .i64 r.og) (.slice pn r.path.length np) (.slice cn r.comms.length nc) (.int .i64 r.fr) (.slice kn r.cl.length nk)))
      generalize w2.alloc (.cells #[.int .i64 0, .int .i64 0, .int .i64 0, .slice none 0 0, .slice none 0 0, .int .i64 0, .slice none 0 0] 25) = w3 at *
      generalize w2.heap.size = g5 at *
      obtain ⟨z0, z1, z2, z3, z4, z5, z6⟩ := seven_cells NZ.out
      have f0 := frozen7 NZ.out 0
      have f1 := frozen7 NZ.out 1
      have f2 := frozen7 NZ.out 2
      have f3 := frozen7 NZ.out 3
      have f4 := frozen7 NZ.out 4
      have f5 := frozen7 NZ.out 5
      have f6 := frozen7 NZ.out 6
      have N5 := hide (put7_same NZ.out (.int .i64 r.pf) (.int .i64 r.md) (.int .i64 r.og) (.slice pn r.path.length np) (.slice cn r.comms.length nc) (.int .i64 r.fr) (.slice kn r.cl.length nk))
      have B9 := hide (put7_below B3.out HG.out (.int .i64 r.pf) (.int .i64 r.md) (.int .i64 r.og) (.slice pn r.path.length np) (.slice cn r.comms.length nc) (.int .i64 r.fr) (.slice kn r.cl.length nk))
      refine wpAnyH_ready (rs := [7]) (by kernel_rfl) (by simp) ?_
      refine AllReadyH.cons rfl (fun K hK => ?_) AllReadyH.nil
      go_simp
      change K _ (put7 w3 g5 (.int .i64 r.pf) (.int .i64 r.md) (.int .i64 r.og) (.slice pn r.path.length np) (.slice cn r.comms.length nc) (.int .i64 r.fr) (.slice kn r.cl.length nk))
      clear z0 z1 z2 z3 z4 z5 z6 f0 f1 f2 f3 f4 f5 f6 NZ
      generalize put7 w3 g5 (.int .i64 r.pf) (.int .i64 r.md) (.int .i64 r.og) (.slice pn r.path.length np) (.slice cn r.comms.length nc) (.int .i64 r.fr) (.slice kn r.cl.length nk) = w9 at *
      refine hK.out _ _ (SH.out _ B9.out) (fun hHeld => ?_)
      clear hK K
      try simp only [Act.put, List.getElem_toArray, List.getElem_cons_zero, List.getElem_cons_succ, List.setIfInBounds_toArray, List.set_cons_zero, List.set_cons_succ]
      refine wpAnyH_take (i := 8) (v := .int .i64 rq) rfl (by kernel_rfl) (by kernel_rfl) (by kernel_rfl) (fun _ _ _ h => h) (Or.inl ⟨by rfl, fun w hSw => by dsimp only at hSw; go_simp⟩) hHeld ?_
      simp only [Act.put, List.getElem_toArray, List.getElem_cons_zero, List.getElem_cons_succ, List.setIfInBounds_toArray, List.set_cons_zero, List.set_cons_succ]
      refine wpAnyH_done (by kernel_rfl) ?_ _
      clear hHeld SH CNo CDo
      rcases do_none HD.out with ⟨hma, hra, hrq⟩ | ⟨hma, hra, hrq⟩
      · have hra' := hra.symm
        clear hra
        subst hra'
        subst hrq
        have HMA := hide hma
        clear hma HD
        have CM := hide (HK.out.may a po co ko cp cc ck true HMA.out w9 (HK.out.on HT.out (bthen BW.out B9.out)) (At.lies_below LA.out (bthen BW.out B9.out)) M1.out M2.out M3.out HCA.out.2.2.2)
        obtain ⟨d0, d1, d2, d3, d4, d5, d6⟩ := seven_cells ((B9.out.block p (heap_lt NP.out)).trans NP.out)
        go_wp2_with fail
        refine CM.out.mono ?_
        rintro e w10 ⟨rfl, hb10⟩
        have B10 := hide (bthen B9.out hb10)
        have L10 := hide (At.lies_below LN.out hb10)
        have N10 := hide ((hb10.block g5 (heap_lt N5.out)).trans N5.out)
        clear hb10 CM
        clear d0 d1 d2 d3 d4 d5 d6
        have CS := hide (HK.out.same a a pn cn kn np nc nk po co ko cp cc ck true (decide_eq_true ((At.cmp_zero a a).2 rfl)) w10 (HK.out.on HT.out (bthen BW.out B10.out)) L10.out (At.lies_below LA.out (bthen BW.out B10.out)) M1.out M2.out M3.out M1.out M2.out M3.out)
        obtain ⟨d0, d1, d2, d3, d4, d5, d6⟩ := seven_cells ((B10.out.block p (heap_lt NP.out)).trans NP.out)
        obtain ⟨e0, e1, e2, e3, e4, e5, e6⟩ := seven_cells N10.out
        go_wp2_with fail
        refine CS.out.mono ?_
        rintro e w11 ⟨rfl, hb11⟩
        have B11 := hide (bthen B10.out hb11)
        clear hb11 CS N10 L10
        clear d0 d1 d2 d3 d4 d5 d6 e0 e1 e2 e3 e4 e5 e6
        obtain ⟨d0, d1, d2, d3, d4, d5, d6⟩ := seven_cells ((B11.out.block p (heap_lt NP.out)).trans NP.out)
        obtain ⟨e0, e1, e2, e3, e4, e5, e6⟩ := seven_cells ((B11.out.block q (heap_lt NQ.out)).trans NQ.out)
        have CD1 := hide (HK.out.do_ a po co ko cp cc ck ⟨s.pf, s.md, s.og, s.add, s.del, s.clr, []⟩ ao dl none ca cd 0 w11 (HK.out.on HT.out (bthen BW.out B11.out)) (At.lies_below LA.out (bthen BW.out B11.out)) HCA.out M1.out M2.out M3.out ⟨Cm.Co.slot_below LS.out.1 (bthen BW.out B11.out), Cm.Co.slot_below LS.out.2.1 (bthen BW.out B11.out), .inl rfl⟩ ⟨HCS.out.1, HCS.out.2.1, ⟨fun _ => rfl, fun _ h => by cases h⟩⟩ S1.out S2.out (Nat.zero_le 100))
        simp only [List.length_nil] at CD1
        go_wp2_with fail
        refine CD1.out.mono ?_
        rintro e w12 ⟨r1, q1, p1, c1, k1, np1, nc1, nk1, rfl, hd1, hm1, hc1, hb12⟩
        have HD1 := hide hd1
        have HM1 := hide hm1
        have HC1 := hide hc1
        have B12 := hide (bthen B11.out hb12)
        clear hd1 hm1 hc1 hb12 CD1
        clear d0 d1 d2 d3 d4 d5 d6 e0 e1 e2 e3 e4 e5 e6
        rcases do_err HD1.out with ⟨hq0, h01, h02⟩ | ⟨hq1, hz1⟩
        rotate_left
        · clear hz1
          have hq1' : (q1 != 0) = true := by simpa using hq1
          have B13 := hide (bthen B12.out (balloc (brefl w12) (.cells #[.int .i64 r1.pf, .int .i64 r1.md, .int .i64 r1.og, .slice p1 r1.path.length np1, .slice c1 r1.comms.length nc1, .int .i64 r1.fr, .slice k1 r1.cl.length nk1] 25)))
          clear hq1
          have CL1 := hide (CL.out (w12.alloc (.cells #[.int .i64 r1.pf, .int .i64 r1.md, .int .i64 r1.og, .slice p1 r1.path.length np1, .slice c1 r1.comms.length nc1, .int .i64 r1.fr, .slice k1 r1.cl.length nk1] 25)) (bthen BW.out B13.out))
          go_wp2_with fail
          refine CL1.out.mono ?_
          rintro e wz ⟨rfl, hbz⟩
          have BZ := hide (bthen BW.out (bthen B13.out hbz))
          clear hbz
          go_wp2_with fail
          go_ret
          exact ⟨rfl, BZ.out⟩
        subst hq0
        clear h01 h02
        have B13 := hide (bthen B12.out (balloc (brefl w12) (.cells #[.int .i64 r1.pf, .int .i64 r1.md, .int .i64 r1.og, .slice p1 r1.path.length np1, .slice c1 r1.comms.length nc1, .int .i64 r1.fr, .slice k1 r1.cl.length nk1] 25)))
        have N13 := hide (heap_new w12 #[.int .i64 r1.pf, .int .i64 r1.md, .int .i64 r1.og, .slice p1 r1.path.length np1, .slice c1 r1.comms.length nc1, .int .i64 r1.fr, .slice k1 r1.cl.length nk1] 25)
        have HMR := hide (do_may HD1.out)
        obtain ⟨mr1, mr2, mr3⟩ := may_few HMR.out
        have MR1 := hide mr1
        have MR2 := hide mr2
        have MR3 := hide mr3
        clear mr1 mr2 mr3
        have L13 := hide (At.lies_below HM1.out.1 (balloc (brefl w12) (.cells #[.int .i64 r1.pf, .int .i64 r1.md, .int .i64 r1.og, .slice p1 r1.path.length np1, .slice c1 r1.comms.length nc1, .int .i64 r1.fr, .slice k1 r1.cl.length nk1] 25)))
        have CD2 := hide (HK.out.do_ r1 p1 c1 k1 np1 nc1 nk1 ⟨s.pf, s.md, s.og, s.add, s.del, s.clr, []⟩ ao dl none ca cd 0 (w12.alloc (.cells #[.int .i64 r1.pf, .int .i64 r1.md, .int .i64 r1.og, .slice p1 r1.path.length np1, .slice c1 r1.comms.length nc1, .int .i64 r1.fr, .slice k1 r1.cl.length nk1] 25)) (HK.out.on HT.out (bthen BW.out B13.out)) L13.out HC1.out MR1.out MR2.out MR3.out ⟨Cm.Co.slot_below LS.out.1 (bthen BW.out B13.out), Cm.Co.slot_below LS.out.2.1 (bthen BW.out B13.out), .inl rfl⟩ ⟨HCS.out.1, HCS.out.2.1, ⟨fun _ => rfl, fun _ h => by cases h⟩⟩ S1.out S2.out (Nat.zero_le 100))
        simp only [List.length_nil] at CD2
        obtain ⟨e0, e1, e2, e3, e4, e5, e6⟩ := seven_cells ((B13.out.block q (heap_lt NQ.out)).trans NQ.out)
        obtain ⟨d0, d1, d2, d3, d4, d5, d6⟩ := seven_cells N13.out
        go_wp2_with fail
        generalize w12.alloc (.cells #[.int .i64 r1.pf, .int .i64 r1.md, .int .i64 r1.og, .slice p1 r1.path.length np1, .slice c1 r1.comms.length nc1, .int .i64 r1.fr, .slice k1 r1.cl.length nk1] 25) = w13 at *
        generalize w12.heap.size = g7 at *
        refine CD2.out.mono ?_
        rintro e w14 ⟨y, f, p2, c2, k2, np2, nc2, nk2, rfl, hd2, hm2, hc2, hb14⟩
        obtain ⟨rfl, rfl, t1, t2, t3⟩ := do_twice rfl HD1.out hd2
        have B14 := hide (bthen B13.out hb14)
        have HM2 := hide hm2
        have N14 := hide ((hb14.block g7 (heap_lt N13.out)).trans N13.out)
        have L14 := hide (At.lies_below L13.out hb14)
        clear hd2 hm2 hc2 hb14 CD2
        clear d0 d1 d2 d3 d4 d5 d6 e0 e1 e2 e3 e4 e5 e6
        have B15 := hide (bthen B14.out (balloc (brefl w14) (.cells #[.int .i64 y.pf, .int .i64 y.md, .int .i64 y.og, .slice p2 y.path.length np2, .slice c2 y.comms.length nc2, .int .i64 y.fr, .slice k2 y.cl.length nk2] 25)))
        have N15 := hide (heap_new w14 #[.int .i64 y.pf, .int .i64 y.md, .int .i64 y.og, .slice p2 y.path.length np2, .slice c2 y.comms.length nc2, .int .i64 y.fr, .slice k2 y.cl.length nk2] 25)
        have N15' := hide (((balloc (brefl w14) (.cells #[.int .i64 y.pf, .int .i64 y.md, .int .i64 y.og, .slice p2 y.path.length np2, .slice c2 y.comms.length nc2, .int .i64 y.fr, .slice k2 y.cl.length nk2] 25)).block g7 (heap_lt N14.out)).trans N14.out)
        have L15 := hide (At.lies_below L14.out (balloc (brefl w14) (.cells #[.int .i64 y.pf, .int .i64 y.md, .int .i64 y.og, .slice p2 y.path.length np2, .slice c2 y.comms.length nc2, .int .i64 y.fr, .slice k2 y.cl.length nk2] 25)))
        have L15' := hide (At.lies_below HM2.out.1 (balloc (brefl w14) (.cells #[.int .i64 y.pf, .int .i64 y.md, .int .i64 y.og, .slice p2 y.path.length np2, .slice c2 y.comms.length nc2, .int .i64 y.fr, .slice k2 y.cl.length nk2] 25)))
        have CS := hide (HK.out.same y y p1 c1 k1 np1 nc1 nk1 p2 c2 k2 np2 nc2 nk2 true (decide_eq_true ((At.cmp_zero y y).2 rfl)) (w14.alloc (.cells #[.int .i64 y.pf, .int .i64 y.md, .int .i64 y.og, .slice p2 y.path.length np2, .slice c2 y.comms.length nc2, .int .i64 y.fr, .slice k2 y.cl.length nk2] 25)) (HK.out.on HT.out (bthen BW.out B15.out)) L15.out L15'.out MR1.out MR2.out MR3.out MR1.out MR2.out MR3.out)
        obtain ⟨d0, d1, d2, d3, d4, d5, d6⟩ := seven_cells N15'.out
        obtain ⟨e0, e1, e2, e3, e4, e5, e6⟩ := seven_cells N15.out
        go_wp2_with fail
        generalize w14.alloc (.cells #[.int .i64 y.pf, .int .i64 y.md, .int .i64 y.og, .slice p2 y.path.length np2, .slice c2 y.comms.length nc2, .int .i64 y.fr, .slice k2 y.cl.length nk2] 25) = w15 at *
        generalize w14.heap.size = g9 at *
        refine CS.out.mono ?_
        rintro e w16 ⟨rfl, hb16⟩
        have B16 := hide (bthen B15.out hb16)
        have N16 := hide ((hb16.block g7 (heap_lt N15'.out)).trans N15'.out)
        clear hb16 CS
        clear d0 d1 d2 d3 d4 d5 d6 e0 e1 e2 e3 e4 e5 e6
        obtain ⟨d0, d1, d2, d3, d4, d5, d6⟩ := seven_cells N16.out
        obtain ⟨e0, e1, e2, e3, e4, e5, e6⟩ := seven_cells ((B16.out.block q (heap_lt NQ.out)).trans NQ.out)
        have CL1 := hide (CL.out w16 (bthen BW.out B16.out))
        have t1' : s.pf < 0 ∨ (¬ s.pf < 0 ∧ (y.pf == s.pf) = true) := by by_cases h : s.pf < 0; exact .inl h; exact .inr ⟨h, by rcases t1 with t1 | t1; exact absurd t1 h; simpa using t1⟩
        have t2' : s.md < 0 ∨ (¬ s.md < 0 ∧ (y.md == s.md) = true) := by by_cases h : s.md < 0; exact .inl h; exact .inr ⟨h, by rcases t2 with t2 | t2; exact absurd t2 h; simpa using t2⟩
        have t3' : s.og < 0 ∨ (¬ s.og < 0 ∧ (y.og == s.og) = true) := by by_cases h : s.og < 0; exact .inl h; exact .inr ⟨h, by rcases t3 with t3 | t3; exact absurd t3 h; simpa using t3⟩
        clear t1 t2 t3 HD1 HM1 HM2 HMR MR1 MR2 MR3 L13 L14 L15 L15' N13 N14 N15 N15' N16 B12 B13 B14 B15 HC1 HC HCN
        rcases t1' with t1 | ⟨t1, u1⟩ <;> rcases t2' with t2 | ⟨t2, u2⟩ <;> rcases t3' with t3 | ⟨t3, u3⟩
        all_goals
          go_wp2_with fail
          refine CL1.out.mono ?_
          rintro e wz ⟨rfl, hbz⟩
          have BZ := hide (bthen BW.out (bthen B16.out hbz))
          clear hbz
          go_wp2_with fail
          go_ret
          exact ⟨rfl, BZ.out⟩
      · clear hra LN N5 HM
        subst hrq
        have HMA := hide hma
        clear hma HD
        have CM := hide (HK.out.may a po co ko cp cc ck false HMA.out w9 (HK.out.on HT.out (bthen BW.out B9.out)) (At.lies_below LA.out (bthen BW.out B9.out)) M1.out M2.out M3.out HCA.out.2.2.2)
        obtain ⟨d0, d1, d2, d3, d4, d5, d6⟩ := seven_cells ((B9.out.block p (heap_lt NP.out)).trans NP.out)
        go_wp2_with fail
        refine CM.out.mono ?_
        rintro e w11 ⟨rfl, hb11⟩
        have B11 := hide (bthen B9.out hb11)
        clear hb11 CM
        clear d0 d1 d2 d3 d4 d5 d6
        obtain ⟨d0, d1, d2, d3, d4, d5, d6⟩ := seven_cells ((B11.out.block p (heap_lt NP.out)).trans NP.out)
        obtain ⟨e0, e1, e2, e3, e4, e5, e6⟩ := seven_cells ((B11.out.block q (heap_lt NQ.out)).trans NQ.out)
        have CD1 := hide (HK.out.do_ a po co ko cp cc ck ⟨s.pf, s.md, s.og, s.add, s.del, s.clr, []⟩ ao dl none ca cd 0 w11 (HK.out.on HT.out (bthen BW.out B11.out)) (At.lies_below LA.out (bthen BW.out B11.out)) HCA.out M1.out M2.out M3.out ⟨Cm.Co.slot_below LS.out.1 (bthen BW.out B11.out), Cm.Co.slot_below LS.out.2.1 (bthen BW.out B11.out), .inl rfl⟩ ⟨HCS.out.1, HCS.out.2.1, ⟨fun _ => rfl, fun _ h => by cases h⟩⟩ S1.out S2.out (Nat.zero_le 100))
        simp only [List.length_nil] at CD1
        go_wp2_with fail
        refine CD1.out.mono ?_
        rintro e w12 ⟨r1, q1, p1, c1, k1, np1, nc1, nk1, rfl, hd1, hm1, hc1, hb12⟩
        have HD1 := hide hd1
        have B12 := hide (bthen B11.out hb12)
        clear hd1 hm1 hc1 hb12 CD1
        clear d0 d1 d2 d3 d4 d5 d6 e0 e1 e2 e3 e4 e5 e6
        rcases do_err HD1.out with ⟨_, h0, _⟩ | ⟨hq1, hz1⟩
        · rw [HMA.out] at h0; cases h0
        clear hz1
        have hq1' : (q1 != 0) = true := by simpa using hq1
        have B13 := hide (bthen B12.out (balloc (brefl w12) (.cells #[.int .i64 r1.pf, .int .i64 r1.md, .int .i64 r1.og, .slice p1 r1.path.length np1, .slice c1 r1.comms.length nc1, .int .i64 r1.fr, .slice k1 r1.cl.length nk1] 25)))
        clear hq1
        have CL1 := hide (CL.out (w12.alloc (.cells #[.int .i64 r1.pf, .int .i64 r1.md, .int .i64 r1.og, .slice p1 r1.path.length np1, .slice c1 r1.comms.length nc1, .int .i64 r1.fr, .slice k1 r1.cl.length nk1] 25)) (bthen BW.out B13.out))
        go_wp2_with fail
        refine CL1.out.mono ?_
        rintro e wz ⟨rfl, hbz⟩
        have BZ := hide (bthen BW.out (bthen B13.out hbz))
        clear hbz
        go_wp2_with fail
        go_ret
        exact ⟨rfl, BZ.out⟩
    · refine AllReadyH.cons rfl (fun K hK => ?_) AllReadyH.nil
      have NZ := hide (heap_new w1 #[.int .i64 0, .int .i64 0, .int .i64 0, .slice none 0 0, .slice none 0 0, .int .i64 0, .slice none 0 0] 25)
      have B2 := hide (bthen B1.out (balloc (brefl w1) (.cells #[.int .i64 0, .int .i64 0, .int .i64 0, .slice none 0 0, .slice none 0 0, .int .i64 0, .slice none 0 0] 25)))
      have HG : Hid (W4.heap.size ≤ w1.heap.size) := B1.out.size
      go_simp
      refine hK.out _ _ (SH.out _ B2.out) (fun hHeld => ?_)
      clear hK K
      try simp only [Act.put, List.getElem_toArray, List.getElem_cons_zero, List.getElem_cons_succ, List.setIfInBounds_toArray, List.set_cons_zero, List.set_cons_succ]
      generalize w1.alloc (.cells #[.int .i64 0, .int .i64 0, .int .i64 0, .slice none 0 0, .slice none 0 0, .int .i64 0, .slice none 0 0] 25) = w2 at *
      generalize w1.heap.size = g5 at *
      refine wpAnyH_ready (rs := [2]) (by kernel_rfl) (by simp) ?_
      refine AllReadyH.cons rfl (fun K hK => ?_) AllReadyH.nil
      go_simp
      go_wp2_with (refine (CDo.out an dn qn can cdn cqn _ B2.out HCN.out).mono ?_; rintro e w3 ⟨r, rq, pn, cn, kn, np, nc, nk, rfl, hd, hm, hc, hb⟩; have HD := hide hd; have HM := hide hm; have HC := hide hc; have B3 := hide (bthen B2.out hb); have NZ3 := hide ((hb.block g5 (heap_lt NZ.out)).trans NZ.out); have HGL := hide (heap_lt NZ.out); clear hb hd hm hc)
      refine hK.out _ _ (SH.out _ B3.out) (fun hHeld => ?_)
      clear hK K
      try simp only [Act.put, List.getElem_toArray, List.getElem_cons_zero, List.getElem_cons_succ, List.setIfInBounds_toArray, List.set_cons_zero, List.set_cons_succ]
      refine wpAnyH_take (i := 3) (v := .tuple #[.agg #[.int .i64 r.pf, .int .i64 r.md, .int .i64 r.og, .slice pn r.path.length np, .slice cn r.comms.length nc, .int .i64 r.fr, .slice kn r.cl.length nk], .int .i64 rq]) rfl (by kernel_rfl) (by kernel_rfl) (by kernel_rfl) (fun _ _ _ h => h) (Or.inl ⟨by rfl, fun w hSw => by dsimp only at hSw; go_simp⟩) hHeld ?_
      simp only [Act.put, List.getElem_toArray, List.getElem_cons_zero, List.getElem_cons_succ, List.setIfInBounds_toArray, List.set_cons_zero, List.set_cons_succ]
      refine wpAnyH_take (i := 4) (v := .agg #[.int .i64 r.pf, .int .i64 r.md, .int .i64 r.og, .slice pn r.path.length np, .slice cn r.comms.length nc, .int .i64 r.fr, .slice kn r.cl.length nk]) rfl (by kernel_rfl) (by kernel_rfl) (by kernel_rfl) (fun _ _ _ h => h) (Or.inl ⟨by rfl, fun w hSw => by dsimp only at hSw; go_simp⟩) hHeld ?_
      simp only [Act.put, List.getElem_toArray, List.getElem_cons_zero, List.getElem_cons_succ, List.setIfInBounds_toArray, List.set_cons_zero, List.set_cons_succ]
      refine wpAnyH_take (i := 5) (v := .int .i64 rq) rfl (by kernel_rfl) (by kernel_rfl) (by kernel_rfl) (fun _ _ _ h => h) (Or.inl ⟨by rfl, fun w hSw => by dsimp only at hSw; go_simp⟩) hHeld ?_
      simp only [Act.put, List.getElem_toArray, List.getElem_cons_zero, List.getElem_cons_succ, List.setIfInBounds_toArray, List.set_cons_zero, List.set_cons_succ]
      clear NZ
      have NZ := NZ3
      clear NZ3
      have LN := hide (mine_keep (w' := put7 w3 g5 (.int .i64 r.pf) (.int .i64 r.md) (.int .i64 r.og) (.slice pn r.path.length np) (.slice cn r.comms.length nc) (.int .i64 r.fr) (.slice kn r.cl.length nk)) HM.out (fun b hb => put7_other _ _ _ _ _ _ _ _ _ b (by have := HGL.out; omega)))
      obtain ⟨z0, z1, z2, z3, z4, z5, z6⟩ := seven_cells NZ.out
      have f0 := frozen7 NZ.out 0
      have f1 := frozen7 NZ.out 1
      have f2 := frozen7 NZ.out 2
      have f3 := frozen7 NZ.out 3
      have f4 := frozen7 NZ.out 4
      have f5 := frozen7 NZ.out 5
      have f6 := frozen7 NZ.out 6
      have N5 := hide (put7_same NZ.out (.int .i64 r.pf) (.int .i64 r.md) (.int .i64 r.og) (.slice pn r.path.length np) (.slice cn r.comms.length nc) (.int .i64 r.fr) (.slice kn r.cl.length nk))
      have B9 := hide (put7_below B3.out HG.out (.int .i64 r.pf) (.int .i64 r.md) (.int .i64 r.og) (.slice pn r.path.length np) (.slice cn r.comms.length nc) (.int .i64 r.fr) (.slice kn r.cl.length nk))
      refine wpAnyH_ready (rs := [7]) (by kernel_rfl) (by simp) ?_
      refine AllReadyH.cons rfl (fun K hK => ?_) AllReadyH.nil
      go_simp
      change K _ (put7 w3 g5 (.int .i64 r.pf) (.int .i64 r.md) (.int .i64 r.og) (.slice pn r.path.length np) (.slice cn r.comms.length nc) (.int .i64 r.fr) (.slice kn r.cl.length nk))
      clear z0 z1 z2 z3 z4 z5 z6 f0 f1 f2 f3 f4 f5 f6 NZ
      generalize put7 w3 g5 (.int .i64 r.pf) (.int .i64 r.md) (.int .i64 r.og) (.slice pn r.path.length np) (.slice cn r.comms.length nc) (.int .i64 r.fr) (.slice kn r.cl.length nk) = w9 at *
      refine hK.out _ _ (SH.out _ B9.out) (fun hHeld => ?_)
      clear hK K
      try simp only [Act.put, List.getElem_toArray, List.getElem_cons_zero, List.getElem_cons_succ, List.setIfInBounds_toArray, List.set_cons_zero, List.set_cons_succ]
      refine wpAnyH_take (i := 8) (v := .int .i64 rq) rfl (by kernel_rfl) (by kernel_rfl) (by kernel_rfl) (fun _ _ _ h => h) (Or.inl ⟨by rfl, fun w hSw => by dsimp only at hSw; go_simp⟩) hHeld ?_
      simp only [Act.put, List.getElem_toArray, List.getElem_cons_zero, List.getElem_cons_succ, List.setIfInBounds_toArray, List.set_cons_zero, List.set_cons_succ]
      refine wpAnyH_done (by kernel_rfl) ?_ _
      clear hHeld SH CNo CDo
      rcases do_none HD.out with ⟨hma, hra, hrq⟩ | ⟨hma, hra, hrq⟩
      · have hra' := hra.symm
        clear hra
        subst hra'
        subst hrq
        have HMA := hide hma
        clear hma HD
        have CM := hide (HK.out.may a po co ko cp cc ck true HMA.out w9 (HK.out.on HT.out (bthen BW.out B9.out)) (At.lies_below LA.out (bthen BW.out B9.out)) M1.out M2.out M3.out HCA.out.2.2.2)
        obtain ⟨d0, d1, d2, d3, d4, d5, d6⟩ := seven_cells ((B9.out.block p (heap_lt NP.out)).trans NP.out)
        go_wp2_with fail
        refine CM.out.mono ?_
        rintro e w10 ⟨rfl, hb10⟩
        have B10 := hide (bthen B9.out hb10)
        have L10 := hide (At.lies_below LN.out hb10)
        have N10 := hide ((hb10.block g5 (heap_lt N5.out)).trans N5.out)
        clear hb10 CM
        clear d0 d1 d2 d3 d4 d5 d6
        have CS := hide (HK.out.same a a pn cn kn np nc nk po co ko cp cc ck true (decide_eq_true ((At.cmp_zero a a).2 rfl)) w10 (HK.out.on HT.out (bthen BW.out B10.out)) L10.out (At.lies_below LA.out (bthen BW.out B10.out)) M1.out M2.out M3.out M1.out M2.out M3.out)
        obtain ⟨d0, d1, d2, d3, d4, d5, d6⟩ := seven_cells ((B10.out.block p (heap_lt NP.out)).trans NP.out)
        obtain ⟨e0, e1, e2, e3, e4, e5, e6⟩ := seven_cells N10.out
        go_wp2_with fail
        refine CS.out.mono ?_
        rintro e w11 ⟨rfl, hb11⟩
        have B11 := hide (bthen B10.out hb11)
        clear hb11 CS N10 L10
        clear d0 d1 d2 d3 d4 d5 d6 e0 e1 e2 e3 e4 e5 e6
        obtain ⟨d0, d1, d2, d3, d4, d5, d6⟩ := seven_cells ((B11.out.block p (heap_lt NP.out)).trans NP.out)
        obtain ⟨e0, e1, e2, e3, e4, e5, e6⟩ := seven_cells ((B11.out.block q (heap_lt NQ.out)).trans NQ.out)
        have CD1 := hide (HK.out.do_ a po co ko cp cc ck ⟨s.pf, s.md, s.og, s.add, s.del, s.clr, []⟩ ao dl none ca cd 0 w11 (HK.out.on HT.out (bthen BW.out B11.out)) (At.lies_below LA.out (bthen BW.out B11.out)) HCA.out M1.out M2.out M3.out ⟨Cm.Co.slot_below LS.out.1 (bthen BW.out B11.out), Cm.Co.slot_below LS.out.2.1 (bthen BW.out B11.out), .inl rfl⟩ ⟨HCS.out.1, HCS.out.2.1, ⟨fun _ => rfl, fun _ h => by cases h⟩⟩ S1.out S2.out (Nat.zero_le 100))
        simp only [List.length_nil] at CD1
        go_wp2_with fail
        refine CD1.out.mono ?_
        rintro e w12 ⟨r1, q1, p1, c1, k1, np1, nc1, nk1, rfl, hd1, hm1, hc1, hb12⟩
        have HD1 := hide hd1
        have HM1 := hide hm1
        have HC1 := hide hc1
        have B12 := hide (bthen B11.out hb12)
        clear hd1 hm1 hc1 hb12 CD1
        clear d0 d1 d2 d3 d4 d5 d6 e0 e1 e2 e3 e4 e5 e6
        rcases do_err HD1.out with ⟨hq0, h01, h02⟩ | ⟨hq1, hz1⟩
        rotate_left
        · clear hz1
          have hq1' : (q1 != 0) = true := by simpa using hq1
          have B13 := hide (bthen B12.out (balloc (brefl w12) (.cells #[.int .i64 r1.pf, .int .i64 r1.md, .int .i64 r1.og, .slice p1 r1.path.length np1, .slice c1 r1.comms.length nc1, .int .i64 r1.fr, .slice k1 r1.cl.length nk1] 25)))
          clear hq1
          have CL1 := hide (CL.out (w12.alloc (.cells #[.int .i64 r1.pf, .int .i64 r1.md, .int .i64 r1.og, .slice p1 r1.path.length np1, .slice c1 r1.comms.length nc1, .int .i64 r1.fr, .slice k1 r1.cl.length nk1] 25)) (bthen BW.out B13.out))
          go_wp2_with fail
          refine CL1.out.mono ?_
          rintro e wz ⟨rfl, hbz⟩
          have BZ := hide (bthen BW.out (bthen B13.out hbz))
          clear hbz
          go_wp2_with fail
          go_ret
          exact ⟨rfl, BZ.out⟩
        subst hq0
        clear h01 h02
        have B13 := hide (bthen B12.out (balloc (brefl w12) (.cells #[.int .i64 r1.pf, .int .i64 r1.md, .int .i64 r1.og, .slice p1 r1.path.length np1, .slice c1 r1.comms.length nc1, .int .i64 r1.fr, .slice k1 r1.cl.length nk1] 25)))
        have N13 := hide (heap_new w12 #[.int .i64 r1.pf, .int .i64 r1.md, .int .i64 r1.og, .slice p1 r1.path.length np1, .slice c1 r1.comms.length nc1, .int .i64 r1.fr, .slice k1 r1.cl.length nk1] 25)
        have HMR := hide (do_may HD1.out)
        obtain ⟨mr1, mr2, mr3⟩ := may_few HMR.out
        have MR1 := hide mr1
        have MR2 := hide mr2
        have MR3 := hide mr3
        clear mr1 mr2 mr3
        have L13 := hide (At.lies_below HM1.out.1 (balloc (brefl w12) (.cells #[.int .i64 r1.pf, .int .i64 r1.md, .int .i64 r1.og, .slice p1 r1.path.length np1, .slice c1 r1.comms.length nc1, .int .i64 r1.fr, .slice k1 r1.cl.length nk1] 25)))
        have CD2 := hide (HK.out.do_ r1 p1 c1 k1 np1 nc1 nk1 ⟨s.pf, s.md, s.og, s.add, s.del, s.clr, []⟩ ao dl none ca cd 0 (w12.alloc (.cells #[.int .i64 r1.pf, .int .i64 r1.md, .int .i64 r1.og, .slice p1 r1.path.length np1, .slice c1 r1.comms.length nc1, .int .i64 r1.fr, .slice k1 r1.cl.length nk1] 25)) (HK.out.on HT.out (bthen BW.out B13.out)) L13.out HC1.out MR1.out MR2.out MR3.out ⟨Cm.Co.slot_below LS.out.1 (bthen BW.out B13.out), Cm.Co.slot_below LS.out.2.1 (bthen BW.out B13.out), .inl rfl⟩ ⟨HCS.out.1, HCS.out.2.1, ⟨fun _ => rfl, fun _ h => by cases h⟩⟩ S1.out S2.out (Nat.zero_le 100))
        simp only [List.length_nil] at CD2
        obtain ⟨e0, e1, e2, e3, e4, e5, e6⟩ := seven_cells ((B13.out.block q (heap_lt NQ.out)).trans NQ.out)
        obtain ⟨d0, d1, d2, d3, d4, d5, d6⟩ := seven_cells N13.out
        go_wp2_with fail
        generalize w12.alloc (.cells #[.int .i64 r1.pf, .int .i64 r1.md, .int .i64 r1.og, .slice p1 r1.path.length np1, .slice c1 r1.comms.length nc1, .int .i64 r1.fr, .slice k1 r1.cl.length nk1] 25) = w13 at *
        generalize w12.heap.size = g7 at *
        refine CD2.out.mono ?_
        rintro e w14 ⟨y, f, p2, c2, k2, np2, nc2, nk2, rfl, hd2, hm2, hc2, hb14⟩
        obtain ⟨rfl, rfl, t1, t2, t3⟩ := do_twice rfl HD1.out hd2
        have B14 := hide (bthen B13.out hb14)
        have HM2 := hide hm2
        have N14 := hide ((hb14.block g7 (heap_lt N13.out)).trans N13.out)
        have L14 := hide (At.lies_below L13.out hb14)
        clear hd2 hm2 hc2 hb14 CD2
        clear d0 d1 d2 d3 d4 d5 d6 e0 e1 e2 e3 e4 e5 e6
        have B15 := hide (bthen B14.out (balloc (brefl w14) (.cells #[.int .i64 y.pf, .int .i64 y.md, .int .i64 y.og, .slice p2 y.path.length np2, .slice c2 y.comms.length nc2, .int .i64 y.fr, .slice k2 y.cl.length nk2] 25)))
        have N15 := hide (heap_new w14 #[.int .i64 y.pf, .int .i64 y.md, .int .i64 y.og, .slice p2 y.path.length np2, .slice c2 y.comms.length nc2, .int .i64 y.fr, .slice k2 y.cl.length nk2] 25)
        have N15' := hide (((balloc (brefl w14) (.cells #[.int .i64 y.pf, .int .i64 y.md, .int .i64 y.og, .slice p2 y.path.length np2, .slice c2 y.comms.length nc2, .int .i64 y.fr, .slice k2 y.cl.length nk2] 25)).block g7 (heap_lt N14.out)).trans N14.out)
        have L15 := hide (At.lies_below L14.out (balloc (brefl w14) (.cells #[.int .i64 y.pf, .int .i64 y.md, .int .i64 y.og, .slice p2 y.path.length np2, .slice c2 y.comms.length nc2, .int .i64 y.fr, .slice k2 y.cl.length nk2] 25)))
        have L15' := hide (At.lies_below HM2.out.1 (balloc (brefl w14) (.cells #[.int .i64 y.pf, .int .i64 y.md, .int .i64 y.og, .slice p2 y.path.length np2, .slice c2 y.comms.length nc2, .int .i64 y.fr, .slice k2 y.cl.length nk2] 25)))
        have CS := hide (HK.out.same y y p1 c1 k1 np1 nc1 nk1 p2 c2 k2 np2 nc2 nk2 true (decide_eq_true ((At.cmp_zero y y).2 rfl)) (w14.alloc (.cells #[.int .i64 y.pf, .int .i64 y.md, .int .i64 y.og, .slice p2 y.path.length np2, .slice c2 y.comms.length nc2, .int .i64 y.fr, .slice k2 y.cl.length nk2] 25)) (HK.out.on HT.out (bthen BW.out B15.out)) L15.out L15'.out MR1.out MR2.out MR3.out MR1.out MR2.out MR3.out)
        obtain ⟨d0, d1, d2, d3, d4, d5, d6⟩ := seven_cells N15'.out
        obtain ⟨e0, e1, e2, e3, e4, e5, e6⟩ := seven_cells N15.out
        go_wp2_with fail
        generalize w14.alloc (.cells #[.int .i64 y.pf, .int .i64 y.md, .int .i64 y.og, .slice p2 y.path.length np2, .slice c2 y.comms.length nc2, .int .i64 y.fr, .slice k2 y.cl.length nk2] 25) = w15 at *
        generalize w14.heap.size = g9 at *
        refine CS.out.mono ?_
        rintro e w16 ⟨rfl, hb16⟩
        have B16 := hide (bthen B15.out hb16)
        have N16 := hide ((hb16.block g7 (heap_lt N15'.out)).trans N15'.out)
        clear hb16 CS
        clear d0 d1 d2 d3 d4 d5 d6 e0 e1 e2 e3 e4 e5 e6
        obtain ⟨d0, d1, d2, d3, d4, d5, d6⟩ := seven_cells N16.out
        obtain ⟨e0, e1, e2, e3, e4, e5, e6⟩ := seven_cells ((B16.out.block q (heap_lt NQ.out)).trans NQ.out)
        have CL1 := hide (CL.out w16 (bthen BW.out B16.out))
        have t1' : s.pf < 0 ∨ (¬ s.pf < 0 ∧ (y.pf == s.pf) = true) := by by_cases h : s.pf < 0; exact .inl h; exact .inr ⟨h, by rcases t1 with t1 | t1; exact absurd t1 h; simpa using t1⟩
        have t2' : s.md < 0 ∨ (¬ s.md < 0 ∧ (y.md == s.md) = true) := by by_cases h : s.md < 0; exact .inl h; exact .inr ⟨h, by rcases t2 with t2 | t2; exact absurd t2 h; simpa using t2⟩
        have t3' : s.og < 0 ∨ (¬ s.og < 0 ∧ (y.og == s.og) = true) := by by_cases h : s.og < 0; exact .inl h; exact .inr ⟨h, by rcases t3 with t3 | t3; exact absurd t3 h; simpa using t3⟩
        clear t1 t2 t3 HD1 HM1 HM2 HMR MR1 MR2 MR3 L13 L14 L15 L15' N13 N14 N15 N15' N16 B12 B13 B14 B15 HC1 HC HCN
        rcases t1' with t1 | ⟨t1, u1⟩ <;> rcases t2' with t2 | ⟨t2, u2⟩ <;> rcases t3' with t3 | ⟨t3, u3⟩
        all_goals
          go_wp2_with fail
          refine CL1.out.mono ?_
          rintro e wz ⟨rfl, hbz⟩
          have BZ := hide (bthen BW.out (bthen B16.out hbz))
          clear hbz
          go_wp2_with fail
          go_ret
          exact ⟨rfl, BZ.out⟩
      · clear hra LN N5 HM
        subst hrq
        have HMA := hide hma
        clear hma HD
        have CM := hide (HK.out.may a po co ko cp cc ck false HMA.out w9 (HK.out.on HT.out (bthen BW.out B9.out)) (At.lies_below LA.out (bthen BW.out B9.out)) M1.out M2.out M3.out HCA.out.2.2.2)
        obtain ⟨d0, d1, d2, d3, d4, d5, d6⟩ := seven_cells ((B9.out.block p (heap_lt NP.out)).trans NP.out)
        go_wp2_with fail
        refine CM.out.mono ?_
        rintro e w11 ⟨rfl, hb11⟩
        have B11 := hide (bthen B9.out hb11)
        clear hb11 CM
        clear d0 d1 d2 d3 d4 d5 d6
        obtain ⟨d0, d1, d2, d3, d4, d5, d6⟩ := seven_cells ((B11.out.block p (heap_lt NP.out)).trans NP.out)
        obtain ⟨e0, e1, e2, e3, e4, e5, e6⟩ := seven_cells ((B11.out.block q (heap_lt NQ.out)).trans NQ.out)
        have CD1 := hide (HK.out.do_ a po co ko cp cc ck ⟨s.pf, s.md, s.og, s.add, s.del, s.clr, []⟩ ao dl none ca cd 0 w11 (HK.out.on HT.out (bthen BW.out B11.out)) (At.lies_below LA.out (bthen BW.out B11.out)) HCA.out M1.out M2.out M3.out ⟨Cm.Co.slot_below LS.out.1 (bthen BW.out B11.out), Cm.Co.slot_below LS.out.2.1 (bthen BW.out B11.out), .inl rfl⟩ ⟨HCS.out.1, HCS.out.2.1, ⟨fun _ => rfl, fun _ h => by cases h⟩⟩ S1.out S2.out (Nat.zero_le 100))
        simp only [List.length_nil] at CD1
        go_wp2_with fail
        refine CD1.out.mono ?_
        rintro e w12 ⟨r1, q1, p1, c1, k1, np1, nc1, nk1, rfl, hd1, hm1, hc1, hb12⟩
        have HD1 := hide hd1
        have B12 := hide (bthen B11.out hb12)
        clear hd1 hm1 hc1 hb12 CD1
        clear d0 d1 d2 d3 d4 d5 d6 e0 e1 e2 e3 e4 e5 e6
        rcases do_err HD1.out with ⟨_, h0, _⟩ | ⟨hq1, hz1⟩
        · rw [HMA.out] at h0; cases h0
        clear hz1
        have hq1' : (q1 != 0) = true := by simpa using hq1
        have B13 := hide (bthen B12.out (balloc (brefl w12) (.cells #[.int .i64 r1.pf, .int .i64 r1.md, .int .i64 r1.og, .slice p1 r1.path.length np1, .slice c1 r1.comms.length nc1, .int .i64 r1.fr, .slice k1 r1.cl.length nk1] 25)))
        clear hq1
        have CL1 := hide (CL.out (w12.alloc (.cells #[.int .i64 r1.pf, .int .i64 r1.md, .int .i64 r1.og, .slice p1 r1.path.length np1, .slice c1 r1.comms.length nc1, .int .i64 r1.fr, .slice k1 r1.cl.length nk1] 25)) (bthen BW.out B13.out))
        go_wp2_with fail
        refine CL1.out.mono ?_
        rintro e wz ⟨rfl, hbz⟩
        have BZ := hide (bthen BW.out (bthen B13.out hbz))
        clear hbz
        go_wp2_with fail
        go_ret
        exact ⟨rfl, BZ.out⟩
  · refine AllReadyH.cons rfl (fun K hK => ?_) AllReadyH.nil
    have NZ : Hid ((W4.alloc (.cells #[.int .i64 0, .int .i64 0, .int .i64 0, .slice none 0 0, .slice none 0 0, .int .i64 0, .slice none 0 0] 25)).drew.heap[W4.heap.size]? = some (.cells #[.int .i64 0, .int .i64 0, .int .i64 0, .slice none 0 0, .slice none 0 0, .int .i64 0, .slice none 0 0] 25 (0, 0))) := heap_new W4 #[.int .i64 0, .int .i64 0, .int .i64 0, .slice none 0 0, .slice none 0 0, .int .i64 0, .slice none 0 0] 25
    have B1 : Hid (Below W4.heap.size W4 (W4.alloc (.cells #[.int .i64 0, .int .i64 0, .int .i64 0, .slice none 0 0, .slice none 0 0, .int .i64 0, .slice none 0 0] 25)).drew) := (balloc (brefl W4) (.cells #[.int .i64 0, .int .i64 0, .int .i64 0, .slice none 0 0, .slice none 0 0, .int .i64 0, .slice none 0 0] 25)).drew
    obtain ⟨g5, hg5⟩ : ∃ x, W4.heap.size = x := ⟨_, rfl⟩
    have HG : Hid (W4.heap.size ≤ g5) := Nat.le_of_eq hg5
    rw [hg5] at NZ
    go_simp
    try rw [hg5]
    clear hg5
    refine hK.out _ _ (SH.out _ B1.out) (fun hHeld => ?_)
    clear hK K
    try simp only [Act.put, List.getElem_toArray, List.getElem_cons_zero, List.getElem_cons_succ, List.setIfInBounds_toArray, List.set_cons_zero, List.set_cons_succ]
    generalize (W4.alloc (.cells #[.int .i64 0, .int .i64 0, .int .i64 0, .slice none 0 0, .slice none 0 0, .int .i64 0, .slice none 0 0] 25)).drew = w1 at *
    refine wpAnyH_ready (rs := [1]) (by kernel_rfl) (by simp) ?_
    refine AllReadyH.cons rfl (fun K hK => ?_) AllReadyH.nil
    go_simp
    go_wp2_with (refine (CNo.out _ B1.out).mono ?_; rintro e w2 ⟨an, dn, qn, can, cdn, cqn, rfl, hcn, hb⟩; have HCN := hide hcn; have B2 := hide (bthen B1.out hb); have NZ2 := hide ((hb.block g5 (heap_lt NZ.out)).trans NZ.out); clear hb hcn)
    refine hK.out _ _ (SH.out _ B2.out) (fun hHeld => ?_)
    clear hK K
    try simp only [Act.put, List.getElem_toArray, List.getElem_cons_zero, List.getElem_cons_succ, List.setIfInBounds_toArray, List.set_cons_zero, List.set_cons_succ]
    refine wpAnyH_ready (rs := [2]) (by kernel_rfl) (by simp) ?_
    refine AllReadyH.cons rfl (fun K hK => ?_) AllReadyH.nil
    go_simp
    go_wp2_with (refine (CDo.out an dn qn can cdn cqn _ B2.out HCN.out).mono ?_; rintro e w3 ⟨r, rq, pn, cn, kn, np, nc, nk, rfl, hd, hm, hc, hb⟩; have HD := hide hd; have HM := hide hm; have HC := hide hc; have B3 := hide (bthen B2.out hb); have NZ3 := hide ((hb.block g5 (heap_lt NZ2.out)).trans NZ2.out); have HGL := hide (heap_lt NZ2.out); clear hb hd hm hc)
    refine hK.out _ _ (SH.out _ B3.out) (fun hHeld => ?_)
    clear hK K
    try simp only [Act.put, List.getElem_toArray, List.getElem_cons_zero, List.getElem_cons_succ, List.setIfInBounds_toArray, List.set_cons_zero, List.set_cons_succ]
    refine wpAnyH_take (i := 3) (v := .tuple #[.agg #[.int .i64 r.pf, .int .i64 r.md, .int .i64 r.og, .slice pn r.path.length np, .slice cn r.comms.length nc, .int .i64 r.fr, .slice kn r.cl.length nk], .int .i64 rq]) rfl (by kernel_rfl) (by kernel_rfl) (by kernel_rfl) (fun _ _ _ h => h) (Or.inl ⟨by rfl, fun w hSw => by dsimp only at hSw; go_simp⟩) hHeld ?_
    simp only [Act.put, List.getElem_toArray, List.getElem_cons_zero, List.getElem_cons_succ, List.setIfInBounds_toArray, List.set_cons_zero, List.set_cons_succ]
    refine wpAnyH_take (i := 4) (v := .agg #[.int .i64 r.pf, .int .i64 r.md, .int .i64 r.og, .slice pn r.path.length np, .slice cn r.comms.length nc, .int .i64 r.fr, .slice kn r.cl.length nk]) rfl (by kernel_rfl) (by kernel_rfl) (by kernel_rfl) (fun _ _ _ h => h) (Or.inl ⟨by rfl, fun w hSw => by dsimp only at hSw; go_simp⟩) hHeld ?_
    simp only [Act.put, List.getElem_toArray, List.getElem_cons_zero, List.getElem_cons_succ, List.setIfInBounds_toArray, List.set_cons_zero, List.set_cons_succ]
    refine wpAnyH_take (i := 5) (v := .int .i64 rq) rfl (by kernel_rfl) (by kernel_rfl) (by kernel_rfl) (fun _ _ _ h => h) (Or.inl ⟨by rfl, fun w hSw => by dsimp only at hSw; go_simp⟩) hHeld ?_
    simp only [Act.put, List.getElem_toArray, List.getElem_cons_zero, List.getElem_cons_succ, List.setIfInBounds_toArray, List.set_cons_zero, List.set_cons_succ]
    clear NZ NZ2
    have NZ := NZ3
    clear NZ3
    have LN := hide (mine_keep (w' := put7 w3 g5 (.int .i64 r.pf) (.int .i64 r.md) (.int .i64 r.og) (.slice pn r.path.length np) (.slice cn r.comms.length nc) (.int .i64 r.fr) (.slice kn r.cl.length nk)) HM.out (fun b hb => put7_other _ _ _ _ _ _ _ _ _ b (by have := HGL.out; omega)))
    obtain ⟨z0, z1, z2, z3, z4, z5, z6⟩ := seven_cells NZ.out
    have f0 := frozen7 NZ.out 0
    have f1 := frozen7 NZ.out 1
    have f2 := frozen7 NZ.out 2
    have f3 := frozen7 NZ.out 3
    have f4 := frozen7 NZ.out 4
    have f5 := frozen7 NZ.out 5
    have f6 := frozen7 NZ.out 6
    have N5 := hide (put7_same NZ.out (.int .i64 r.pf) (.int .i64 r.md) (.int .i64 r.og) (.slice pn r.path.length np) (.slice cn r.comms.length nc) (.int .i64 r.fr) (.slice kn r.cl.length nk))
    have B9 := hide (put7_below B3.out HG.out (.int .i64 r.pf) (.int .i64 r.md) (.int .i64 r.og) (.slice pn r.path.length np) (.slice cn r.comms.length nc) (.int .i64 r.fr) (.slice kn r.cl.length nk))
    refine wpAnyH_ready (rs := [7]) (by kernel_rfl) (by simp) ?_
    refine AllReadyH.cons rfl (fun K hK => ?_) AllReadyH.nil
    go_simp
    change K _ (put7 w3 g5 (.int .i64 r.pf) (.int .i64 r.md) (.int .i64 r.og) (.slice pn r.path.length np) (.slice cn r.comms.length nc) (.int .i64 r.fr) (.slice kn r.cl.length nk))
    clear z0 z1 z2 z3 z4 z5 z6 f0 f1 f2 f3 f4 f5 f6 NZ
    generalize put7 w3 g5 (.int .i64 r.pf) (.int .i64 r.md) (.int .i64 r.og) (.slice pn r.path.length np) (.slice cn r.comms.length nc) (.int .i64 r.fr) (.slice kn r.cl.length nk) = w9 at *
    refine hK.out _ _ (SH.out _ B9.out) (fun hHeld => ?_)
    clear hK K
    try simp only [Act.put, List.getElem_toArray, List.getElem_cons_zero, List.getElem_cons_succ, List.setIfInBounds_toArray, List.set_cons_zero, List.set_cons_succ]
    refine wpAnyH_take (i := 8) (v := .int .i64 rq) rfl (by kernel_rfl) (by kernel_rfl) (by kernel_rfl) (fun _ _ _ h => h) (Or.inl ⟨by rfl, fun w hSw => by dsimp only at hSw; go_simp⟩) hHeld ?_
    simp only [Act.put, List.getElem_toArray, List.getElem_cons_zero, List.getElem_cons_succ, List.setIfInBounds_toArray, List.set_cons_zero, List.set_cons_succ]
    refine wpAnyH_done (by kernel_rfl) ?_ _
    clear hHeld SH CNo CDo
    rcases do_none HD.out with ⟨hma, hra, hrq⟩ | ⟨hma, hra, hrq⟩
    · have hra' := hra.symm
      clear hra
      subst hra'
      subst hrq
      have HMA := hide hma
      clear hma HD
      have CM := hide (HK.out.may a po co ko cp cc ck true HMA.out w9 (HK.out.on HT.out (bthen BW.out B9.out)) (At.lies_below LA.out (bthen BW.out B9.out)) M1.out M2.out M3.out HCA.out.2.2.2)
      obtain ⟨d0, d1, d2, d3, d4, d5, d6⟩ := seven_cells ((B9.out.block p (heap_lt NP.out)).trans NP.out)
      go_wp2_with fail
      refine CM.out.mono ?_
      rintro e w10 ⟨rfl, hb10⟩
      have B10 := hide (bthen B9.out hb10)
      have L10 := hide (At.lies_below LN.out hb10)
      have N10 := hide ((hb10.block g5 (heap_lt N5.out)).trans N5.out)
      clear hb10 CM
      clear d0 d1 d2 d3 d4 d5 d6
      have CS := hide (HK.out.same a a pn cn kn np nc nk po co ko cp cc ck true (decide_eq_true ((At.cmp_zero a a).2 rfl)) w10 (HK.out.on HT.out (bthen BW.out B10.out)) L10.out (At.lies_below LA.out (bthen BW.out B10.out)) M1.out M2.out M3.out M1.out M2.out M3.out)
      obtain ⟨d0, d1, d2, d3, d4, d5, d6⟩ := seven_cells ((B10.out.block p (heap_lt NP.out)).trans NP.out)
      obtain ⟨e0, e1, e2, e3, e4, e5, e6⟩ := seven_cells N10.out
      go_wp2_with fail
      refine CS.out.mono ?_
      rintro e w11 ⟨rfl, hb11⟩
      have B11 := hide (bthen B10.out hb11)
      clear hb11 CS N10 L10
      clear d0 d1 d2 d3 d4 d5 d6 e0 e1 e2 e3 e4 e5 e6
      obtain ⟨d0, d1, d2, d3, d4, d5, d6⟩ := seven_cells ((B11.out.block p (heap_lt NP.out)).trans NP.out)
      obtain ⟨e0, e1, e2, e3, e4, e5, e6⟩ := seven_cells ((B11.out.block q (heap_lt NQ.out)).trans NQ.out)
      have CD1 := hide (HK.out.do_ a po co ko cp cc ck ⟨s.pf, s.md, s.og, s.add, s.del, s.clr, []⟩ ao dl none ca cd 0 w11 (HK.out.on HT.out (bthen BW.out B11.out)) (At.lies_below LA.out (bthen BW.out B11.out)) HCA.out M1.out M2.out M3.out ⟨Cm.Co.slot_below LS.out.1 (bthen BW.out B11.out), Cm.Co.slot_below LS.out.2.1 (bthen BW.out B11.out), .inl rfl⟩ ⟨HCS.out.1, HCS.out.2.1, ⟨fun _ => rfl, fun _ h => by cases h⟩⟩ S1.out S2.out (Nat.zero_le 100))
      simp only [List.length_nil] at CD1
      go_wp2_with fail
      refine CD1.out.mono ?_
      rintro e w12 ⟨r1, q1, p1, c1, k1, np1, nc1, nk1, rfl, hd1, hm1, hc1, hb12⟩
      have HD1 := hide hd1
      have HM1 := hide hm1
      have HC1 := hide hc1
      have B12 := hide (bthen B11.out hb12)
      clear hd1 hm1 hc1 hb12 CD1
      clear d0 d1 d2 d3 d4 d5 d6 e0 e1 e2 e3 e4 e5 e6
      rcases do_err HD1.out with ⟨hq0, h01, h02⟩ | ⟨hq1, hz1⟩
      rotate_left
      · clear hz1
        have hq1' : (q1 != 0) = true := by simpa using hq1
        have B13 := hide (bthen B12.out (balloc (brefl w12) (.cells #[.int .i64 r1.pf, .int .i64 r1.md, .int .i64 r1.og, .slice p1 r1.path.length np1, .slice c1 r1.comms.length nc1, .int .i64 r1.fr, .slice k1 r1.cl.length nk1] 25)))
        clear hq1
        have CL1 := hide (CL.out (w12.alloc (.cells #[.int .i64 r1.pf, .int .i64 r1.md, .int .i64 r1.og, .slice p1 r1.path.length np1, .slice c1 r1.comms.length nc1, .int .i64 r1.fr, .slice k1 r1.cl.length nk1] 25)) (bthen BW.out B13.out))
        go_wp2_with fail
        refine CL1.out.mono ?_
        rintro e wz ⟨rfl, hbz⟩
        have BZ := hide (bthen BW.out (bthen B13.out hbz))
        clear hbz
        go_wp2_with fail
        go_ret
        exact ⟨rfl, BZ.out⟩
      subst hq0
      clear h01 h02
      have B13 := hide (bthen B12.out (balloc (brefl w12) (.cells #[.int .i64 r1.pf, .int .i64 r1.md, .int .i64 r1.og, .slice p1 r1.path.length np1, .slice c1 r1.comms.length nc1, .int .i64 r1.fr, .slice k1 r1.cl.length nk1] 25)))
      have N13 := hide (heap_new w12 #[.int .i64 r1.pf, .int .i64 r1.md, .int .i64 r1.og, .slice p1 r1.path.length np1, .slice c1 r1.comms.length nc1, .int .i64 r1.fr, .slice k1 r1.cl.length nk1] 25)
      have HMR := hide (do_may HD1.out)
      obtain ⟨mr1, mr2, mr3⟩ := may_few HMR.out
      have MR1 := hide mr1
      have MR2 := hide mr2
      have MR3 := hide mr3
      clear mr1 mr2 mr3
      have L13 := hide (At.lies_below HM1.out.1 (balloc (brefl w12) (.cells #[.int .i64 r1.pf, .int .i64 r1.md, .int .i64 r1.og, .slice p1 r1.path.length np1, .slice c1 r1.comms.length nc1, .int .i64 r1.fr, .slice k1 r1.cl.length nk1] 25)))
      have CD2 := hide (HK.out.do_ r1 p1 c1 k1 np1 nc1 nk1 ⟨s.pf, s.md, s.og, s.add, s.del, s.clr, []⟩ ao dl none ca cd 0 (w12.alloc (.cells #[.int .i64 r1.pf, .int .i64 r1.md, .int .i64 r1.og, .slice p1 r1.path.length np1, .slice c1 r1.comms.length nc1, .int .i64 r1.fr, .slice k1 r1.cl.length nk1] 25)) (HK.out.on HT.out (bthen BW.out B13.out)) L13.out HC1.out MR1.out MR2.out MR3.out ⟨Cm.Co.slot_below LS.out.1 (bthen BW.out B13.out), Cm.Co.slot_below LS.out.2.1 (bthen BW.out B13.out), .inl rfl⟩ ⟨HCS.out.1, HCS.out.2.1, ⟨fun _ => rfl, fun _ h => by cases h⟩⟩ S1.out S2.out (Nat.zero_le 100))
      simp only [List.length_nil] at CD2
      obtain ⟨e0, e1, e2, e3, e4, e5, e6⟩ := seven_cells ((B13.out.block q (heap_lt NQ.out)).trans NQ.out)
      obtain ⟨d0, d1, d2, d3, d4, d5, d6⟩ := seven_cells N13.out
      go_wp2_with fail
      generalize w12.alloc (.cells #[.int .i64 r1.pf, .int .i64 r1.md, .int .i64 r1.og, .slice p1 r1.path.length np1, .slice c1 r1.comms.length nc1, .int .i64 r1.fr, .slice k1 r1.cl.length nk1] 25) = w13 at *
      generalize w12.heap.size = g7 at *
      refine CD2.out.mono ?_
      rintro e w14 ⟨y, f, p2, c2, k2, np2, nc2, nk2, rfl, hd2, hm2, hc2, hb14⟩
      obtain ⟨rfl, rfl, t1, t2, t3⟩ := do_twice rfl HD1.out hd2
      have B14 := hide (bthen B13.out hb14)
      have HM2 := hide hm2
      have N14 := hide ((hb14.block g7 (heap_lt N13.out)).trans N13.out)
      have L14 := hide (At.lies_below L13.out hb14)
      clear hd2 hm2 hc2 hb14 CD2
      clear d0 d1 d2 d3 d4 d5 d6 e0 e1 e2 e3 e4 e5 e6
      have B15 := hide (bthen B14.out (balloc (brefl w14) (.cells #[.int .i64 y.pf, .int .i64 y.md, .int .i64 y.og, .slice p2 y.path.length np2, .slice c2 y.comms.length nc2, .int .i64 y.fr, .slice k2 y.cl.length nk2] 25)))
      have N15 := hide (heap_new w14 #[.int .i64 y.pf, .int .i64 y.md, .int .i64 y.og, .slice p2 y.path.length np2, .slice c2 y.comms.length nc2, .int .i64 y.fr, .slice k2 y.cl.length nk2] 25)
      have N15' := hide (((balloc (brefl w14) (.cells #[.int .i64 y.pf, .int .i64 y.md, .int .i64 y.og, .slice p2 y.path.length np2, .slice c2 y.comms.length nc2, .int .i64 y.fr, .slice k2 y.cl.length nk2] 25)).block g7 (heap_lt N14.out)).trans N14.out)
      have L15 := hide (At.lies_below L14.out (balloc (brefl w14) (.cells #[.int .i64 y.pf, .int .i64 y.md, .int .i64 y.og, .slice p2 y.path.length np2, .slice c2 y.comms.length nc2, .int .i64 y.fr, .slice k2 y.cl.length nk2] 25)))
      have L15' := hide (At.lies_below HM2.out.1 (balloc (brefl w14) (.cells #[.int .i64 y.pf, .int .i64 y.md, .int .i64 y.og, .slice p2 y.path.length np2, .slice c2 y.comms.length nc2, .int .i64 y.fr, .slice k2 y.cl.length nk2] 25)))
      have CS := hide (HK.out.same y y p1 c1 k1 np1 nc1 nk1 p2 c2 k2 np2 nc2 nk2 true (decide_eq_true ((At.cmp_zero y y).2 rfl)) (w14.alloc (.cells #[.int .i64 y.pf, .int .i64 y.md, .int .i64 y.og, .slice p2 y.path.length np2, .slice c2 y.comms.length nc2, .int .i64 y.fr, .slice k2 y.cl.length nk2] 25)) (HK.out.on HT.out (bthen BW.out B15.out)) L15.out L15'.out MR1.out MR2.out MR3.out MR1.out MR2.out MR3.out)
      obtain ⟨d0, d1, d2, d3, d4, d5, d6⟩ := seven_cells N15'.out
      obtain ⟨e0, e1, e2, e3, e4, e5, e6⟩ := seven_cells N15.out
      go_wp2_with fail
      generalize w14.alloc (.cells #[.int .i64 y.pf, .int .i64 y.md, .int .i64 y.og, .slice p2 y.path.length np2, .slice c2 y.comms.length nc2, .int .i64 y.fr, .slice k2 y.cl.length nk2] 25) = w15 at *
      generalize w14.heap.size = g9 at *
      refine CS.out.mono ?_
      rintro e w16 ⟨rfl, hb16⟩
      have B16 := hide (bthen B15.out hb16)
      have N16 := hide ((hb16.block g7 (heap_lt N15'.out)).trans N15'.out)
      clear hb16 CS
      clear d0 d1 d2 d3 d4 d5 d6 e0 e1 e2 e3 e4 e5 e6
      obtain ⟨d0, d1, d2, d3, d4, d5, d6⟩ := seven_cells N16.out
      obtain ⟨e0, e1, e2, e3, e4, e5, e6⟩ := seven_cells ((B16.out.block q (heap_lt NQ.out)).trans NQ.out)
      have CL1 := hide (CL.out w16 (bthen BW.out B16.out))
      have t1' : s.pf < 0 ∨ (¬ s.pf < 0 ∧ (y.pf == s.pf) = true) := by by_cases h : s.pf < 0; exact .inl h; exact .inr ⟨h, by rcases t1 with t1 | t1; exact absurd t1 h; simpa using t1⟩
      have t2' : s.md < 0 ∨ (¬ s.md < 0 ∧ (y.md == s.md) = true) := by by_cases h : s.md < 0; exact .inl h; exact .inr ⟨h, by rcases t2 with t2 | t2; exact absurd t2 h; simpa using t2⟩
      have t3' : s.og < 0 ∨ (¬ s.og < 0 ∧ (y.og == s.og) = true) := by by_cases h : s.og < 0; exact .inl h; exact .inr ⟨h, by rcases t3 with t3 | t3; exact absurd t3 h; simpa using t3⟩
      clear t1 t2 t3 HD1 HM1 HM2 HMR MR1 MR2 MR3 L13 L14 L15 L15' N13 N14 N15 N15' N16 B12 B13 B14 B15 HC1 HC HCN
      rcases t1' with t1 | ⟨t1, u1⟩ <;> rcases t2' with t2 | ⟨t2, u2⟩ <;> rcases t3' with t3 | ⟨t3, u3⟩
      all_goals
        go_wp2_with fail
        refine CL1.out.mono ?_
        rintro e wz ⟨rfl, hbz⟩
        have BZ := hide (bthen BW.out (bthen B16.out hbz))
        clear hbz
        go_wp2_with fail
        go_ret
        exact ⟨rfl, BZ.out⟩
    · clear hra LN N5 HM
      subst hrq
      have HMA := hide hma
      clear hma HD
      have CM := hide (HK.out.may a po co ko cp cc ck false HMA.out w9 (HK.out.on HT.out (bthen BW.out B9.out)) (At.lies_below LA.out (bthen BW.out B9.out)) M1.out M2.out M3.out HCA.out.2.2.2)
      obtain ⟨d0, d1, d2, d3, d4, d5, d6⟩ := seven_cells ((B9.out.block p (heap_lt NP.out)).trans NP.out)
      go_wp2_with fail
      refine CM.out.mono ?_
      rintro e w11 ⟨rfl, hb11⟩
      have B11 := hide (bthen B9.out hb11)
      clear hb11 CM
      clear d0 d1 d2 d3 d4 d5 d6
      obtain ⟨d0, d1, d2, d3, d4, d5, d6⟩ := seven_cells ((B11.out.block p (heap_lt NP.out)).trans NP.out)
      obtain ⟨e0, e1, e2, e3, e4, e5, e6⟩ := seven_cells ((B11.out.block q (heap_lt NQ.out)).trans NQ.out)
      have CD1 := hide (HK.out.do_ a po co ko cp cc ck ⟨s.pf, s.md, s.og, s.add, s.del, s.clr, []⟩ ao dl none ca cd 0 w11 (HK.out.on HT.out (bthen BW.out B11.out)) (At.lies_below LA.out (bthen BW.out B11.out)) HCA.out M1.out M2.out M3.out ⟨Cm.Co.slot_below LS.out.1 (bthen BW.out B11.out), Cm.Co.slot_below LS.out.2.1 (bthen BW.out B11.out), .inl rfl⟩ ⟨HCS.out.1, HCS.out.2.1, ⟨fun _ => rfl, fun _ h => by cases h⟩⟩ S1.out S2.out (Nat.zero_le 100))
      simp only [List.length_nil] at CD1
      go_wp2_with fail
      refine CD1.out.mono ?_
      rintro e w12 ⟨r1, q1, p1, c1, k1, np1, nc1, nk1, rfl, hd1, hm1, hc1, hb12⟩
      have HD1 := hide hd1
      have B12 := hide (bthen B11.out hb12)
      clear hd1 hm1 hc1 hb12 CD1
      clear d0 d1 d2 d3 d4 d5 d6 e0 e1 e2 e3 e4 e5 e6
      rcases do_err HD1.out with ⟨_, h0, _⟩ | ⟨hq1, hz1⟩
      · rw [HMA.out] at h0; cases h0
      clear hz1
      have hq1' : (q1 != 0) = true := by simpa using hq1
      have B13 := hide (bthen B12.out (balloc (brefl w12) (.cells #[.int .i64 r1.pf, .int .i64 r1.md, .int .i64 r1.og, .slice p1 r1.path.length np1, .slice c1 r1.comms.length nc1, .int .i64 r1.fr, .slice k1 r1.cl.length nk1] 25)))
      clear hq1
      have CL1 := hide (CL.out (w12.alloc (.cells #[.int .i64 r1.pf, .int .i64 r1.md, .int .i64 r1.og, .slice p1 r1.path.length np1, .slice c1 r1.comms.length nc1, .int .i64 r1.fr, .slice k1 r1.cl.length nk1] 25)) (bthen BW.out B13.out))
      go_wp2_with fail
      refine CL1.out.mono ?_
      rintro e wz ⟨rfl, hbz⟩
      have BZ := hide (bthen BW.out (bthen B13.out hbz))
      clear hbz
      go_wp2_with fail
      go_ret
      exact ⟨rfl, BZ.out⟩
end Go.Proofs.YtpkikfojiibdaaaGreatDoor
