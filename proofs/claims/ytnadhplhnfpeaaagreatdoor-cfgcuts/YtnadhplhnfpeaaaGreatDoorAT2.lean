/- Part of the proof. -/
import Derived.Test.YtnadhplhnfpeaaaGreatDoorAZ
import Derived.Test.YtnadhplhnfpeaaaGreatDoorAT1
namespace Go.Proofs.YtnadhplhnfpeaaaGreatDoor
open Go.RowKit Go.Sort
def rtV (r : Rt) (vn vb vl : Value) : Value := .agg #[.string r.name, .int .i64 r.asn, .int .i64 r.id, vn, vb, vl]
set_option maxHeartbeats 4000000 in
set_option maxRecDepth 100000 in
theorem sameRouter_is {r : Rt} {vn vb vl un ub ul : Value} (w : World) (h1 : Rd w 2 PxR vn r.nets) (h2 : Rd w 4 NbR vb r.nbs) (h3 : Rd w 2 LkR vl r.links) (h4 : Rd w 2 PxR un r.nets) (h5 : Rd w 4 NbR ub r.nbs) (h6 : Rd w 2 LkR ul r.links) (hz : r.nets.length ≤ 100000 ∧ r.nbs.length ≤ 100000 ∧ r.links.length ≤ 100000) :
    Calls Tryz.prog 24 #[rtV r vn vb vl, rtV r un ub ul] w fun e w' => e = .returned (.bool true) ∧ Below w.heap.size w w' := by
 obtain ⟨nm, asn, id, nets, nbs, links⟩ := r
 simp only [rtV] at *
 obtain ⟨on, kn, rfl⟩ := h1.slice
 obtain ⟨ob, kb, rfl⟩ := h2.slice
 obtain ⟨ol, kl, rfl⟩ := h3.slice
 obtain ⟨pn, jn, rfl⟩ := h4.slice
 obtain ⟨pb, jb, rfl⟩ := h5.slice
 obtain ⟨pl, jl, rfl⟩ := h6.slice
 obtain ⟨z1, z2, z3⟩ := hz
 have TB := two_boxes w #[.string nm, .int .i64 asn, .int .i64 id, .slice on nets.length kn, .slice ob nbs.length kb, .slice ol links.length kl] #[.string nm, .int .i64 asn, .int .i64 id, .slice pn nets.length jn, .slice pb nbs.length jb, .slice pl links.length jl] 50
 obtain ⟨N1, hN1⟩ : ∃ N, nets.length = N := ⟨_, rfl⟩
 obtain ⟨N2, hN2⟩ : ∃ N, nbs.length = N := ⟨_, rfl⟩
 obtain ⟨N3, hN3⟩ : ∃ N, links.length = N := ⟨_, rfl⟩
 have B0 := hide TB.1
 have HA := hide TB.2.1
 have HB := hide TB.2.2
 have R1 := hide (h1.below PxR.mono TB.1)
 have R2 := hide (h2.below NbR.mono TB.1)
 have R3 := hide (h3.below LkR.mono TB.1)
 have R4 := hide (h4.below PxR.mono TB.1)
 have R5 := hide (h5.below NbR.mono TB.1)
 have R6 := hide (h6.below LkR.mono TB.1)
 have HL : Hid (nets.length = N1 ∧ nbs.length = N2 ∧ links.length = N3) := ⟨hN1, hN2, hN3⟩
 simp only [hN1, hN2, hN3] at z1 z2 z3 B0 HA HB R1 R2 R3 R4 R5 R6 ⊢
 clear TB h1 h2 h3 h4 h5 h6 hN1 hN2 hN3
 go_enter Tryz.func24, Tryz.ntmps24
 go_upto_region 1 with fail
 obtain ⟨p, hp⟩ : ∃ p, w.heap.size = p := ⟨_, rfl⟩
 obtain ⟨q, hq⟩ : ∃ q, w.heap.size + 1 = q := ⟨_, rfl⟩
 rw [hp] at HA
 rw [hq] at HB
 rw [hq, hp]
 generalize (w.alloc (.cells #[.string nm, .int .i64 asn, .int .i64 id, .slice on N1 kn, .slice ob N2 kb, .slice ol N3 kl] 50)).alloc (.cells #[.string nm, .int .i64 asn, .int .i64 id, .slice pn N1 jn, .slice pb N2 jb, .slice pl N3 jl] 50) = W at *
 clear hp hq
 have a0 := cell_of HA.out 0 rfl
 have b0 := cell_of HB.out 0 rfl
 have a1 := cell_of HA.out 1 rfl
 have b1 := cell_of HB.out 1 rfl
 have a2 := cell_of HA.out 2 rfl
 have b2 := cell_of HB.out 2 rfl
 have a3 := cell_of HA.out 3 rfl
 have b3 := cell_of HB.out 3 rfl
 have a4 := cell_of HA.out 4 rfl
 have b4 := cell_of HB.out 4 rfl
 have a5 := cell_of HA.out 5 rfl
 have b5 := cell_of HB.out 5 rfl
 have C1 := hide (samePrefixes_is (.slice on N1 kn) (.slice pn N1 jn) nets W R1.out R4.out (by rw [HL.out.1]; exact z1))
 go_wp2_with fail
 refine C1.out.mono ?_
 rintro e w1 ⟨rfl, hb1⟩
 clear C1
 have a4 := cell_of ((hb1.block p (heap_lt HA.out)).trans HA.out) 4 rfl
 have b4 := cell_of ((hb1.block q (heap_lt HB.out)).trans HB.out) 4 rfl
 have a5 := cell_of ((hb1.block p (heap_lt HA.out)).trans HA.out) 5 rfl
 have b5 := cell_of ((hb1.block q (heap_lt HB.out)).trans HB.out) 5 rfl
 have HX := hide hb1
 clear hb1
 go_upto_region 3 with fail
 clear a0 b0 a1 b1 a2 b2 a3 b3 a4 b4 a5 b5
 go_wp2_with fail
 go_loopw [5] (fun v wr => ∃ k : Nat, v = .int .i64 k ∧ k ≤ N2 ∧ Hid (Below W.heap.size W wr)) (fun v _ => N2 - (intOf v).toNat)
 case atStart => exact ⟨0, rfl, Nat.zero_le _, HX⟩
 case round =>
  obtain ⟨k, rfl, hk, HBR⟩ := hrel
  have HA' := hide ((HBR.out.block p (heap_lt HA.out)).trans HA.out)
  have HB' := hide ((HBR.out.block q (heap_lt HB.out)).trans HB.out)
  have a0 := cell_of HA'.out 4 rfl
  have b0 := cell_of HB'.out 4 rfl
  by_cases hkl : k < N2
  ·
   have hkl' : (k : Int) < (N2 : Int) := by omega
   obtain ⟨b, off, xs, rfl, hbw, hx, ha⟩ := (Rd.below NbR.mono R2.out HBR.out).at_ (j := k) (by rw [HL.out.2.1]; exact hkl)
   obtain ⟨b2, off2, ys, rfl, hbw2, hy, hc⟩ := (Rd.below NbR.mono R5.out HBR.out).at_ (j := k) (by rw [HL.out.2.1]; exact hkl)
   generalize nbs[k]'(by rw [HL.out.2.1]; exact hkl) = y at *
   unfold NbR at hx hy
   subst hx hy
   obtain ⟨y0, y1, y2, y3⟩ := y
   have c0 := ha 0 _ rfl
   have d0 := hc 0 _ rfl
   have c1 := ha 1 _ rfl
   have d1 := hc 1 _ rfl
   have c2 := ha 2 _ rfl
   have d2 := hc 2 _ rfl
   have c3 := ha 3 _ rfl
   have d3 := hc 3 _ rfl
   simp only [Nat.add_zero] at c0 d0
   clear ha hc
   have ra := fun dd os => cell_regrown a0 dd os
   have rb := fun dd os => cell_regrown b0 dd os
   have rc0 := fun dd os => cell_regrown c0 dd os
   have rd0 := fun dd os => cell_regrown d0 dd os
   have rc1 := fun dd os => cell_regrown c1 dd os
   have rd1 := fun dd os => cell_regrown d1 dd os
   have rc2 := fun dd os => cell_regrown c2 dd os
   have rd2 := fun dd os => cell_regrown d2 dd os
   have rc3 := fun dd os => cell_regrown c3 dd os
   have rd3 := fun dd os => cell_regrown d3 dd os
   go_wp2_with fail
   refine wp_region_quiet_below (by kernel_rfl) (by kernel_rfl) ?_
   repeat (go_big_quiet_step (fail))
   refine wpQuiet_nil ?_
   rintro _ ⟨⟨dd, os⟩, rfl⟩
   have hb1 := below_regrown wr dd os
   generalize Sort.grow (redrawn wr dd) os = w1 at hb1
   have B1 := hide (bthen HBR.out hb1)
   clear hb1 ra rb a0 b0 HA' HB' rc0 rd0 c0 d0 rc1 rd1 c1 d1 rc2 rd2 c2 d2 rc3 rd3 c3 d3
   go_wp2_with fail
   exact ⟨⟨k + 1, by go_num, by omega, B1⟩, by simp [intOf] <;> omega⟩
  have hkl' : ¬ (k : Int) < (N2 : Int) := by omega
  go_wp2_with fail
  clear a0 b0 HA' HB'
  obtain ⟨wA, hwA⟩ : ∃ x, x = wr := ⟨_, rfl⟩
  subst hwA
  go_loopw [6] (fun v wr => ∃ k : Nat, v = .int .i64 k ∧ k ≤ N3 ∧ Hid (Below W.heap.size W wr)) (fun v _ => N3 - (intOf v).toNat)
  case atStart => exact ⟨0, rfl, Nat.zero_le _, HBR⟩
  case round =>
   obtain ⟨k2, rfl, hk2, HBS⟩ := hrel
   have HC' := hide ((HBS.out.block p (heap_lt HA.out)).trans HA.out)
   have HD' := hide ((HBS.out.block q (heap_lt HB.out)).trans HB.out)
   have a0 := cell_of HC'.out 5 rfl
   have b0 := cell_of HD'.out 5 rfl
   by_cases hkm : k2 < N3
   ·
    have hkm' : (k2 : Int) < (N3 : Int) := by omega
    obtain ⟨b, off, xs, rfl, hbw, hx, ha⟩ := (Rd.below LkR.mono R3.out HBS.out).at_ (j := k2) (by rw [HL.out.2.2]; exact hkm)
    obtain ⟨b2, off2, ys, rfl, hbw2, hy, hc⟩ := (Rd.below LkR.mono R6.out HBS.out).at_ (j := k2) (by rw [HL.out.2.2]; exact hkm)
    generalize links[k2]'(by rw [HL.out.2.2]; exact hkm) = y at *
    unfold LkR at hx hy
    subst hx hy
    obtain ⟨y0, y1⟩ := y
    have c0 := ha 0 _ rfl
    have d0 := hc 0 _ rfl
    have c1 := ha 1 _ rfl
    have d1 := hc 1 _ rfl
    simp only [Nat.add_zero] at c0 d0
    clear ha hc
    have ra := fun dd os => cell_regrown a0 dd os
    have rb := fun dd os => cell_regrown b0 dd os
    have rc0 := fun dd os => cell_regrown c0 dd os
    have rd0 := fun dd os => cell_regrown d0 dd os
    have rc1 := fun dd os => cell_regrown c1 dd os
    have rd1 := fun dd os => cell_regrown d1 dd os
    go_wp2_with fail
    refine wp_region_quiet_below (by kernel_rfl) (by kernel_rfl) ?_
    repeat (go_big_quiet_step (fail))
    refine wpQuiet_nil ?_
    rintro _ ⟨⟨dd, os⟩, rfl⟩
    have hb1 := below_regrown wr dd os
    generalize Sort.grow (redrawn wr dd) os = w1 at hb1
    have B1 := hide (bthen HBS.out hb1)
    clear hb1 ra rb a0 b0 HC' HD' rc0 rd0 c0 d0 rc1 rd1 c1 d1
    go_wp2_with fail
    exact ⟨⟨k2 + 1, by go_num, by omega, B1⟩, by simp [intOf] <;> omega⟩
   have hkm' : ¬ (k2 : Int) < (N3 : Int) := by omega
   have B2 := hide (bthen B0.out HBS.out)
   clear HC' HD'
   go_wp2_with fail
   go_ret
   exact ⟨rfl, B2.out⟩
def FewCl (c : Cl) : Prop := c.s.add.length ≤ 100000 ∧ c.s.del.length ≤ 100000 ∧ c.s.prep.length ≤ 100000
def FewRt (r : Rt) : Prop := r.nets.length ≤ 100000 ∧ r.nbs.length ≤ 100000 ∧ r.links.length ≤ 100000
structure Few (c : Cf) : Prop where
  lists : c.lists.length ≤ 100000
  rules : ∀ l ∈ c.lists, l.rules.length ≤ 100000
  maps : c.maps.length ≤ 100000
  cls : ∀ m ∈ c.maps, m.cls.length ≤ 100000
  cl : ∀ m ∈ c.maps, ∀ x ∈ m.cls, FewCl x
  routers : c.routers.length ≤ 100000
  rt : ∀ r ∈ c.routers, FewRt r
set_option maxHeartbeats 8000000 in
set_option maxRecDepth 100000 in
theorem same_is {c : Cf} {v1 v2 v3 u1 u2 u3 : Value} (w : World) (h1 : CfR w c v1 v2 v3) (h2 : CfR w c u1 u2 u3) (hf : Few c) :
    Calls Tryz.prog 12 #[.agg #[v1, v2, v3], .agg #[u1, u2, u3]] w fun e w' => e = .returned (.bool true) ∧ Below w.heap.size w w' := by
 have HF := hide hf
 obtain ⟨z1, z2, z3⟩ : c.lists.length ≤ 100000 ∧ c.maps.length ≤ 100000 ∧ c.routers.length ≤ 100000 := ⟨hf.lists, hf.maps, hf.routers⟩
 obtain ⟨lists, maps, routers⟩ := c
 obtain ⟨x1, x2, x3⟩ := h1
 obtain ⟨y1, y2, y3⟩ := h2
 simp only at x1 x2 x3 y1 y2 y3 z1 z2 z3
 obtain ⟨o1, k1, rfl⟩ := x1.slice
 obtain ⟨o2, k2, rfl⟩ := x2.slice
 obtain ⟨o3, k3, rfl⟩ := x3.slice
 obtain ⟨o4, k4, rfl⟩ := y1.slice
 obtain ⟨o5, k5, rfl⟩ := y2.slice
 obtain ⟨o6, k6, rfl⟩ := y3.slice
 have TB := two_boxes w #[.slice o1 lists.length k1, .slice o2 maps.length k2, .slice o3 routers.length k3] #[.slice o4 lists.length k4, .slice o5 maps.length k5, .slice o6 routers.length k6] 33
 obtain ⟨N1, hN1⟩ : ∃ N, lists.length = N := ⟨_, rfl⟩
 obtain ⟨N2, hN2⟩ : ∃ N, maps.length = N := ⟨_, rfl⟩
 obtain ⟨N3, hN3⟩ : ∃ N, routers.length = N := ⟨_, rfl⟩
 have B0 := hide TB.1
 have HA := hide TB.2.1
 have HB := hide TB.2.2
 have R1 := hide (x1.below LsR.mono TB.1)
 have R2 := hide (x2.below MpR.mono TB.1)
 have R3 := hide (x3.below RtR.mono TB.1)
 have R4 := hide (y1.below LsR.mono TB.1)
 have R5 := hide (y2.below MpR.mono TB.1)
 have R6 := hide (y3.below RtR.mono TB.1)
 have HL : Hid (lists.length = N1 ∧ maps.length = N2 ∧ routers.length = N3) := ⟨hN1, hN2, hN3⟩
 simp only [hN1, hN2, hN3] at z1 z2 z3 B0 HA HB R1 R2 R3 R4 R5 R6 ⊢
 clear TB x1 x2 x3 y1 y2 y3 hN1 hN2 hN3 hf
 go_enter Tryz.func12, Tryz.ntmps12
 go_upto_region 1 with fail
 obtain ⟨p, hp⟩ : ∃ p, w.heap.size = p := ⟨_, rfl⟩
 obtain ⟨q, hq⟩ : ∃ q, w.heap.size + 1 = q := ⟨_, rfl⟩
 rw [hp] at HA
 rw [hq] at HB
 rw [hq, hp]
 generalize (w.alloc (.cells #[.slice o1 N1 k1, .slice o2 N2 k2, .slice o3 N3 k3] 33)).alloc (.cells #[.slice o4 N1 k4, .slice o5 N2 k5, .slice o6 N3 k6] 33) = W at *
 clear hp hq
 have a0 := cell_of HA.out 0 rfl
 have b0 := cell_of HB.out 0 rfl
 have a1 := cell_of HA.out 1 rfl
 have b1 := cell_of HB.out 1 rfl
 have a2 := cell_of HA.out 2 rfl
 have b2 := cell_of HB.out 2 rfl
 go_upto_region 3 with fail
 clear a0 b0 a1 b1 a2 b2
 go_wp2_with fail
 go_loopw [5] (fun v wr => ∃ k : Nat, v = .int .i64 k ∧ k ≤ N1 ∧ Hid (Below W.heap.size W wr)) (fun v _ => N1 - (intOf v).toNat)
 case atStart => exact ⟨0, rfl, Nat.zero_le _, brefl W⟩
 case round =>
  obtain ⟨k, rfl, hk, HBR⟩ := hrel
  have HA' := hide ((HBR.out.block p (heap_lt HA.out)).trans HA.out)
  have HB' := hide ((HBR.out.block q (heap_lt HB.out)).trans HB.out)
  have a0 := cell_of HA'.out 0 rfl
  have b0 := cell_of HB'.out 0 rfl
  by_cases hkl : k < N1
  ·
   have hkl' : (k : Int) < (N1 : Int) := by omega
   obtain ⟨b, off, xs, rfl, hbw, ⟨v, rfl, hv⟩, ha⟩ := (Rd.below LsR.mono R1.out HBR.out).at_ (j := k) (by rw [HL.out.1]; exact hkl)
   obtain ⟨b2, off2, ys, rfl, hbw2, ⟨v', rfl, hv'⟩, hc⟩ := (Rd.below LsR.mono R4.out HBR.out).at_ (j := k) (by rw [HL.out.1]; exact hkl)
   have C := hide (fun d os => sameRules_is v v' (lists[k]'(by rw [HL.out.1]; exact hkl)).rules (Sort.grow (redrawn wr d) os) (hv.below RgR.mono (below_regrown wr d os)) (hv'.below RgR.mono (below_regrown wr d os)) (HF.out.rules _ (List.getElem_mem _)))
   clear hv hv'
   have c0 := ha 0 _ rfl
   have c1 := ha 1 _ rfl
   have d0 := hc 0 _ rfl
   have d1 := hc 1 _ rfl
   simp only [Nat.add_zero] at c0 d0
   generalize (lists[k]'(by rw [HL.out.1]; exact hkl)).name = nm at *
   clear ha hc
   have ra0 := fun dd os => cell_regrown a0 dd os
   have rb0 := fun dd os => cell_regrown b0 dd os
   have rc0 := fun dd os => cell_regrown c0 dd os
   have rc1 := fun dd os => cell_regrown c1 dd os
   have rd0 := fun dd os => cell_regrown d0 dd os
   have rd1 := fun dd os => cell_regrown d1 dd os
   go_wp2_with fail
   refine wp_region_quiet_below (by kernel_rfl) (by kernel_rfl) ?_
   repeat (go_big_quiet_step ((go_at_call 22; exact Calls.regrown_of (C.out _ _))))
   refine wpQuiet_nil ?_
   rintro _ ⟨⟨dd, os⟩, rfl⟩
   have hb1 := below_regrown wr dd os
   generalize Sort.grow (redrawn wr dd) os = w1 at hb1
   have B1 := hide (bthen HBR.out hb1)
   clear hb1 ra0 rb0 rc0 rc1 rd0 rd1 a0 b0 c0 c1 d0 d1 HA' HB' C
   go_wp2_with fail
   exact ⟨⟨k + 1, by go_num, by omega, B1⟩, by simp [intOf] <;> omega⟩
  have hkl' : ¬ (k : Int) < (N1 : Int) := by omega
  have a1 := cell_of HA'.out 1 rfl
  have b1 := cell_of HB'.out 1 rfl
  go_wp2_with fail
  clear a0 b0 a1 b1 HA' HB' hkl hkl' hk
  obtain ⟨wA, hwA⟩ : ∃ x, x = wr := ⟨_, rfl⟩
  subst hwA
  have HB1 := hide HBR.out
  clear HBR
  go_loopw [6] (fun v wr => ∃ k : Nat, v = .int .i64 k ∧ k ≤ N2 ∧ Hid (Below W.heap.size W wr)) (fun v _ => N2 - (intOf v).toNat)
  case atStart => exact ⟨0, rfl, Nat.zero_le _, HB1⟩
  case round =>
   obtain ⟨k, rfl, hk, HBR⟩ := hrel
   have HA' := hide ((HBR.out.block p (heap_lt HA.out)).trans HA.out)
   have HB' := hide ((HBR.out.block q (heap_lt HB.out)).trans HB.out)
   have a0 := cell_of HA'.out 1 rfl
   have b0 := cell_of HB'.out 1 rfl
   by_cases hkl : k < N2
   ·
    have hkl' : (k : Int) < (N2 : Int) := by omega
    obtain ⟨b, off, xs, rfl, hbw, ⟨v, rfl, hv⟩, ha⟩ := (Rd.below MpR.mono R2.out HBR.out).at_ (j := k) (by rw [HL.out.2.1]; exact hkl)
    obtain ⟨b2, off2, ys, rfl, hbw2, ⟨v', rfl, hv'⟩, hc⟩ := (Rd.below MpR.mono R5.out HBR.out).at_ (j := k) (by rw [HL.out.2.1]; exact hkl)
    have HCL := hide (HF.out.cl (maps[k]'(by rw [HL.out.2.1]; exact hkl)) (List.getElem_mem _))
    have hM := HF.out.cls (maps[k]'(by rw [HL.out.2.1]; exact hkl)) (List.getElem_mem _)
    generalize maps[k]'(by rw [HL.out.2.1]; exact hkl) = mm at *
    obtain ⟨nm, cls⟩ := mm
    simp only at HCL hM hv hv' ha hc
    obtain ⟨oc, kc, rfl⟩ := hv.slice
    obtain ⟨oe, ke, rfl⟩ := hv'.slice
    have c0 := ha 0 _ rfl
    have c1 := ha 1 _ rfl
    have d0 := hc 0 _ rfl
    have d1 := hc 1 _ rfl
    simp only [Nat.add_zero] at c0 d0
    obtain ⟨M, hMM⟩ : ∃ M, cls.length = M := ⟨_, rfl⟩
    have HM := hide hMM
    have HV := hide hv
    have HV' := hide hv'
    rw [hMM] at hM c1 d1 HV HV'
    clear ha hc hv hv' hMM
    have ra0 := fun dd os => cell_regrown a0 dd os
    have rb0 := fun dd os => cell_regrown b0 dd os
    have rc0 := fun dd os => cell_regrown c0 dd os
    have rc1 := fun dd os => cell_regrown c1 dd os
    have rd0 := fun dd os => cell_regrown d0 dd os
    have rd1 := fun dd os => cell_regrown d1 dd os
    go_wp2_with fail
    refine wp_region_quiet_below (by kernel_rfl) (by kernel_rfl) ?_
    repeat (go_big_quiet_step (fail))
    refine wpQuiet_nil ?_
    rintro _ ⟨⟨dd, os⟩, rfl⟩
    have hb1 := below_regrown wr dd os
    generalize Sort.grow (redrawn wr dd) os = w1 at hb1
    clear ra0 rb0 rc0 rc1 rd0 rd1
    have c1 := (hb1.cell (p := ⟨b, off + k * 2 + 1, none⟩) hbw).trans c1
    have d1 := (hb1.cell (p := ⟨b2, off2 + k * 2 + 1, none⟩) hbw2).trans d1
    have a0 := (hb1.cell (p := ⟨p, 1, none⟩) (heap_lt HA'.out)).trans a0
    have b0 := (hb1.cell (p := ⟨q, 1, none⟩) (heap_lt HB'.out)).trans b0
    have hpw : p < w1.heap.size := Nat.lt_of_lt_of_le (heap_lt HA'.out) hb1.size
    have hqw : q < w1.heap.size := Nat.lt_of_lt_of_le (heap_lt HB'.out) hb1.size
    have hbw := Nat.lt_of_lt_of_le hbw hb1.size
    have hbw2 := Nat.lt_of_lt_of_le hbw2 hb1.size
    have V1 := hide (HV.out.below ClR.mono hb1)
    have V2 := hide (HV'.out.below ClR.mono hb1)
    have B1 := hide (bthen HBR.out hb1)
    have A0 := hide (And.intro a0 (And.intro b0 (And.intro c1 d1)))
    clear hb1 c0 d0 HA' HB' HV HV' HBR a0 b0 c1 d1
    go_wp2_with fail
    go_loopw [7] (fun v w2 => ∃ j : Nat, v = .int .i64 j ∧ j ≤ M ∧ Hid (Below w1.heap.size w1 w2)) (fun v _ => M - (intOf v).toNat)
    case atStart => exact ⟨0, rfl, Nat.zero_le _, brefl w1⟩
    case round =>
     obtain ⟨j, rfl, hj, HBJ⟩ := hrel
     obtain ⟨a0, b0, c1, d1⟩ := A0.out
     have a0 := (HBJ.out.cell (p := ⟨p, 1, none⟩) hpw).trans a0
     have b0 := (HBJ.out.cell (p := ⟨q, 1, none⟩) hqw).trans b0
     have c1 := (HBJ.out.cell (p := ⟨b, off + k * 2 + 1, none⟩) hbw).trans c1
     have d1 := (HBJ.out.cell (p := ⟨b2, off2 + k * 2 + 1, none⟩) hbw2).trans d1
     by_cases hjl : j < M
     ·
      have hjl' : (j : Int) < (M : Int) := by omega
      obtain ⟨b3, off3, xs, rfl, hbw3, ⟨va, vd, vp, rfl, hva, hvd, hvp⟩, ha⟩ := (V1.out.below ClR.mono HBJ.out).at_ (j := j) (by rw [HM.out]; exact hjl)
      obtain ⟨b4, off4, ys, rfl, hbw4, ⟨va', vd', vp', rfl, hva', hvd', hvp'⟩, hc⟩ := (V2.out.below ClR.mono HBJ.out).at_ (j := j) (by rw [HM.out]; exact hjl)
      have C := hide (fun d os => sameClause_is (c := cls[j]'(by rw [HM.out]; exact hjl)) (Sort.grow (redrawn wr d) os) (hva.below PrR.mono (below_regrown wr d os)) (hvd.below PrR.mono (below_regrown wr d os)) (hvp.below InR.mono (below_regrown wr d os)) (hva'.below PrR.mono (below_regrown wr d os)) (hvd'.below PrR.mono (below_regrown wr d os)) (hvp'.below InR.mono (below_regrown wr d os)) (HCL.out _ (List.getElem_mem _)))
      clear hva hvd hvp hva' hvd' hvp'
      generalize cls[j]'(by rw [HM.out]; exact hjl) = cc at *
      obtain ⟨n, ok, ⟨ml, mp, ca, cn⟩, ⟨pref, med, org, add, del, clr, prep⟩⟩ := cc
      unfold clV at C
      have e0 := ha 0 _ rfl
      have e1 := ha 1 _ rfl
      have e2 := ha 2 _ rfl
      have e3 := ha 3 _ rfl
      have e4 := ha 4 _ rfl
      have e5 := ha 5 _ rfl
      have e6 := ha 6 _ rfl
      have e7 := ha 7 _ rfl
      have e8 := ha 8 _ rfl
      have e9 := ha 9 _ rfl
      have e10 := ha 10 _ rfl
      have e11 := ha 11 _ rfl
      have e12 := ha 12 _ rfl
      have f0 := hc 0 _ rfl
      have f1 := hc 1 _ rfl
      have f2 := hc 2 _ rfl
      have f3 := hc 3 _ rfl
      have f4 := hc 4 _ rfl
      have f5 := hc 5 _ rfl
      have f6 := hc 6 _ rfl
      have f7 := hc 7 _ rfl
      have f8 := hc 8 _ rfl
      have f9 := hc 9 _ rfl
      have f10 := hc 10 _ rfl
      have f11 := hc 11 _ rfl
      have f12 := hc 12 _ rfl
      simp only [Nat.add_zero] at e0 f0
      simp only at C e0 f0 e1 f1 e2 f2 e3 f3 e4 f4 e5 f5 e6 f6 e7 f7 e8 f8 e9 f9 e10 f10 e11 f11 e12 f12
      clear ha hc
      have ra0 := fun dd os => cell_regrown a0 dd os
      have rb0 := fun dd os => cell_regrown b0 dd os
      have rc1 := fun dd os => cell_regrown c1 dd os
      have rd1 := fun dd os => cell_regrown d1 dd os
      have re0 := fun dd os => cell_regrown e0 dd os
      have re1 := fun dd os => cell_regrown e1 dd os
      have re2 := fun dd os => cell_regrown e2 dd os
      have re3 := fun dd os => cell_regrown e3 dd os
      have re4 := fun dd os => cell_regrown e4 dd os
      have re5 := fun dd os => cell_regrown e5 dd os
      have re6 := fun dd os => cell_regrown e6 dd os
      have re7 := fun dd os => cell_regrown e7 dd os
      have re8 := fun dd os => cell_regrown e8 dd os
      have re9 := fun dd os => cell_regrown e9 dd os
      have re10 := fun dd os => cell_regrown e10 dd os
      have re11 := fun dd os => cell_regrown e11 dd os
      have re12 := fun dd os => cell_regrown e12 dd os
      have rf0 := fun dd os => cell_regrown f0 dd os
      have rf1 := fun dd os => cell_regrown f1 dd os
      have rf2 := fun dd os => cell_regrown f2 dd os
      have rf3 := fun dd os => cell_regrown f3 dd os
      have rf4 := fun dd os => cell_regrown f4 dd os
      have rf5 := fun dd os => cell_regrown f5 dd os
      have rf6 := fun dd os => cell_regrown f6 dd os
      have rf7 := fun dd os => cell_regrown f7 dd os
      have rf8 := fun dd os => cell_regrown f8 dd os
      have rf9 := fun dd os => cell_regrown f9 dd os
      have rf10 := fun dd os => cell_regrown f10 dd os
      have rf11 := fun dd os => cell_regrown f11 dd os
      have rf12 := fun dd os => cell_regrown f12 dd os
      go_wp2_with fail
      refine wp_region_quiet_below (by kernel_rfl) (by kernel_rfl) ?_
      repeat (go_big_quiet_step ((go_at_call 23; exact Calls.regrown_of (C.out _ _))))
      refine wpQuiet_nil ?_
      rintro _ ⟨⟨dd, os⟩, rfl⟩
      have hb1 := below_regrown wr dd os
      generalize Sort.grow (redrawn wr dd) os = w3 at hb1
      have B3 := hide (bthen HBJ.out hb1)
      clear hb1 C a0 b0 c1 d1 ra0 rb0 rc1 rd1 e0 f0 re0 rf0 e1 f1 re1 rf1 e2 f2 re2 rf2 e3 f3 re3 rf3 e4 f4 re4 rf4 e5 f5 re5 rf5 e6 f6 re6 rf6 e7 f7 re7 rf7 e8 f8 re8 rf8 e9 f9 re9 rf9 e10 f10 re10 rf10 e11 f11 re11 rf11 e12 f12 re12 rf12
      go_wp2_with fail
      exact ⟨⟨j + 1, by go_num, by omega, B3⟩, by simp [intOf] <;> omega⟩
     have hjl' : ¬ (j : Int) < (M : Int) := by omega
     go_wp2_with fail
     exact ⟨⟨k + 1, by go_num, by omega, hide (bthen B1.out HBJ.out)⟩, by simp [intOf] <;> omega⟩
   have hkl' : ¬ (k : Int) < (N2 : Int) := by omega
   have a2 := cell_of HA'.out 2 rfl
   have b2 := cell_of HB'.out 2 rfl
   go_wp2_with fail
   clear a0 b0 a2 b2 HA' HB' hkl hkl' hk
   obtain ⟨wB, hwB⟩ : ∃ x, x = wr := ⟨_, rfl⟩
   subst hwB
   have HB2 := hide HBR.out
   clear HBR
   go_loopw [8] (fun v wr => ∃ k : Nat, v = .int .i64 k ∧ k ≤ N3 ∧ Hid (Below W.heap.size W wr)) (fun v _ => N3 - (intOf v).toNat)
   case atStart => exact ⟨0, rfl, Nat.zero_le _, HB2⟩
   case round =>
    obtain ⟨k, rfl, hk, HBR⟩ := hrel
    have HA' := hide ((HBR.out.block p (heap_lt HA.out)).trans HA.out)
    have HB' := hide ((HBR.out.block q (heap_lt HB.out)).trans HB.out)
    have a0 := cell_of HA'.out 2 rfl
    have b0 := cell_of HB'.out 2 rfl
    by_cases hkl : k < N3
    ·
     have hkl' : (k : Int) < (N3 : Int) := by omega
     obtain ⟨b, off, xs, rfl, hbw, ⟨vn, vb, vl, rfl, hn, hb, hl⟩, ha⟩ := (Rd.below RtR.mono R3.out HBR.out).at_ (j := k) (by rw [HL.out.2.2]; exact hkl)
     obtain ⟨b2, off2, ys, rfl, hbw2, ⟨un, ub, ul, rfl, hn', hb', hl'⟩, hc⟩ := (Rd.below RtR.mono R6.out HBR.out).at_ (j := k) (by rw [HL.out.2.2]; exact hkl)
     have C := hide (fun d os => sameRouter_is (r := routers[k]'(by rw [HL.out.2.2]; exact hkl)) (Sort.grow (redrawn wr d) os) (hn.below PxR.mono (below_regrown wr d os)) (hb.below NbR.mono (below_regrown wr d os)) (hl.below LkR.mono (below_regrown wr d os)) (hn'.below PxR.mono (below_regrown wr d os)) (hb'.below NbR.mono (below_regrown wr d os)) (hl'.below LkR.mono (below_regrown wr d os)) (HF.out.rt _ (List.getElem_mem _)))
     clear hn hb hl hn' hb' hl'
     generalize routers[k]'(by rw [HL.out.2.2]; exact hkl) = rr at *
     obtain ⟨nm, asn, id, nets, nbs, links⟩ := rr
     unfold rtV at C
     have c0 := ha 0 _ rfl
     have c1 := ha 1 _ rfl
     have c2 := ha 2 _ rfl
     have c3 := ha 3 _ rfl
     have c4 := ha 4 _ rfl
     have c5 := ha 5 _ rfl
     have d0 := hc 0 _ rfl
     have d1 := hc 1 _ rfl
     have d2 := hc 2 _ rfl
     have d3 := hc 3 _ rfl
     have d4 := hc 4 _ rfl
     have d5 := hc 5 _ rfl
     simp only [Nat.add_zero] at c0 d0
     simp only at C c0 d0 c1 d1 c2 d2 c3 d3 c4 d4 c5 d5
     clear ha hc
     have ra0 := fun dd os => cell_regrown a0 dd os
     have rb0 := fun dd os => cell_regrown b0 dd os
     have rc0 := fun dd os => cell_regrown c0 dd os
     have rc1 := fun dd os => cell_regrown c1 dd os
     have rc2 := fun dd os => cell_regrown c2 dd os
     have rc3 := fun dd os => cell_regrown c3 dd os
     have rc4 := fun dd os => cell_regrown c4 dd os
     have rc5 := fun dd os => cell_regrown c5 dd os
     have rd0 := fun dd os => cell_regrown d0 dd os
     have rd1 := fun dd os => cell_regrown d1 dd os
     have rd2 := fun dd os => cell_regrown d2 dd os
     have rd3 := fun dd os => cell_regrown d3 dd os
     have rd4 := fun dd os => cell_regrown d4 dd os
     have rd5 := fun dd os => cell_regrown d5 dd os
     go_wp2_with fail
     refine wp_region_quiet_below (by kernel_rfl) (by kernel_rfl) ?_
     repeat (go_big_quiet_step ((go_at_call 24; exact Calls.regrown_of (C.out _ _))))
     refine wpQuiet_nil ?_
     rintro _ ⟨⟨dd, os⟩, rfl⟩
     have hb1 := below_regrown wr dd os
     generalize Sort.grow (redrawn wr dd) os = w1 at hb1
     have B1 := hide (bthen HBR.out hb1)
     clear hb1 C ra0 rb0 a0 b0 HA' HB' c0 d0 rc0 rd0 c1 d1 rc1 rd1 c2 d2 rc2 rd2 c3 d3 rc3 rd3 c4 d4 rc4 rd4 c5 d5 rc5 rd5
     go_wp2_with fail
     exact ⟨⟨k + 1, by go_num, by omega, B1⟩, by simp [intOf] <;> omega⟩
    have hkl' : ¬ (k : Int) < (N3 : Int) := by omega
    have BZ := hide (bthen B0.out HBR.out)
    clear HA' HB'
    go_wp2_with fail
    go_ret
    exact ⟨rfl, BZ.out⟩
end Go.Proofs.YtnadhplhnfpeaaaGreatDoor
namespace Go.Proofs.YtnadhplhnfpeaaaGreatDoor
section
variable (F : Fn)
structure FewN (n : Nat) (c : Cf) : Prop where
  lists : c.lists.length ≤ n
  rules : ∀ l ∈ c.lists, l.rules.length ≤ 100000
  maps : c.maps.length ≤ n
  cls : ∀ m ∈ c.maps, m.cls.length ≤ 100000
  cl : ∀ m ∈ c.maps, ∀ x ∈ m.cls, FewCl x
  routers : c.routers.length ≤ n
  rt : ∀ r ∈ c.routers, FewRt r
theorem FewN.few {n : Nat} {c : Cf} (h : FewN n c) (hn : n ≤ 100000) : Few c := ⟨Nat.le_trans h.lists hn, h.rules, Nat.le_trans h.maps hn, h.cls, h.cl, Nat.le_trans h.routers hn, h.rt⟩
end
theorem few_nil : FewN 16 .nil := ⟨by simp [Cf.nil], by simp [Cf.nil], by simp [Cf.nil], by simp [Cf.nil], by simp [Cf.nil], by simp [Cf.nil], by simp [Cf.nil]⟩
end Go.Proofs.YtnadhplhnfpeaaaGreatDoor
