import Derived.Test.YtkhmhmopcofejaaKS
/- The law WireSplits. -/
namespace Go.Proofs.Ytkhmhmopcofejaa
open Go.RowKit Go.Sort

theorem tx_at {w : World} {B n c i : Nat} {ao : Option Addr} {l : List ByteArray} (h : w.ownsRow B 9 1 (.slice ao n c) n (Tx.cells l)) (hi : i < l.length) : ∃ g, ao = some ⟨g, 0, none⟩ ∧ w.cell? ⟨g, i, none⟩ = some (.string l[i]) := by
  have hn : l.length = n := by have := h.1; simp [Tx.cells] at this; exact this
  rcases h.2 with ⟨_, h0⟩ | ⟨g, cap', cur, hv, _⟩
  · omega
  · simp only [Value.slice.injEq] at hv
    refine ⟨g, hv.1, ?_⟩
    rw [hv.1] at h
    rw [h.cellAt i (by omega)]
    simp [Tx.cells, hi]
theorem apart_new {w w' : World} {B n : Nat} {v : Value} {xs : List Value} {oo : Option Addr} {k : Nat} (h : w.ownsRow B 5 1 v n xs) (hw : WrB w.heap.size w' oo k) (hk : 0 < k) : ∀ ad, oo = some ad → some ad.block ≠ v.ownBlock := by
  intro ad he hv
  rcases hw with h0 | ⟨g, off, h1, h2, _⟩
  · omega
  · rw [h1] at he
    cases he
    have := (h.lt g hv.symm).2
    omega
set_option maxHeartbeats 8000000 in
set_option maxRecDepth 100000 in
theorem law_splits (K : Kit10) (KS : KitSplit) (ao : Option Addr) (cap : Nat) (us : List Ue) (cut : Int) (hcut : -9223372036854775808 ≤ cut ∧ cut ≤ 9223372036854775807) (hf : ∀ x ∈ us, x.u.fits) (hC : ∀ x ∈ us, Up.came x.u x.wo x.tq x.po x.co x.ko x.cw x.ct x.cp x.cc x.ck) (w : World) (hU : Us.slot w ao us) :
    Calls Try.prog 6 #[.slice ao us.length cap, .int .i64 cut] w fun e w' => e = .returned (.bool true) ∧ Below w.heap.size w w' := by
  have CL := hide (fun W => lives10_is K W)
  by_cases hl : 12 < us.length
  · have hl' : (12 : Int) < (us.length : Int) := by omega
    have B0 := hide (brefl w)
    clear hl hU hC hf K KS
    go_enter Try.func6, Try.ntmps6
    go_wp2_with fail
    refine (CL.out _).mono ?_
    rintro e wz ⟨rfl, hbz⟩
    have BZ := hide (bthen B0.out hbz)
    clear hbz
    go_wp2_with fail
    go_ret
    exact ⟨rfl, BZ.out⟩
  have hl' : ¬ (12 : Int) < (us.length : Int) := by omega
  have HU := hide hU
  have HF := hide hf
  have HC := hide hC
  have HK := hide K
  have HKS := hide KS
  have HL := hide hl
  clear hU hf hC K KS hl
  go_enter Try.func6, Try.ntmps6
  go_wp2_with fail
  go_loopw [5, 6, 7, 8, 9] (fun v5 v6 v7 _ _ wr => ∃ (j : Nat) (ms : List (List UInt8)), j ≤ us.length ∧ v7 = .int .i64 (j : Int) ∧ ms.length = j ∧ (∀ m ∈ ms, Msg m) ∧ wr.ownsRow w.heap.size 5 1 v5 ms.flatten.length (bcells ms.flatten) ∧ wr.ownsRow w.heap.size 9 1 v6 j (Tx.cells (ms.map fun m => ⟨m.toArray⟩)) ∧ Below w.heap.size w wr) (fun _ _ v7 _ _ _ => us.length - (intOf v7).toNat)
  case atStart => exact ⟨0, [], Nat.zero_le _, rfl, rfl, fun m hm => (by cases hm), ⟨rfl, .inl ⟨rfl, rfl⟩⟩, ⟨rfl, .inl ⟨rfl, rfl⟩⟩, brefl w⟩
  case round =>
    obtain ⟨j, ms, hj, rfl, hms, hM, h5, h6, hb⟩ := hrel
    have R5 := hide h5
    have R6 := hide h6
    have BR := hide hb
    have HM := hide hM
    have HMS := hide hms
    have HFB := hide (flats_bound hM)
    clear h5 h6 hb hM hms
    by_cases hjl : j < us.length
    · have hjl' : (j : Int) < (us.length : Int) := by omega
      have hx := List.getElem_mem hjl
      have hlie := HU.out.2 _ hx
      have hfit := HF.out _ hx
      have hcam := HC.out _ hx
      obtain ⟨b, off, rfl, hr⟩ : ∃ b off, ao = some ⟨b, off, none⟩ ∧ ∀ j (h : j < us.length), Ue.at_ wr b (off + j * 9) us[j] := by
        rcases (Us.slot_below HU.out BR.out).1 with h | h
        · rw [h] at hjl; simp at hjl
        · exact h
      have hat := hr j hjl
      clear hr hx
      generalize us[j] = x at *
      obtain ⟨u, wo, tq, po, co, ko, cw, ct, cp, cc, ck⟩ := x
      simp only at *
      obtain ⟨c0, c1, c2, c3, c4, c5, c6, c7, c8⟩ := hat
      have HLI := hide hlie
      have HFI := hide hfit
      have HCA := hide hcam
      clear hlie hfit hcam
      obtain ⟨fw, hfw⟩ : ∃ r, u.few = r := ⟨_, rfl⟩
      have CF := hide (fun W => fewU_is u wo tq po co ko cw ct cp cc ck fw hfw W)
      have HFW := hide hfw
      clear hfw
      go_wp2_with fail
      refine (CF.out _).mono ?_
      rintro e w1 ⟨rfl, hb1⟩
      have A1 := hide hb1
      have B1 := hide (bthen BR.out hb1)
      have hltb : b < wr.heap.size := block_lt_of_cell c0
      have k := fun o => hb1.cell (p := ⟨b, o, none⟩) hltb
      rw [← k] at c0 c1 c2 c3 c4 c5 c6 c7 c8
      clear hb1 CF k hltb
      cases fw
      · clear c0 c1 c2 c3 c4 c5 c6 c7 c8
        go_wp2_with fail
        refine (CL.out _).mono ?_
        rintro e wz ⟨rfl, hbz⟩
        have BZ := hide (bthen B1.out hbz)
        clear hbz
        go_wp2_with fail
        go_ret
        exact ⟨rfl, BZ.out⟩
      have HW := hide ((Up.few_iff u).1 HFW.out)
      clear HFW
      have CI := hide (fun W' => mine_is u wo tq po co ko cw ct cp cc ck W')
      have CE := hide (fun W' (hb : Below w.heap.size w W') => HK.out.encode u wo tq po co ko cw ct cp cc ck HFI.out HW.out W' (Up.lies_below HLI.out hb) HCA.out)
      go_wp2_with fail
      refine (CI.out _).mono ?_
      rintro e w2 ⟨rfl, hb2⟩
      have A2 := hide (bthen A1.out hb2)
      have B2 := hide (bthen B1.out hb2)
      clear hb2 CI c0 c1 c2 c3 c4 c5 c6 c7 c8
      go_wp2_with fail
      refine (CE.out _ B2.out).mono ?_
      rintro e w3 hg
      rcases hg with ⟨hmay, o, c, rfl, hs3, hwr3, hc3, hb3⟩ | ⟨hmay, o, c, rfl, hb3⟩
      · have R2 := row_below R5.out A2.out
        have M4 := hide (msg_enc hmay)
        have P4 := hide (apart_new R2 hwr3 (by rw [Up.enc_length]; omega))
        have R5 := hide (row_below R2 hb3)
        have R6 := hide (row_below (row_below R6.out A2.out) hb3)
        have S4 := hide hs3
        have C4 := hide hc3
        have B4 := hide (bthen B2.out hb3)
        clear R2 hs3 hwr3 hc3 hb3 A1 A2 B1 B2 CE hmay HLI HFI HCA HW
        generalize u.enc = m at *
        obtain ⟨t, ht⟩ : ∃ t : ByteArray, t = ⟨(m).toArray⟩ := ⟨_, rfl⟩
        have HTT := hide ht
        clear ht
        have L4 : Hid (ms.flatten.length + m.length ≤ 1000000 ∧ j ≤ 12) := by have h1 := M4.out.length_le; have h2 := HFB.out; have h3 := HMS.out; have h4 := HL.out; exact ⟨by omega, by omega⟩
        go_wp2_with (at_builtin; go_must (refine append_bytes (w0 := w) rfl _ _ rfl u5 _ ms.flatten rfl R5.out u6 j _ R6.out o m.length c m rfl rfl S4.out C4.out P4.out L4.out.1 B4.out ?_))
        intro v5' w6 h5 h6 h7 h8
        have R5' := hide (row_below h5 (balloc (brefl w6) (.cells #[.string t] 9)))
        have R6' := hide (row_below h6 (balloc (brefl w6) (.cells #[.string t] 9)))
        have S6 := hide h7
        have B6 := hide (bthen h8 (balloc (brefl w6) (.cells #[.string t] 9)))
        clear h5 h6 h7 h8
        have hstr := str_at (W := w6) HTT.out rfl S6.out C4.out
        have N6 := hide (show (w6.alloc (.cells #[.string t] 9)).cell? ⟨w6.heap.size, 0, none⟩ = some (.string t) by simp)
        go_wp2_with (at_builtin; go_must (refine append_text (w0 := w) rfl _ _ rfl u6 j (ms.map fun m => ⟨m.toArray⟩) rfl R6'.out v5' _ _ R5'.out t w6.heap.size 1 rfl N6.out (by have := L4.out.2; omega) B6.out ?_))
        intro v6' w7 h6 h5 h8
        have R5'' := hide h5
        have R6'' := hide h6
        have B7 := hide h8
        clear h5 h6 h8 hstr
        go_wp2_with fail
        refine ⟨⟨j + 1, ms ++ [m], by omega, by go_num, by rw [List.length_append, HMS.out]; rfl, ?_, ?_, ?_, B7.out⟩, by simp [intOf]; omega⟩
        · intro x hx
          rcases List.mem_append.1 hx with h | h
          · exact HM.out x h
          · rw [List.mem_singleton.1 h]; exact M4.out
        · have e1 : (ms ++ [m]).flatten = ms.flatten ++ m := by simp
          have h := R5''.out
          rw [e1, List.length_append, List.length_flatten, show (m).length = m.length from rfl]
          exact h
        · rw [List.map_append]
          have h := R6''.out
          rw [HTT.out] at h
          exact h
      · have A3 := hide (bthen A2.out hb3)
        have B3 := hide (bthen B2.out hb3)
        have CA := hide (HK.out.alive w3)
        clear hb3 A1 A2 B1 B2 CE hmay HLI HFI HCA HW
        go_wp2_with fail
        refine CA.out.mono ?_
        rintro e w4 ⟨oa, ca, rfl, hs3, hwr3, hc3, hb3⟩
        have R2 := row_below R5.out A3.out
        have M4 := hide msg_alive
        have P4 := hide (apart_new R2 hwr3 (by rw [alive_at.1]; decide))
        have R5 := hide (row_below R2 hb3)
        have R6 := hide (row_below (row_below R6.out A3.out) hb3)
        have S4 := hide hs3
        have B4 := hide (bthen B3.out hb3)
        have hma := alive_at.1
        have C4 : Hid (camB oa 19 ca) := by rw [← alive_at.1]; exact hc3
        clear R2 hs3 hwr3 hc3 hb3 A3 B3 CA
        generalize alive = m at *
        obtain ⟨t, ht⟩ : ∃ t : ByteArray, t = ⟨(m).toArray⟩ := ⟨_, rfl⟩
        have HTT := hide ht
        clear ht
        have L4 : Hid (ms.flatten.length + 19 ≤ 1000000 ∧ j ≤ 12) := by have h1 := M4.out.length_le; have h2 := HFB.out; have h3 := HMS.out; have h4 := HL.out; exact ⟨by omega, by omega⟩
        go_wp2_with (at_builtin; go_must (refine append_bytes (w0 := w) rfl _ _ rfl u5 _ ms.flatten rfl R5.out u6 j _ R6.out oa 19 ca m rfl hma S4.out C4.out P4.out L4.out.1 B4.out ?_))
        intro v5' w6 h5 h6 h7 h8
        have R5' := hide (row_below h5 (balloc (brefl w6) (.cells #[.string t] 9)))
        have R6' := hide (row_below h6 (balloc (brefl w6) (.cells #[.string t] 9)))
        have S6 := hide h7
        have B6 := hide (bthen h8 (balloc (brefl w6) (.cells #[.string t] 9)))
        clear h5 h6 h7 h8
        have hstr := str_at (W := w6) HTT.out hma.symm S6.out C4.out
        have N6 := hide (show (w6.alloc (.cells #[.string t] 9)).cell? ⟨w6.heap.size, 0, none⟩ = some (.string t) by simp)
        go_wp2_with (at_builtin; go_must (refine append_text (w0 := w) rfl _ _ rfl u6 j (ms.map fun m => ⟨m.toArray⟩) rfl R6'.out v5' _ _ R5'.out t w6.heap.size 1 rfl N6.out (by have := L4.out.2; omega) B6.out ?_))
        intro v6' w7 h6 h5 h8
        have R5'' := hide h5
        have R6'' := hide h6
        have B7 := hide h8
        clear h5 h6 h8 hstr
        go_wp2_with fail
        refine ⟨⟨j + 1, ms ++ [m], by omega, by go_num, by rw [List.length_append, HMS.out]; rfl, ?_, ?_, ?_, B7.out⟩, by simp [intOf]; omega⟩
        · intro x hx
          rcases List.mem_append.1 hx with h | h
          · exact HM.out x h
          · rw [List.mem_singleton.1 h]; exact M4.out
        · have e1 : (ms ++ [m]).flatten = ms.flatten ++ m := by simp
          have h := R5''.out
          rw [e1, List.length_append, List.length_flatten, hma]
          exact h
        · rw [List.map_append]
          have h := R6''.out
          rw [HTT.out] at h
          exact h
    · obtain rfl : j = us.length := by omega
      obtain ⟨N, hN⟩ : ∃ N, N = ms.flatten.length := ⟨_, rfl⟩
      rw [← hN] at R5 HFB
      have HN := hide hN
      clear hN
      obtain ⟨a5, c5, rfl⟩ := row_slice R5.out
      obtain ⟨a6, c6, rfl⟩ := row_slice R6.out
      have CA := hide (HK.out.alive wr)
      go_wp2_with fail
      refine CA.out.mono ?_
      rintro e w4 ⟨oa, ca, rfl, hs3, hwr3, hc3, hb3⟩
      have P4 := hide (apart_new R5.out hwr3 (by rw [alive_at.1]; decide))
      have R5' := hide (row_below R5.out hb3)
      have R6' := hide (row_below R6.out hb3)
      have S4 := hide hs3
      have C4 : Hid (camB oa 19 ca) := by rw [← alive_at.1]; exact hc3
      have B4 := hide (bthen BR.out hb3)
      clear hs3 hwr3 hc3 hb3 CA
      by_cases hct : 0 ≤ cut ∧ cut < 19
      · obtain ⟨k, rfl⟩ : ∃ k : Nat, cut = (k : Int) := ⟨cut.toNat, by omega⟩
        have hk19 : k < 19 := by omega
        have hk19' : (k : Int) < 19 := by omega
        have hkc : k ≤ ca := Nat.le_trans (by omega) C4.out.2.2
        have hkc' : (k : Int) ≤ (ca : Int) := by omega
        have hlen : (alive.take k).length = k := by rw [List.length_take, alive_at.1]; omega
        have C5 : Hid (camB oa k ca) := ⟨C4.out.1, C4.out.2.1, hkc⟩
        have S5 := hide (Bs.slot_take k S4.out)
        have L4 : Hid (N + k ≤ 1000000) := by have h2 := HFB.out; have h3 := HMS.out; have h4 := HL.out; show _ ≤ _; omega
        clear hct
        go_wp2_with (at_builtin; go_must (refine append_bytes (w0 := w) rfl _ _ rfl (.slice a5 N c5) N ms.flatten rfl R5'.out (.slice a6 us.length c6) us.length _ R6'.out oa k ca (alive.take k) rfl hlen S5.out C5.out P4.out L4.out B4.out ?_))
        intro v7 w6 h5 h6 _ h8
        obtain ⟨a7, c7, rfl⟩ := row_slice h5
        have E5 := hide h5
        have E6 := hide h6
        have E8 := hide h8
        clear h5 h6 h8 R5 R6 R5' R6' S4 S5 C4 C5 P4 B4 BR L4
        obtain ⟨s7, k7, n7, _⟩ := Bs.own E5.out
        have SP := hide (split_all ms (alive.take k) HM.out (by first | decide | omega))
        have CSP : Hid (Calls Try.prog 19 #[.slice a7 (N + k) c7] w6 fun e w' => ∃ og kg, e = .returned (.tuple #[.slice og us.length kg, .int .i64 (N : Int), .int .i64 0]) ∧ Bss.slot w' og ms ∧ Below w6.heap.size w6 w') := by
          have hcall := HKS.out a7 c7 (ms.flatten ++ alive.take k) (by have := HFB.out; have := HMS.out; have := HL.out; have := HN.out; omega) w6 s7 (n7 ▸ k7)
          rw [← n7] at hcall
          refine hcall.mono ?_
          rintro e w' ⟨ms', q', og, kg, rfl, hsp, hss, hb⟩
          obtain ⟨e1, e2⟩ := SP.out.det hsp
          rw [e1] at hss
          exact ⟨og, kg, by rw [e1, e2, HMS.out, ← HN.out], hss, hb⟩
        have B8 := hide E8.out
        have Q6 := hide E6.out
        clear s7 k7 n7 SP
        go_wp2_with fail
        refine CSP.out.mono ?_
        rintro e w9 ⟨og, kg, rfl, hss, hb9⟩
        have R9 := hide (row_below Q6.out hb9)
        have B9 := hide (bthen B8.out hb9)
        have G9 := hide hss
        clear hss hb9 CSP Q6 B8
        have hNN : ((N : Int) != (N : Int)) = false := by simp
        have hUU : ((us.length : Int) != (us.length : Int)) = false := by simp
        go_upto_region 22 with fail
        go_wp2_with fail
        go_loopw [15] (fun v wr => ∃ i : Nat, i ≤ us.length ∧ v = .int .i64 (i : Int) ∧ Below w9.heap.size w9 wr) (fun v _ => us.length - (intOf v).toNat)
        case atStart => exact ⟨0, Nat.zero_le _, rfl, brefl w9⟩
        case round =>
          obtain ⟨i, hi, rfl, hbx⟩ := hrel
          have BX := hide hbx
          by_cases hil : i < us.length
          · have hil' : (i : Int) < (us.length : Int) := by omega
            have hims : i < ms.length := by have := HMS.out; omega
            obtain ⟨g, off, rfl, hr⟩ : ∃ b off, og = some ⟨b, off, none⟩ ∧ ∀ j (h : j < ms.length), ∃ o c, wr.cell? ⟨b, off + j, none⟩ = some (.slice o ms[j].length c) ∧ Bs.slot wr o ms[j] ∧ camB o ms[j].length c := by
              rcases Bss.slot_below G9.out BX.out with h | h
              · rw [h] at hims; simp at hims
              · exact h
            obtain ⟨oj, cj, h1, h2, h3⟩ := hr i hims
            clear hr hbx
            obtain ⟨g6, rfl, h7⟩ := tx_at (row_below R9.out BX.out) (i := i) (by rw [List.length_map]; exact hims)
            rw [List.getElem_map] at h7
            generalize ms[i] = m at *
            obtain ⟨t, ht⟩ : ∃ t : ByteArray, t = ⟨m.toArray⟩ := ⟨_, rfl⟩
            rw [← ht] at h7
            have HS2 := hide h2
            have HS3 := hide h3
            have HTT := hide ht
            obtain ⟨M, hM⟩ : ∃ M, M = m.length := ⟨_, rfl⟩
            rw [← hM] at h1
            have HMM := hide hM
            clear ht h2 h3 hM
            have r1 := fun dd os => cell_regrown h1 dd os
            have r2 := fun dd os => cell_regrown h7 dd os
            have rs := fun dd os => str_at (W := Sort.grow (redrawn wr dd) os) HTT.out HMM.out (Bs.slot_below HS2.out (below_regrown wr dd os)) (HMM.out ▸ HS3.out)
            have hself := str_self t
            go_upto_region 25 with fail
            refine wp_region_quiet_below (by kernel_rfl) (by kernel_rfl) ?_
            repeat (go_big_quiet_step (fail))
            refine wpQuiet_nil ?_
            rintro _ ⟨⟨dd, os⟩, rfl⟩
            have hb3 := below_regrown wr dd os
            clear r1 r2 rs h1 h7
            generalize Sort.grow (redrawn wr dd) os = w3 at hb3
            have B3 := hide (bthen BX.out hb3)
            clear hb3
            go_wp2_with fail
            exact ⟨⟨i + 1, by omega, by go_num, B3.out⟩, by simp [intOf]; omega⟩
          · obtain rfl : i = us.length := by omega
            have BY := hide (bthen B9.out BX.out)
            go_wp2_with fail
            refine (CL.out _).mono ?_
            rintro e wz ⟨rfl, hbz⟩
            have BZ := hide (bthen BY.out hbz)
            clear hbz
            go_wp2_with fail
            go_ret
            exact ⟨rfl, BZ.out⟩
      · obtain ⟨a7, ha7⟩ : ∃ a, a = a5 := ⟨_, rfl⟩
        subst ha7
        obtain ⟨c7, hc7⟩ : ∃ a, a = c5 := ⟨_, rfl⟩
        subst hc7
        have hrest : ms.flatten = ms.flatten ++ [] := (List.append_nil _).symm
        have E5 := R5'
        rw [hrest] at E5
        clear hrest
        by_cases hc0 : 0 ≤ cut
        · have hc1 : ¬ cut < 19 := fun h => hct ⟨hc0, h⟩
          clear hct
          obtain ⟨s7, k7, n7, _⟩ := Bs.own E5.out
          have SP := hide (split_all ms ([]) HM.out (by first | decide | omega))
          have CSP : Hid (Calls Try.prog 19 #[.slice a7 (N) c7] w4 fun e w' => ∃ og kg, e = .returned (.tuple #[.slice og us.length kg, .int .i64 (N : Int), .int .i64 0]) ∧ Bss.slot w' og ms ∧ Below w4.heap.size w4 w') := by
            have hcall := HKS.out a7 c7 (ms.flatten ++ []) (by have := HFB.out; have := HMS.out; have := HL.out; have := HN.out; omega) w4 s7 (n7 ▸ k7)
            rw [← n7] at hcall
            refine hcall.mono ?_
            rintro e w' ⟨ms', q', og, kg, rfl, hsp, hss, hb⟩
            obtain ⟨e1, e2⟩ := SP.out.det hsp
            rw [e1] at hss
            exact ⟨og, kg, by rw [e1, e2, HMS.out, ← HN.out], hss, hb⟩
          have B8 := hide B4.out
          have Q6 := hide R6'.out
          clear s7 k7 n7 SP
          go_wp2_with fail
          refine CSP.out.mono ?_
          rintro e w9 ⟨og, kg, rfl, hss, hb9⟩
          have R9 := hide (row_below Q6.out hb9)
          have B9 := hide (bthen B8.out hb9)
          have G9 := hide hss
          clear hss hb9 CSP Q6 B8
          have hNN : ((N : Int) != (N : Int)) = false := by simp
          have hUU : ((us.length : Int) != (us.length : Int)) = false := by simp
          go_upto_region 22 with fail
          go_wp2_with fail
          go_loopw [15] (fun v wr => ∃ i : Nat, i ≤ us.length ∧ v = .int .i64 (i : Int) ∧ Below w9.heap.size w9 wr) (fun v _ => us.length - (intOf v).toNat)
          case atStart => exact ⟨0, Nat.zero_le _, rfl, brefl w9⟩
          case round =>
            obtain ⟨i, hi, rfl, hbx⟩ := hrel
            have BX := hide hbx
            by_cases hil : i < us.length
            · have hil' : (i : Int) < (us.length : Int) := by omega
              have hims : i < ms.length := by have := HMS.out; omega
              obtain ⟨g, off, rfl, hr⟩ : ∃ b off, og = some ⟨b, off, none⟩ ∧ ∀ j (h : j < ms.length), ∃ o c, wr.cell? ⟨b, off + j, none⟩ = some (.slice o ms[j].length c) ∧ Bs.slot wr o ms[j] ∧ camB o ms[j].length c := by
                rcases Bss.slot_below G9.out BX.out with h | h
                · rw [h] at hims; simp at hims
                · exact h
              obtain ⟨oj, cj, h1, h2, h3⟩ := hr i hims
              clear hr hbx
              obtain ⟨g6, rfl, h7⟩ := tx_at (row_below R9.out BX.out) (i := i) (by rw [List.length_map]; exact hims)
              rw [List.getElem_map] at h7
              generalize ms[i] = m at *
              obtain ⟨t, ht⟩ : ∃ t : ByteArray, t = ⟨m.toArray⟩ := ⟨_, rfl⟩
              rw [← ht] at h7
              have HS2 := hide h2
              have HS3 := hide h3
              have HTT := hide ht
              obtain ⟨M, hM⟩ : ∃ M, M = m.length := ⟨_, rfl⟩
              rw [← hM] at h1
              have HMM := hide hM
              clear ht h2 h3 hM
              have r1 := fun dd os => cell_regrown h1 dd os
              have r2 := fun dd os => cell_regrown h7 dd os
              have rs := fun dd os => str_at (W := Sort.grow (redrawn wr dd) os) HTT.out HMM.out (Bs.slot_below HS2.out (below_regrown wr dd os)) (HMM.out ▸ HS3.out)
              have hself := str_self t
              go_upto_region 25 with fail
              refine wp_region_quiet_below (by kernel_rfl) (by kernel_rfl) ?_
              repeat (go_big_quiet_step (fail))
              refine wpQuiet_nil ?_
              rintro _ ⟨⟨dd, os⟩, rfl⟩
              have hb3 := below_regrown wr dd os
              clear r1 r2 rs h1 h7
              generalize Sort.grow (redrawn wr dd) os = w3 at hb3
              have B3 := hide (bthen BX.out hb3)
              clear hb3
              go_wp2_with fail
              exact ⟨⟨i + 1, by omega, by go_num, B3.out⟩, by simp [intOf]; omega⟩
            · obtain rfl : i = us.length := by omega
              have BY := hide (bthen B9.out BX.out)
              go_wp2_with fail
              refine (CL.out _).mono ?_
              rintro e wz ⟨rfl, hbz⟩
              have BZ := hide (bthen BY.out hbz)
              clear hbz
              go_wp2_with fail
              go_ret
              exact ⟨rfl, BZ.out⟩
        · clear hct
          obtain ⟨s7, k7, n7, _⟩ := Bs.own E5.out
          have SP := hide (split_all ms ([]) HM.out (by first | decide | omega))
          have CSP : Hid (Calls Try.prog 19 #[.slice a7 (N) c7] w4 fun e w' => ∃ og kg, e = .returned (.tuple #[.slice og us.length kg, .int .i64 (N : Int), .int .i64 0]) ∧ Bss.slot w' og ms ∧ Below w4.heap.size w4 w') := by
            have hcall := HKS.out a7 c7 (ms.flatten ++ []) (by have := HFB.out; have := HMS.out; have := HL.out; have := HN.out; omega) w4 s7 (n7 ▸ k7)
            rw [← n7] at hcall
            refine hcall.mono ?_
            rintro e w' ⟨ms', q', og, kg, rfl, hsp, hss, hb⟩
            obtain ⟨e1, e2⟩ := SP.out.det hsp
            rw [e1] at hss
            exact ⟨og, kg, by rw [e1, e2, HMS.out, ← HN.out], hss, hb⟩
          have B8 := hide B4.out
          have Q6 := hide R6'.out
          clear s7 k7 n7 SP
          go_wp2_with fail
          refine CSP.out.mono ?_
          rintro e w9 ⟨og, kg, rfl, hss, hb9⟩
          have R9 := hide (row_below Q6.out hb9)
          have B9 := hide (bthen B8.out hb9)
          have G9 := hide hss
          clear hss hb9 CSP Q6 B8
          have hNN : ((N : Int) != (N : Int)) = false := by simp
          have hUU : ((us.length : Int) != (us.length : Int)) = false := by simp
          go_upto_region 22 with fail
          go_wp2_with fail
          go_loopw [15] (fun v wr => ∃ i : Nat, i ≤ us.length ∧ v = .int .i64 (i : Int) ∧ Below w9.heap.size w9 wr) (fun v _ => us.length - (intOf v).toNat)
          case atStart => exact ⟨0, Nat.zero_le _, rfl, brefl w9⟩
          case round =>
            obtain ⟨i, hi, rfl, hbx⟩ := hrel
            have BX := hide hbx
            by_cases hil : i < us.length
            · have hil' : (i : Int) < (us.length : Int) := by omega
              have hims : i < ms.length := by have := HMS.out; omega
              obtain ⟨g, off, rfl, hr⟩ : ∃ b off, og = some ⟨b, off, none⟩ ∧ ∀ j (h : j < ms.length), ∃ o c, wr.cell? ⟨b, off + j, none⟩ = some (.slice o ms[j].length c) ∧ Bs.slot wr o ms[j] ∧ camB o ms[j].length c := by
                rcases Bss.slot_below G9.out BX.out with h | h
                · rw [h] at hims; simp at hims
                · exact h
              obtain ⟨oj, cj, h1, h2, h3⟩ := hr i hims
              clear hr hbx
              obtain ⟨g6, rfl, h7⟩ := tx_at (row_below R9.out BX.out) (i := i) (by rw [List.length_map]; exact hims)
              rw [List.getElem_map] at h7
              generalize ms[i] = m at *
              obtain ⟨t, ht⟩ : ∃ t : ByteArray, t = ⟨m.toArray⟩ := ⟨_, rfl⟩
              rw [← ht] at h7
              have HS2 := hide h2
              have HS3 := hide h3
              have HTT := hide ht
              obtain ⟨M, hM⟩ : ∃ M, M = m.length := ⟨_, rfl⟩
              rw [← hM] at h1
              have HMM := hide hM
              clear ht h2 h3 hM
              have r1 := fun dd os => cell_regrown h1 dd os
              have r2 := fun dd os => cell_regrown h7 dd os
              have rs := fun dd os => str_at (W := Sort.grow (redrawn wr dd) os) HTT.out HMM.out (Bs.slot_below HS2.out (below_regrown wr dd os)) (HMM.out ▸ HS3.out)
              have hself := str_self t
              go_upto_region 25 with fail
              refine wp_region_quiet_below (by kernel_rfl) (by kernel_rfl) ?_
              repeat (go_big_quiet_step (fail))
              refine wpQuiet_nil ?_
              rintro _ ⟨⟨dd, os⟩, rfl⟩
              have hb3 := below_regrown wr dd os
              clear r1 r2 rs h1 h7
              generalize Sort.grow (redrawn wr dd) os = w3 at hb3
              have B3 := hide (bthen BX.out hb3)
              clear hb3
              go_wp2_with fail
              exact ⟨⟨i + 1, by omega, by go_num, B3.out⟩, by simp [intOf]; omega⟩
            · obtain rfl : i = us.length := by omega
              have BY := hide (bthen B9.out BX.out)
              go_wp2_with fail
              refine (CL.out _).mono ?_
              rintro e wz ⟨rfl, hbz⟩
              have BZ := hide (bthen BY.out hbz)
              clear hbz
              go_wp2_with fail
              go_ret
              exact ⟨rfl, BZ.out⟩
end Go.Proofs.Ytkhmhmopcofejaa
