/- The law LexBlanks. -/
import Derived.Test.YtdkfamlnmjhcfaaL4
namespace Go.Proofs.Ytdkfamlnmjhcfaa
open Go.RowKit Go.Sort

theorem plc_pre {a r : List UInt8} {k : Nat} (h : k ≤ a.length) : plc (a ++ r) k = plc a k := by
  unfold plc
  rw [List.take_append_of_le_length h]
/-- What is put between two texts. -/
def betw (a m b : List UInt8) : List UInt8 := a ++ 10 :: 32 :: 9 :: 35 :: (m ++ 10 :: 13 :: b)
theorem betw_scan {a m b : List UInt8} {ta tb : List Tok} (ha : Sc 0 a 2 ta none) (hb : Sc 0 b 2 tb none) (hm : ∀ c ∈ m, rmk c = true) : Sc 0 (betw a m b) 2 (ta ++ tb.map (Tok.by_ (a.length + m.length + 6))) none := by
  unfold betw
  refine ha.app rfl ?_
  refine Sc.blank (by decide) (Sc.blank (by decide) (Sc.remark hm (Sc.blank (by decide) (Sc.blank (by decide) ?_))))
  have h := hb.moved (a.length + m.length + 6) rfl
  rw [show 0 + a.length + 1 + 1 + 1 + (m.length + 1) + 1 + 1 = 0 + (a.length + m.length + 6) by omega]
  exact h
theorem Stand.le {l : List UInt8} {k : Nat} {ts : List Tok} (h : Stand l k ts) : ∀ t ∈ ts, t.at_ ≤ l.length := by
  induction h with
  | nil => intro t ht; simp at ht
  | cons h1 h2 _ _ ih =>
    intro t ht
    rcases List.mem_cons.1 ht with rfl | ht
    · omega
    · exact ih t ht
theorem lst_betw (a m b : ByteArray) : lst (a ++ ⟨#[10, 32, 9, 35]⟩ ++ m ++ ⟨#[10, 13]⟩ ++ b) = betw (lst a) (lst m) (lst b) := by
  simp [lst, betw]
theorem four_cells4 {w : World} {b y : Nat} {x0 x1 x2 x3 : Value} (h : w.heap[b]? = some (.cells #[x0, x1, x2, x3] y (0, 0))) : w.cell? ⟨b, 0, none⟩ = some x0 ∧ w.cell? ⟨b, 1, none⟩ = some x1 ∧ w.cell? ⟨b, 2, none⟩ = some x2 ∧ w.cell? ⟨b, 3, none⟩ = some x3 := by
  simp [World.cell?, h]
set_option maxHeartbeats 4000000 in
set_option maxRecDepth 100000 in
theorem law_blanks (K : Kit11) (a b m : ByteArray) (ha : a.size ≤ 140737488355328) (hb : b.size ≤ 140737488355328) (hm : m.size ≤ 140737488355328) (w : World) : Calls Try.prog 6 #[.string a, .string b, .string m] w fun e w' => e = .returned (.bool true) ∧ Below w.heap.size w w' := by
  have CL := hide (fun W => lives11_is K W)
  go_enter Try.func6, Try.ntmps6
  by_cases h4 : 3000 < a.size + b.size + m.size
  · have h4' : (3000 : Int) < (a.size : Int) + (b.size : Int) + (m.size : Int) := by omega
    clear h4
    go_wp2_with fail
    refine (CL.out _).mono ?_
    rintro e wz ⟨rfl, hbz⟩
    go_wp2_with fail
    go_ret
    exact ⟨rfl, hbz⟩
  · have h4' : ¬ (3000 : Int) < (a.size : Int) + (b.size : Int) + (m.size : Int) := by omega
    have hall : a.size + b.size + m.size ≤ 3000 := by omega
    clear h4 ha hb hm
    go_wp2_with fail
    go_loopw [7] (fun v7 wr => ∃ i : Nat, v7 = .int .i64 (i : Int) ∧ i ≤ m.size ∧ Hid (∀ c ∈ (lst m).take i, rmk c = true) ∧ w = wr) (fun v7 _ => m.size - (intOf v7).toNat)
    case atStart => exact ⟨0, rfl, Nat.zero_le _, fun c hc => by simp at hc, rfl⟩
    case round =>
      obtain ⟨i, rfl, him, HM, rfl⟩ := hrel
      rcases Nat.lt_or_ge i m.size with hlt | hge
      · have h1 : (i : Int) < (m.size : Int) := by omega
        have hil : i < (lst m).length := by simpa using hlt
        have hget : m[i] = (lst m)[i] := rfl
        by_cases h10 : (lst m)[i].toNat = 10
        · have e10 : (m[i].toNat : Int) = 10 := by rw [hget, h10]; rfl
          clear hget h10
          go_wp2_with fail
          refine (CL.out _).mono ?_
          rintro e wz ⟨rfl, hbz⟩
          go_wp2_with fail
          go_ret
          exact ⟨rfl, hbz⟩
        · have e10 : ¬ (m[i].toNat : Int) = 10 := by rw [hget]; omega
          have HM2 : Hid (∀ c ∈ (lst m).take (i + 1), rmk c = true) := fun c hc => by
            rw [List.take_succ_eq_append_getElem hil] at hc
            rcases List.mem_append.1 hc with h | h
            · exact HM.out c h
            · simp at h
              subst h
              unfold rmk
              rw [decide_eq_true_eq]
              exact h10
          clear hget h10 HM
          go_wp2_with fail
          exact ⟨⟨i + 1, by go_num, by omega, HM2, trivial⟩, by simp [intOf]; omega⟩
      · obtain rfl : i = m.size := by omega
        have h1 : ¬ (m.size : Int) < (m.size : Int) := by omega
        have HMM : Hid (∀ c ∈ lst m, rmk c = true) := fun c hc => HM.out c (by rw [List.take_of_length_le (by rw [lst_size]; omega)]; exact hc)
        clear HM
        have CA := hide (K.scan a (by omega) w)
        go_wp2_with fail
        refine CA.out.mono ?_
        rintro e w1 ⟨va, ta, pa, qa, ca, rfl, hra, hia, hba⟩
        have A1 := hide (balloc (brefl w1) (.cells #[.int .i64 pa, .int .i64 qa] 25))
        have B1 := hide (bthen hba A1.out)
        have RA1 := hide (row_below hra A1.out)
        have HIA := hide hia
        obtain ⟨aoa, cpa, rfl, _⟩ := Tv.slot_row (row_tv hra)
        rw [List.length_map] at RA1 ⊢
        clear CA hba hra hia
        obtain ⟨Na, hNa⟩ : ∃ N, ta.length = N := ⟨_, rfl⟩
        have HNA := hide hNa
        rw [hNa] at RA1 ⊢
        clear hNa
        go_upto_region 9 with fail
        generalize w1.alloc (.cells #[.int .i64 pa, .int .i64 qa] 25) = W1 at *
        clear A1
        have CB := hide (K.scan b (by omega) W1)
        go_wp2_with fail
        refine CB.out.mono ?_
        rintro e w2 ⟨vb, tb, pb, qb, cb, rfl, hrb, hib, hbb⟩
        have A2 := hide (balloc (brefl w2) (.cells #[.int .i64 pb, .int .i64 qb] 25))
        have B2 := hide (bthen (bthen B1.out hbb) A2.out)
        have RA2 := hide (row_below (row_below RA1.out hbb) A2.out)
        have RB2 := hide (row_below hrb A2.out)
        have HIB := hide hib
        obtain ⟨aob, cpb, rfl, _⟩ := Tv.slot_row (row_tv hrb)
        rw [List.length_map] at RB2 ⊢
        clear CB hbb hrb hib RA1 B1
        obtain ⟨Nb, hNb⟩ : ∃ N, tb.length = N := ⟨_, rfl⟩
        have HNB := hide hNb
        rw [hNb] at RB2 ⊢
        clear hNb
        go_upto_region 10 with fail
        generalize w2.alloc (.cells #[.int .i64 pb, .int .i64 qb] 25) = W2 at *
        clear A2
        by_cases hca : ca = 0
        · by_cases hcb : cb = 0
          · subst hca hcb
            obtain ⟨_, sca, rfl, rfl⟩ := HIA.out.ok rfl
            obtain ⟨_, scb, rfl, rfl⟩ := HIB.out.ok rfl
            have hNA : Na ≤ 3000 := by have := sca.count; rw [lst_size, HNA.out] at this; omega
            have hNB : Nb ≤ 3000 := by have := scb.count; rw [lst_size, HNB.out] at this; omega
            have HSA := hide sca
            have hsz : (a ++ ⟨#[10, 32, 9, 35]⟩ ++ m ++ ⟨#[10, 13]⟩ ++ b).size = a.size + 4 + m.size + 2 + b.size := by simp only [ByteArray.size_append]; rfl
            have HIS : Hid (Is (a ++ ⟨#[10, 32, 9, 35]⟩ ++ m ++ ⟨#[10, 13]⟩ ++ b) (ta ++ tb.map (Tok.by_ ((lst a).length + (lst m).length + 6))) 0 0 0) := by
              refine Is.of (by rw [hsz]; omega) ?_
              rw [lst_betw]
              exact betw_scan sca scb HMM.out
            have CC := hide (K.scan (a ++ ⟨#[10, 32, 9, 35]⟩ ++ m ++ ⟨#[10, 13]⟩ ++ b) (by rw [hsz]; omega) W2)
            have HLB := hide (lst_betw a m b)
            have hov1 : ¬ 9223372036854775807 < a.size + 4 := by omega
            have hov2 : ¬ 9223372036854775807 < a.size + 4 + m.size := by omega
            have hov3 : ¬ 9223372036854775807 < a.size + 4 + m.size + 2 := by omega
            have hov4 : ¬ 9223372036854775807 < a.size + 4 + m.size + 2 + b.size := by omega
            clear sca scb HIA HIB HMM hsz
            go_wp2_with fail
            refine CC.out.mono ?_
            rintro e w3 ⟨vc, tc, pc, qc, cc, rfl, hrc, hic, hbc⟩
            obtain ⟨rfl, rfl, rfl, rfl⟩ := hic.det HIS.out
            have A3 := hide (balloc (brefl w3) (.cells #[.int .i64 0, .int .i64 0] 25))
            have B3 := hide (bthen (bthen B2.out hbc) A3.out)
            have RA3 := hide (row_below (row_below RA2.out hbc) A3.out)
            have RB3 := hide (row_below (row_below RB2.out hbc) A3.out)
            have RC3 := hide (row_below hrc A3.out)
            obtain ⟨aoc, cpc, rfl, _⟩ := Tv.slot_row (row_tv hrc)
            have hlen : (ta ++ tb.map (Tok.by_ ((lst a).length + (lst m).length + 6))).length = Na + Nb := by rw [List.length_append, List.length_map, HNA.out, HNB.out]
            rw [List.length_map, hlen] at RC3 ⊢
            have HLEN := hide hlen
            clear CC hbc hrc hic RA2 RB2 B2 hlen hov1 hov2 hov3 hov4
            have hne : (((Na + Nb : Nat) : Int) != (Na : Int) + (Nb : Int)) = false := by simp
            have hne2 : ¬ ((Na + Nb : Nat) : Int) = (Na : Int) + (Nb : Int) → False := fun h => h (by omega)
            generalize a ++ ⟨#[10, 32, 9, 35]⟩ ++ m ++ ⟨#[10, 13]⟩ ++ b = S at *
            go_upto_region 13 with fail
            generalize w3.alloc (.cells #[.int .i64 0, .int .i64 0] 25) = W3 at *
            clear A3
            go_upto_region 15 with fail
            have hNS : Na + Nb ≤ 6000 := by omega
            clear hne hne2
            go_wp2_with fail
            obtain ⟨NN, hNN⟩ : ∃ NN, Na + Nb = NN := ⟨_, rfl⟩
            have HNNN := hide hNN
            have hNN6 : NN ≤ 6000 := by omega
            rw [hNN] at RC3 HLEN ⊢
            clear hNN hNS
            go_loopw [17] (fun v17 wr => ∃ i : Nat, v17 = .int .i64 (i : Int) ∧ i ≤ NN ∧ Hid (Below W3.heap.size W3 wr)) (fun v17 _ => NN - (intOf v17).toNat)
            case atStart => exact ⟨0, rfl, Nat.zero_le _, brefl W3⟩
            case round =>
              obtain ⟨i, rfl, hiN, HB⟩ := hrel
              rcases Nat.lt_or_ge i NN with hlt | hge
              · have h1 : (i : Int) < (NN : Int) := by omega
                have hi1 : i < (ta ++ tb.map (Tok.by_ ((lst a).length + (lst m).length + 6))).length := by rw [HLEN.out]; exact hlt
                obtain ⟨g, k1, e1, c0, c1, c2, c3⟩ := tok_at (l := lst S) (ts := ta ++ tb.map (Tok.by_ ((lst a).length + (lst m).length + 6))) (by rw [HLEN.out]; exact row_below RC3.out HB.out) i hi1
                simp only [Value.slice.injEq] at e1
                obtain ⟨rfl, hx9, rfl⟩ := e1
                clear hx9
                have hgw : g < wr.heap.size := World.block_lt_of_cell? _ _ c0
                rcases Nat.lt_or_ge i Na with hia | hia
                · have hia' : (i : Int) < (Na : Int) := by omega
                  have hi2 : i < ta.length := by rw [HNA.out]; exact hia
                  obtain ⟨g2, k2, e2, d0, d1, d2, d3⟩ := tok_at (l := lst a) (ts := ta) (by rw [HNA.out]; exact row_below RA3.out HB.out) i hi2
                  simp only [Value.slice.injEq] at e2
                  obtain ⟨rfl, hx9, rfl⟩ := e2
                  clear hx9
                  have hg2w : g2 < wr.heap.size := World.block_lt_of_cell? _ _ d0
                  rw [List.getElem_append_left hi2] at c0 c1 c2 c3
                  have hle : ta[i].at_ ≤ (lst a).length := (HSA.out.stand (l := lst a) rfl (Nat.zero_le _)).le _ (List.getElem_mem hi2)
                  rw [HLB.out, show betw (lst a) (lst m) (lst b) = lst a ++ 10 :: 32 :: 9 :: 35 :: (lst m ++ 10 :: 13 :: lst b) from rfl, plc_pre hle] at c2 c3
                  clear hle
                  generalize (ta[i].kind : Int) = kk at *
                  generalize txt ta[i].s = tt at *
                  generalize ((plc (lst a) ta[i].at_).1 : Int) = pp at *
                  generalize ((plc (lst a) ta[i].at_).2 : Int) = qq at *
                  have e5 : (pp == pp) = true := by simp
                  have e6 : (qq == qq) = true := by simp
                  have e7 : (tt == tt) = true := (Go.MapKept.bytes_beq tt tt).2 rfl
                  go_upto_region 22 with fail
                  have A9 := hide (balloc (brefl wr) (.cells #[.int .i64 kk, .string tt, .int .i64 pp, .int .i64 qq] 38))
                  have HN9 := hide (heap_new wr #[.int .i64 kk, .string tt, .int .i64 pp, .int .i64 qq] 38)
                  have HB9 := hide (bthen HB.out A9.out)
                  obtain ⟨nb, hnb⟩ : ∃ nb, wr.heap.size = nb := ⟨_, rfl⟩
                  rw [hnb] at HN9 ⊢
                  have c0 := (A9.out.cell (p := ⟨g, i * 4, none⟩) hgw).trans c0
                  have c1 := (A9.out.cell (p := ⟨g, i * 4 + 1, none⟩) hgw).trans c1
                  have c2 := (A9.out.cell (p := ⟨g, i * 4 + 2, none⟩) hgw).trans c2
                  have c3 := (A9.out.cell (p := ⟨g, i * 4 + 3, none⟩) hgw).trans c3
                  clear d0 d1 d2 d3 hg2w hgw A9 hnb
                  generalize wr.alloc (.cells #[.int .i64 kk, .string tt, .int .i64 pp, .int .i64 qq] 38) = W9 at *
                  obtain ⟨f0, f1, f2, f3⟩ := four_cells4 HN9.out
                  have rc0 := fun dd os => cell_regrown c0 dd os
                  have rc1 := fun dd os => cell_regrown c1 dd os
                  have rc2 := fun dd os => cell_regrown c2 dd os
                  have rc3 := fun dd os => cell_regrown c3 dd os
                  have rf0 := fun dd os => cell_regrown f0 dd os
                  have rf1 := fun dd os => cell_regrown f1 dd os
                  have rf2 := fun dd os => cell_regrown f2 dd os
                  have rf3 := fun dd os => cell_regrown f3 dd os
                  refine wp_region_quiet_below (by kernel_rfl) (by kernel_rfl) ?_
                  repeat (go_big_quiet_step (fail))
                  refine wpQuiet_nil ?_
                  rintro _ ⟨⟨dd, os⟩, rfl⟩
                  have hb1 := below_regrown W9 dd os
                  generalize Sort.grow (redrawn W9 dd) os = w6 at hb1
                  have HD := hide (bthen HB9.out hb1)
                  clear hb1
                  go_wp2_with fail
                  exact ⟨⟨i + 1, by go_num, by omega, HD⟩, by simp [intOf]; omega⟩
                · have hia' : ¬ (i : Int) < (Na : Int) := by omega
                  obtain ⟨j, hij⟩ : ∃ j, i = Na + j := ⟨i - Na, by omega⟩
                  have hj : j < Nb := by have := HNNN.out; omega
                  have hsub : (i : Int) - (Na : Int) = (j : Int) := by omega
                  have HIJ := hide hij
                  clear hij
                  have hj2 : j < tb.length := by rw [HNB.out]; exact hj
                  obtain ⟨g2, k2, e2, d0, d1, d2, d3⟩ := tok_at (l := lst b) (ts := tb) (by rw [HNB.out]; exact row_below RB3.out HB.out) j hj2
                  simp only [Value.slice.injEq] at e2
                  obtain ⟨rfl, hx9, rfl⟩ := e2
                  clear hx9
                  have hg2w : g2 < wr.heap.size := World.block_lt_of_cell? _ _ d0
                  have hget : (ta ++ tb.map (Tok.by_ ((lst a).length + (lst m).length + 6)))[i] = Tok.by_ ((lst a).length + (lst m).length + 6) tb[j] := by
                    rw [List.getElem_append_right (by rw [HNA.out]; omega), List.getElem_map]
                    congr 2
                    rw [HNA.out, HIJ.out]
                    omega
                  rw [hget] at c0 c1 c2 c3
                  simp only [Tok.by_] at c0 c1
                  clear hget
                  generalize (tb[j].kind : Int) = kk at *
                  generalize txt tb[j].s = tt at *
                  generalize ((plc (lst b) tb[j].at_).1 : Int) = pp at *
                  generalize ((plc (lst b) tb[j].at_).2 : Int) = qq at *
                  clear c2 c3
                  have e7 : (tt == tt) = true := (Go.MapKept.bytes_beq tt tt).2 rfl
                  have hjb : (j : Int) < (Nb : Int) := by omega
                  go_upto_region 22 with fail
                  have A9 := hide (balloc (brefl wr) (.cells #[.int .i64 kk, .string tt, .int .i64 pp, .int .i64 qq] 38))
                  have HN9 := hide (heap_new wr #[.int .i64 kk, .string tt, .int .i64 pp, .int .i64 qq] 38)
                  have HB9 := hide (bthen HB.out A9.out)
                  obtain ⟨nb, hnb⟩ : ∃ nb, wr.heap.size = nb := ⟨_, rfl⟩
                  rw [hnb] at HN9 ⊢
                  have c0 := (A9.out.cell (p := ⟨g, i * 4, none⟩) hgw).trans c0
                  have c1 := (A9.out.cell (p := ⟨g, i * 4 + 1, none⟩) hgw).trans c1
                  clear d0 d1 d2 d3 hg2w hgw A9 hnb
                  generalize wr.alloc (.cells #[.int .i64 kk, .string tt, .int .i64 pp, .int .i64 qq] 38) = W9 at *
                  obtain ⟨f0, f1, f2, f3⟩ := four_cells4 HN9.out
                  have rc0 := fun dd os => cell_regrown c0 dd os
                  have rc1 := fun dd os => cell_regrown c1 dd os
                  have rf0 := fun dd os => cell_regrown f0 dd os
                  have rf1 := fun dd os => cell_regrown f1 dd os
                  have rf2 := fun dd os => cell_regrown f2 dd os
                  have rf3 := fun dd os => cell_regrown f3 dd os
                  refine wp_region_quiet_below (by kernel_rfl) (by kernel_rfl) ?_
                  repeat (go_big_quiet_step (fail))
                  refine wpQuiet_nil ?_
                  rintro _ ⟨⟨dd, os⟩, rfl⟩
                  have hb1 := below_regrown W9 dd os
                  generalize Sort.grow (redrawn W9 dd) os = w6 at hb1
                  have HD := hide (bthen HB9.out hb1)
                  clear hb1
                  go_wp2_with fail
                  exact ⟨⟨i + 1, by go_num, by omega, HD⟩, by simp [intOf]; omega⟩
              · have h1 : ¬ (i : Int) < (NN : Int) := by omega
                go_wp2_with fail
                refine (CL.out _).mono ?_
                rintro e wz ⟨rfl, hbz⟩
                have BZ := hide (bthen (bthen B3.out HB.out) hbz)
                clear hbz
                go_wp2_with fail
                go_ret
                exact ⟨rfl, BZ.out⟩
          · have hcb' : (cb != 0) = true := by rw [bne_iff_ne]; exact hcb
            subst hca
            go_wp2_with fail
            refine (CL.out _).mono ?_
            rintro e wz ⟨rfl, hbz⟩
            have BZ := hide (bthen B2.out hbz)
            clear hbz
            go_wp2_with fail
            go_ret
            exact ⟨rfl, BZ.out⟩
        · have hca' : (ca != 0) = true := by rw [bne_iff_ne]; exact hca
          go_wp2_with fail
          refine (CL.out _).mono ?_
          rintro e wz ⟨rfl, hbz⟩
          have BZ := hide (bthen B2.out hbz)
          clear hbz
          go_wp2_with fail
          go_ret
          exact ⟨rfl, BZ.out⟩
end Go.Proofs.Ytdkfamlnmjhcfaa
