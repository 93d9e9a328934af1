/- The law LexBack. -/
import Derived.Test.YtdkfamlnmjhcfaaK3
namespace Go.Proofs.Ytdkfamlnmjhcfaa
open Go.RowKit Go.Sort

set_option maxHeartbeats 2000000 in
set_option maxRecDepth 100000 in
theorem law_back (K : Kit11) (s : ByteArray) (w : World) : Calls Try.prog 4 #[.string s] w fun e w' => e = .returned (.bool true) ∧ Below w.heap.size w w' := by
  have CL := hide (fun W => lives11_is K W)
  go_enter Try.func4, Try.ntmps4
  by_cases h4 : 4000 < s.size
  · have h4' : (4000 : Int) < (s.size : Int) := by omega
    clear h4
    go_wp2_with fail
    refine (CL.out _).mono ?_
    rintro e wz ⟨rfl, hbz⟩
    go_wp2_with fail
    go_ret
    exact ⟨rfl, hbz⟩
  · have h4' : ¬ (4000 : Int) < (s.size : Int) := by omega
    have CS := hide (K.scan s (by omega) w)
    go_wp2_with fail
    refine CS.out.mono ?_
    rintro e w1 ⟨v, ts, p, q, c, rfl, hr, hi, hb⟩
    clear CS
    have A1 := hide (balloc (brefl w1) (.cells #[.int .i64 p, .int .i64 q] 25))
    have B1 := hide (bthen hb A1.out)
    have R1 := hide (row_below hr A1.out)
    clear hb
    by_cases hc : c = 0
    · subst hc
      obtain ⟨h8, hsc, rfl, rfl⟩ := hi.ok rfl
      have HG := hide hsc.good
      have HN : Hid (ts.length ≤ 100000) := by have := hsc.count; rw [lst_size] at this; show _ ≤ _; omega
      have HS := hide hsc
      obtain ⟨ao, cp, rfl, _⟩ := Tv.slot_row (row_tv hr)
      rw [List.length_map] at R1
      have CJ := hide (K.joined HG.out HN.out R1.out)
      obtain ⟨J, hJ⟩ : ∃ J, txt (jn (ts.map Tok.bare)) = J := ⟨_, rfl⟩
      have HJ := hide hJ
      rw [hJ] at CJ
      obtain ⟨N, hN⟩ : ∃ N, ts.length = N := ⟨_, rfl⟩
      have HNN := hide hN
      rw [List.length_map]
      rw [hN] at CJ R1 ⊢
      clear hr hi hsc hJ hN h8
      go_wp2_with fail
      refine CJ.out.mono ?_
      rintro e w2 ⟨rfl, hb2⟩
      have B2 := hide (bthen B1.out hb2)
      have R2 := hide (row_below R1.out hb2)
      clear hb2 CJ R1 A1 B1
      by_cases h8 : 8192 < J.size
      · have h8' : (8192 : Int) < (J.size : Int) := by omega
        go_wp2_with fail
        refine (CL.out _).mono ?_
        rintro e wz ⟨rfl, hbz⟩
        have BZ := hide (bthen B2.out hbz)
        clear hbz
        go_wp2_with fail
        go_ret
        exact ⟨rfl, BZ.out⟩
      · have h8' : ¬ (8192 : Int) < (J.size : Int) := by omega
        obtain ⟨ts2, hi2, hbare⟩ := back HS.out (by rw [← txt_size, HJ.out]; omega)
        rw [HJ.out] at hi2
        have HI2 := hide hi2
        have HBR := hide hbare
        have CS := hide (K.scan J (by omega) w2)
        clear hi2 hbare
        go_wp2_with fail
        refine CS.out.mono ?_
        rintro e w3 ⟨v3, ts3, p3, q3, c3, rfl, hr3, hi3, hb3⟩
        obtain ⟨rfl, rfl, rfl, rfl⟩ := hi3.det HI2.out
        have hl3 : ts3.length = N := by have := congrArg List.length HBR.out; rw [List.length_map, List.length_map] at this; exact this.trans HNN.out
        have A3 := hide (balloc (brefl w3) (.cells #[.int .i64 0, .int .i64 0] 25))
        have B3 := hide (bthen (bthen B2.out hb3) A3.out)
        have R3 := hide (row_below (row_below R2.out hb3) A3.out)
        have R4 := hide (row_below hr3 A3.out)
        obtain ⟨ao3, cp3, rfl, _⟩ := Tv.slot_row (row_tv hr3)
        rw [List.length_map, hl3] at R4
        rw [List.length_map, hl3]
        have HG3 : Hid (∀ t ∈ ts3, Good t.kind t.s) := (hi3.ok rfl).2.1.good
        have CJ : Hid (Calls Try.prog 8 #[.slice ao3 N cp3] (w3.alloc (.cells #[.int .i64 0, .int .i64 0] 25)) fun e w' => e = .returned (.string J) ∧ Below (w3.alloc (.cells #[.int .i64 0, .int .i64 0] 25)).heap.size (w3.alloc (.cells #[.int .i64 0, .int .i64 0] 25)) w') := by
          have h := K.joined HG3.out (l := lst J) (B := w2.heap.size) (v := .slice ao3 N cp3) (w := w3.alloc (.cells #[.int .i64 0, .int .i64 0] 25)) (by rw [hl3]; have := HN.out; have := HNN.out; omega) (by rw [hl3]; exact R4.out)
          rw [HBR.out, HJ.out] at h
          exact h
        have HL3 := hide hl3
        have hnn : ((N : Int) != (N : Int)) = false := by simp
        clear hr3 hi3 hb3 hl3 CS A3 R2 B2
        go_wp2_with fail
        refine CJ.out.mono ?_
        rintro e w4 ⟨rfl, hb4⟩
        have B4 := hide (bthen B3.out hb4)
        have R5 := hide (row_below R3.out hb4)
        have R6 := hide (row_below R4.out hb4)
        clear hb4 CJ R3 R4 B3
        go_wp2_with fail
        go_loopw [10] (fun v10 wr => ∃ i : Nat, v10 = .int .i64 (i : Int) ∧ i ≤ N ∧ Hid (Below w4.heap.size w4 wr)) (fun v10 _ => N - (intOf v10).toNat)
        case atStart => exact ⟨0, rfl, Nat.zero_le _, brefl w4⟩
        case round =>
          obtain ⟨i, rfl, hiN, HB⟩ := hrel
          have hNb : N ≤ 100000 := by rw [← HNN.out]; exact HN.out
          rcases Nat.lt_or_ge i N with hlt | hge
          · have h1 : (i : Int) < (N : Int) := by omega
            have hi1 : i < ts.length := by rw [HNN.out]; exact hlt
            have hi3 : i < ts3.length := by rw [HL3.out]; exact hlt
            obtain ⟨g1, k1, e1, a1, a2, _, _⟩ := tok_at (l := lst s) (ts := ts) (by rw [HNN.out]; exact row_below R5.out HB.out) i hi1
            obtain ⟨g3, k3, e3, b1, b2, _, _⟩ := tok_at (l := lst J) (ts := ts3) (by rw [HL3.out]; exact row_below R6.out HB.out) i hi3
            obtain ⟨hk, hs⟩ := bare_at HBR.out i hi1 hi3
            rw [hk] at b1
            rw [hs] at b2
            simp only [Value.slice.injEq] at e1 e3
            obtain ⟨rfl, _, rfl⟩ := e1
            obtain ⟨rfl, _, rfl⟩ := e3
            generalize (ts[i].kind : Int) = kk at *
            generalize txt ts[i].s = tt at *
            clear hk hs
            have ra1 := fun dd os => cell_regrown a1 dd os
            have ra2 := fun dd os => cell_regrown a2 dd os
            have rb1 := fun dd os => cell_regrown b1 dd os
            have rb2 := fun dd os => cell_regrown b2 dd os
            go_wp2_with fail
            refine wp_region_quiet_below (by kernel_rfl) (by kernel_rfl) ?_
            repeat (go_big_quiet_step (fail))
            refine wpQuiet_nil ?_
            rintro _ ⟨⟨dd, os⟩, rfl⟩
            have hb1 := below_regrown wr dd os
            generalize Sort.grow (redrawn wr dd) os = w6 at hb1
            have HD := hide (bthen HB.out hb1)
            clear hb1 ra1 ra2 rb1 rb2 a1 a2 b1 b2
            go_wp2_with fail
            exact ⟨⟨i + 1, by go_num, by omega, HD⟩, by simp [intOf]; omega⟩
          · have h1 : ¬ (i : Int) < (N : Int) := by omega
            go_wp2_with fail
            refine (CL.out _).mono ?_
            rintro e wz ⟨rfl, hbz⟩
            have BZ := hide (bthen (bthen B4.out HB.out) hbz)
            clear hbz
            go_wp2_with fail
            go_ret
            exact ⟨rfl, BZ.out⟩
    · obtain rfl := hi.no hc
      have hc' : (c != 0) = true := by rw [bne_iff_ne]; exact hc
      obtain ⟨ao, cp, rfl, _⟩ := Tv.slot_row (row_tv hr)
      clear hr R1 A1 hi
      go_wp2_with fail
      refine (CL.out _).mono ?_
      rintro e wz ⟨rfl, hbz⟩
      have BZ := hide (bthen B1.out hbz)
      clear hbz
      go_wp2_with fail
      go_ret
      exact ⟨rfl, BZ.out⟩
end Go.Proofs.Ytdkfamlnmjhcfaa
