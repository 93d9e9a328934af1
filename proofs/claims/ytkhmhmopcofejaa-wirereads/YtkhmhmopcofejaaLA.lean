import Derived.Test.YtkhmhmopcofejaaKA
/- The law WireReads. -/
namespace Go.Proofs.Ytkhmhmopcofejaa
open Go.RowKit Go.Sort

theorem Up.may_fit {u : Up} (h : u.may) : u.fits := ⟨fun x hx => ⟨(h.1.2.1 x hx).1, (h.1.2.1 x hx).2.1⟩, fun x hx => ⟨(h.2.1.2.1 x hx).1, (h.2.1.2.1 x hx).2.1⟩⟩
theorem Up.may_few {u : Up} (h : u.may) : u.Few := by
  have h1 := h.1.1
  have h2 := h.2.1.1
  by_cases ht : u.td = []
  · have h3 := h.2.2.2
    rw [if_pos ht] at h3
    exact ⟨by omega, by omega, by rw [h3]; decide, by rw [h3]; decide, by rw [h3]; decide⟩
  · have hf := Up.may_fits h ht
    have a1 := hf.lp
    have a2 := hf.lc
    have a3 := hf.lk
    exact ⟨by omega, by omega, by omega, by omega, by omega⟩
theorem Up.zero_few : Up.zero.Few := ⟨by decide, by decide, by decide, by decide, by decide⟩
theorem str_self (s : ByteArray) : (s.toList == s.toList) = true := by simp
set_option maxHeartbeats 4000000 in
set_option maxRecDepth 100000 in
theorem law_reads (K : Kit10) (ao : Option Addr) (c : Nat) (l : List UInt8) (w : World) (hA : Bs.slot w ao l) (hc : camB ao l.length c) :
    Calls Try.prog 4 #[.slice ao l.length c] w fun e w' => e = .returned (.bool true) ∧ Below w.heap.size w w' := by
  have CL := hide (fun W => lives10_is K W)
  by_cases hl : 65536 < l.length
  · have hl' : (65536 : Int) < (l.length : Int) := by omega
    clear hl hA hc K
    go_enter Try.func4, Try.ntmps4
    go_wp2_with fail
    refine (CL.out _).mono ?_
    rintro e w1 ⟨rfl, hb1⟩
    have B1 := hide hb1
    clear hb1
    go_wp2_with fail
    go_ret
    exact ⟨rfl, B1.out⟩
  · have hl' : ¬ (65536 : Int) < (l.length : Int) := by omega
    have CD := hide (K.decode ao c l (by omega) w hA hc)
    have HA := hide hA
    have HC := hide hc
    clear hl hA hc K
    go_enter Try.func4, Try.ntmps4
    go_wp2_with fail
    refine CD.out.mono ?_
    rintro e w1 ⟨r, q, wo, tq, po, co, ko, cw, ct, cp, cc, ck, rfl, hd, hli, _, hb1⟩
    have B1 := hide hb1
    have HLI := hide hli
    clear hb1 hli CD
    rcases hd with ⟨hlt, rfl, rfl⟩ | ⟨hge, hm, he, rfl⟩ | ⟨hge, _, rfl, rfl⟩
    · have hlt' : (l.length : Int) < 19 := by omega
      have B2 := hide (bthen B1.out (balloc (brefl w1) (.cells #[.slice wo 0 cw, .slice tq 0 ct, .int .i64 0, .int .i64 0, .int .i64 0, .slice po 0 cp, .slice co 0 cc, .int .i64 0, .slice ko 0 ck] 35)))
      clear hlt HLI HA HC
      simp only [Up.zero, List.length_nil] at *
      go_wp2_with fail
      refine (CL.out _).mono ?_
      rintro e w2 ⟨rfl, hb2⟩
      have B3 := hide (bthen B2.out hb2)
      clear hb2
      go_wp2_with fail
      go_ret
      exact ⟨rfl, B3.out⟩
    · obtain ⟨t, ht⟩ : ∃ t : ByteArray, t = ⟨l.toArray⟩ := ⟨_, rfl⟩
      have B2 := hide (bthen B1.out (balloc (brefl w1) (.cells #[.slice wo r.wd.length cw, .slice tq r.td.length ct, .int .i64 r.at_.pf, .int .i64 r.at_.md, .int .i64 r.at_.og, .slice po r.at_.path.length cp, .slice co r.at_.comms.length cc, .int .i64 r.at_.fr, .slice ko r.at_.cl.length ck] 35)))
      have A2 := hide (balloc (brefl w1) (.cells #[.slice wo r.wd.length cw, .slice tq r.td.length ct, .int .i64 r.at_.pf, .int .i64 r.at_.md, .int .i64 r.at_.og, .slice po r.at_.path.length cp, .slice co r.at_.comms.length cc, .int .i64 r.at_.fr, .slice ko r.at_.cl.length ck] 35))
      have N2 := hide (heap_new w1 #[.slice wo r.wd.length cw, .slice tq r.td.length ct, .int .i64 r.at_.pf, .int .i64 r.at_.md, .int .i64 r.at_.og, .slice po r.at_.path.length cp, .slice co r.at_.comms.length cc, .int .i64 r.at_.fr, .slice ko r.at_.cl.length ck] 35)
      have hself := str_self t
      go_upto_region 6 with fail
      have CT := hide (fun W' => theirs_is r wo tq po co ko cw ct cp cc ck W')
      have CM := hide (fun W' (hb : Below (w1.alloc (.cells #[.slice wo r.wd.length cw, .slice tq r.td.length ct, .int .i64 r.at_.pf, .int .i64 r.at_.md, .int .i64 r.at_.og, .slice po r.at_.path.length cp, .slice co r.at_.comms.length cc, .int .i64 r.at_.fr, .slice ko r.at_.cl.length ck] 35)).heap.size (w1.alloc (.cells #[.slice wo r.wd.length cw, .slice tq r.td.length ct, .int .i64 r.at_.pf, .int .i64 r.at_.md, .int .i64 r.at_.og, .slice po r.at_.path.length cp, .slice co r.at_.comms.length cc, .int .i64 r.at_.fr, .slice ko r.at_.cl.length ck] 35)) W') => refMayU_is r wo tq po co ko cw ct cp cc ck true ⟨fun _ => hm, fun _ => rfl⟩ (Up.may_fit hm) (Up.may_few hm) W' (Up.lies_below HLI.out (bthen A2.out hb)))
      have CE := hide (fun W' (hb : Below (w1.alloc (.cells #[.slice wo r.wd.length cw, .slice tq r.td.length ct, .int .i64 r.at_.pf, .int .i64 r.at_.md, .int .i64 r.at_.og, .slice po r.at_.path.length cp, .slice co r.at_.comms.length cc, .int .i64 r.at_.fr, .slice ko r.at_.cl.length ck] 35)).heap.size (w1.alloc (.cells #[.slice wo r.wd.length cw, .slice tq r.td.length ct, .int .i64 r.at_.pf, .int .i64 r.at_.md, .int .i64 r.at_.og, .slice po r.at_.path.length cp, .slice co r.at_.comms.length cc, .int .i64 r.at_.fr, .slice ko r.at_.cl.length ck] 35)) W') => refEncU_is r wo tq po co ko cw ct cp cc ck t (by rw [ht, he]) hm W' (Up.lies_below HLI.out (bthen A2.out hb)))
      have SS := hide (fun W' (hb : Below (w1.alloc (.cells #[.slice wo r.wd.length cw, .slice tq r.td.length ct, .int .i64 r.at_.pf, .int .i64 r.at_.md, .int .i64 r.at_.og, .slice po r.at_.path.length cp, .slice co r.at_.comms.length cc, .int .i64 r.at_.fr, .slice ko r.at_.cl.length ck] 35)).heap.size (w1.alloc (.cells #[.slice wo r.wd.length cw, .slice tq r.td.length ct, .int .i64 r.at_.pf, .int .i64 r.at_.md, .int .i64 r.at_.og, .slice po r.at_.path.length cp, .slice co r.at_.comms.length cc, .int .i64 r.at_.fr, .slice ko r.at_.cl.length ck] 35)) W') => str_at (W := W') ht rfl (Bs.slot_below HA.out (bthen B2.out hb)) HC.out)
      obtain ⟨c0, c1, c2, c3, c4, c5, c6, c7, c8⟩ := nine_cells N2.out
      clear ht hm he hge HLI HA HC A2 N2
      generalize w1.alloc (.cells #[.slice wo r.wd.length cw, .slice tq r.td.length ct, .int .i64 r.at_.pf, .int .i64 r.at_.md, .int .i64 r.at_.og, .slice po r.at_.path.length cp, .slice co r.at_.comms.length cc, .int .i64 r.at_.fr, .slice ko r.at_.cl.length ck] 35) = W2 at *
      generalize w1.heap.size = p at *
      have r0 := fun dd os => cell_regrown c0 dd os
      have r1 := fun dd os => cell_regrown c1 dd os
      have r2 := fun dd os => cell_regrown c2 dd os
      have r3 := fun dd os => cell_regrown c3 dd os
      have r4 := fun dd os => cell_regrown c4 dd os
      have r5 := fun dd os => cell_regrown c5 dd os
      have r6 := fun dd os => cell_regrown c6 dd os
      have r7 := fun dd os => cell_regrown c7 dd os
      have r8 := fun dd os => cell_regrown c8 dd os
      have rs := fun dd os => SS.out _ (below_regrown W2 dd os)
      clear c0 c1 c2 c3 c4 c5 c6 c7 c8 SS
      refine wp_region_quiet_below (by kernel_rfl) (by kernel_rfl) ?_
      repeat (go_big_quiet_step ((first | (go_at_call 17; exact Calls.regrown_of (CT.out _)) | (go_at_call 10; exact Calls.regrown_of (CM.out _ (below_regrown _ _ _))) | (go_at_call 15; exact Calls.regrown_of (CE.out _ (below_regrown _ _ _))) | (go_at_call 9; exact Calls.regrown_of (CL.out _)))))
      refine wpQuiet_nil ?_
      rintro _ ⟨⟨dd, os⟩, rfl⟩
      have hb3 := below_regrown W2 dd os
      generalize Sort.grow (redrawn W2 dd) os = w3 at hb3
      have B3 := hide (bthen B2.out hb3)
      clear hb3
      go_wp2_with fail
      go_ret
      exact ⟨rfl, B3.out⟩
    · have hge' : (19 : Int) ≤ (l.length : Int) := by omega
      have B2 := hide (bthen B1.out (balloc (brefl w1) (.cells #[.slice wo 0 cw, .slice tq 0 ct, .int .i64 0, .int .i64 0, .int .i64 0, .slice po 0 cp, .slice co 0 cc, .int .i64 0, .slice ko 0 ck] 35)))
      have A2 := hide (balloc (brefl w1) (.cells #[.slice wo 0 cw, .slice tq 0 ct, .int .i64 0, .int .i64 0, .int .i64 0, .slice po 0 cp, .slice co 0 cc, .int .i64 0, .slice ko 0 ck] 35))
      have CT := hide (fun W' => theirs_is Up.zero wo tq po co ko cw ct cp cc ck W')
      have CS := hide (fun W' (hb : Below w1.heap.size w1 W') => refSameU_is Up.zero wo tq po co ko cw ct cp cc ck Up.zero none none none none none 0 0 0 0 0 true ⟨fun _ => rfl, fun _ => rfl⟩ Up.zero_few Up.zero_few W' (Up.lies_below HLI.out hb) ⟨.inl rfl, .inl rfl, .inl rfl, .inl rfl, .inl rfl⟩)
      clear hge HLI HA HC
      simp only [Up.zero, List.length_nil] at *
      go_wp2_with fail
      refine (CT.out _).mono ?_
      rintro e w2 ⟨rfl, hb2⟩
      have A3 := hide (bthen A2.out hb2)
      have B3 := hide (bthen B2.out hb2)
      clear hb2 CT
      go_wp2_with fail
      refine (CS.out _ A3.out).mono ?_
      rintro e w3 ⟨rfl, hb3⟩
      have B4 := hide (bthen B3.out hb3)
      clear hb3 CS
      go_wp2_with fail
      refine (CL.out _).mono ?_
      rintro e w4 ⟨rfl, hb4⟩
      have B5 := hide (bthen B4.out hb4)
      clear hb4
      go_wp2_with fail
      go_ret
      exact ⟨rfl, B5.out⟩
end Go.Proofs.Ytkhmhmopcofejaa
