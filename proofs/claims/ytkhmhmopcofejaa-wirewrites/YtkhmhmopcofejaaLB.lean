import Derived.Test.YtkhmhmopcofejaaLA
/- The law WireWrites. -/
namespace Go.Proofs.Ytkhmhmopcofejaa
open Go.RowKit Go.Sort

set_option maxHeartbeats 8000000 in
set_option maxRecDepth 100000 in
theorem law_writes (K : Kit10) (u : Up) (wo tq po co ko : Option Addr) (cw ct cp cc ck : Nat) (hf : u.fits) (w : World) (hU : Up.lies w u wo tq po co ko) (hC : Up.came u wo tq po co ko cw ct cp cc ck) :
    Calls Try.prog 3 #[.agg #[.slice wo u.wd.length cw, .slice tq u.td.length ct, .int .i64 u.at_.pf, .int .i64 u.at_.md, .int .i64 u.at_.og, .slice po u.at_.path.length cp, .slice co u.at_.comms.length cc, .int .i64 u.at_.fr, .slice ko u.at_.cl.length ck]] w fun e w' => e = .returned (.bool true) ∧ Below w.heap.size w w' := by
  have HB := hide (balloc (brefl w) (.cells #[.slice wo u.wd.length cw, .slice tq u.td.length ct, .int .i64 u.at_.pf, .int .i64 u.at_.md, .int .i64 u.at_.og, .slice po u.at_.path.length cp, .slice co u.at_.comms.length cc, .int .i64 u.at_.fr, .slice ko u.at_.cl.length ck] 28))
  have N0 := hide (heap_new w #[.slice wo u.wd.length cw, .slice tq u.td.length ct, .int .i64 u.at_.pf, .int .i64 u.at_.md, .int .i64 u.at_.og, .slice po u.at_.path.length cp, .slice co u.at_.comms.length cc, .int .i64 u.at_.fr, .slice ko u.at_.cl.length ck] 28)
  have HL := hide (Up.lies_below hU HB.out)
  have HC := hide hC
  have HF := hide hf
  have CL := hide (fun W => lives10_is K W)
  obtain ⟨fw, hfw⟩ : ∃ r, u.few = r := ⟨_, rfl⟩
  have CF := hide (fun W => fewU_is u wo tq po co ko cw ct cp cc ck fw hfw W)
  have HFW := hide hfw
  have HK := hide K
  clear hU hC hf hfw K
  go_enter Try.func3, Try.ntmps3
  go_wp2_with fail
  generalize w.alloc (.cells #[.slice wo u.wd.length cw, .slice tq u.td.length ct, .int .i64 u.at_.pf, .int .i64 u.at_.md, .int .i64 u.at_.og, .slice po u.at_.path.length cp, .slice co u.at_.comms.length cc, .int .i64 u.at_.fr, .slice ko u.at_.cl.length ck] 28) = W at *
  obtain ⟨p, hp⟩ : ∃ p, w.heap.size = p := ⟨_, rfl⟩
  rw [hp] at N0
  rw [hp]
  clear hp
  have PL := hide (heap_lt N0.out)
  refine (CF.out _).mono ?_
  rintro e w1 ⟨rfl, hb1⟩
  have B1 := hide hb1
  clear hb1 CF
  cases fw
  · go_wp2_with fail
    refine (CL.out _).mono ?_
    rintro e w2 ⟨rfl, hb2⟩
    have B2 := hide (bthen B1.out hb2)
    clear hb2
    go_wp2_with fail
    go_ret
    exact ⟨rfl, bthen HB.out B2.out⟩
  have HW := hide ((Up.few_iff u).1 HFW.out)
  clear HFW
  obtain ⟨m, hm⟩ : ∃ m : Bool, m = true ↔ u.may := ⟨@decide u.may (Classical.propDecidable _), by simp⟩
  have CM := hide (fun W' (hb : Below W.heap.size W W') => refMayU_is u wo tq po co ko cw ct cp cc ck m hm HF.out HW.out W' (Up.lies_below HL.out hb))
  have CK := hide (fun W' (hb : Below W.heap.size W W') => HK.out.may u wo tq po co ko cw ct cp cc ck m hm HF.out HW.out W' (Up.lies_below HL.out hb) HC.out)
  have CI := hide (fun W' => mine_is u wo tq po co ko cw ct cp cc ck W')
  have CE := hide (fun W' (hb : Below W.heap.size W W') => HK.out.encode u wo tq po co ko cw ct cp cc ck HF.out HW.out W' (Up.lies_below HL.out hb) HC.out)
  have HM := hide hm
  clear hm
  obtain ⟨c0, c1, c2, c3, c4, c5, c6, c7, c8⟩ := nine_cells ((B1.out.block p PL.out).trans N0.out)
  go_wp2_with fail
  refine (CM.out _ B1.out).mono ?_
  rintro e w2 ⟨rfl, hb2⟩
  have B2 := hide (bthen B1.out hb2)
  clear hb2 CM c0 c1 c2 c3 c4 c5 c6 c7 c8
  obtain ⟨c0, c1, c2, c3, c4, c5, c6, c7, c8⟩ := nine_cells ((B2.out.block p PL.out).trans N0.out)
  go_wp2_with fail
  refine (CI.out _).mono ?_
  rintro e w3 ⟨rfl, hb3⟩
  have B3 := hide (bthen B2.out hb3)
  clear hb3 c0 c1 c2 c3 c4 c5 c6 c7 c8
  go_wp2_with fail
  refine (CE.out _ B3.out).mono ?_
  rintro e w4 hg
  rcases hg with ⟨hmay, o, c, rfl, hn⟩ | ⟨hmay, o, c, rfl, hb4⟩
  · have hmt : m = true := HM.out.2 hmay
    subst hmt
    obtain ⟨hs, _, hcb, hb4⟩ := hn
    have B4 := hide (bthen B3.out hb4)
    have HS := hide hs
    have HCB := hide hcb
    have HMAY := hide hmay
    clear hs hcb hmay hb4 CE HM
    obtain ⟨c0, c1, c2, c3, c4, c5, c6, c7, c8⟩ := nine_cells ((B4.out.block p PL.out).trans N0.out)
    go_wp2_with fail
    refine (CI.out _).mono ?_
    rintro e w5 ⟨rfl, hb5⟩
    have A5 := hide hb5
    have B5 := hide (bthen B4.out hb5)
    clear hb5 c0 c1 c2 c3 c4 c5 c6 c7 c8
    go_wp2_with fail
    refine (CK.out _ B5.out).mono ?_
    rintro e w6 ⟨rfl, hb6⟩
    have A6 := hide (bthen A5.out hb6)
    have B6 := hide (bthen B5.out hb6)
    clear hb6 CK CI A5
    have CD := hide (HK.out.decode o c u.enc (by have := Up.body_length HMAY.out; rw [Up.enc_length]; omega) w6 (Bs.slot_below HS.out A6.out) HCB.out)
    go_wp2_with fail
    refine CD.out.mono ?_
    rintro e w7 ⟨r, q, wo', tq', po', co', ko', cw', ct', cp', cc', ck', rfl, hd, hli, _, hb7⟩
    obtain ⟨rfl, rfl⟩ := dec_enc HMAY.out hd
    have A7 := hide (bthen A6.out hb7)
    have B7 := hide (bthen B6.out hb7)
    have HLI := hide hli
    clear hd hli hb7 CD
    obtain ⟨t, ht⟩ : ∃ t : ByteArray, t = ⟨r.enc.toArray⟩ := ⟨_, rfl⟩
    have hself := str_self t
    have B8 := hide (bthen B7.out (balloc (brefl w7) (.cells #[.slice wo' r.wd.length cw', .slice tq' r.td.length ct', .int .i64 r.at_.pf, .int .i64 r.at_.md, .int .i64 r.at_.og, .slice po' r.at_.path.length cp', .slice co' r.at_.comms.length cc', .int .i64 r.at_.fr, .slice ko' r.at_.cl.length ck'] 35)))
    have A8 := hide (balloc (brefl w7) (.cells #[.slice wo' r.wd.length cw', .slice tq' r.td.length ct', .int .i64 r.at_.pf, .int .i64 r.at_.md, .int .i64 r.at_.og, .slice po' r.at_.path.length cp', .slice co' r.at_.comms.length cc', .int .i64 r.at_.fr, .slice ko' r.at_.cl.length ck'] 35))
    have N8 := hide (heap_new w7 #[.slice wo' r.wd.length cw', .slice tq' r.td.length ct', .int .i64 r.at_.pf, .int .i64 r.at_.md, .int .i64 r.at_.og, .slice po' r.at_.path.length cp', .slice co' r.at_.comms.length cc', .int .i64 r.at_.fr, .slice ko' r.at_.cl.length ck'] 35)
    go_upto_region 10 with fail
    have CEN := hide (fun W' (hb : Below (w7.alloc (.cells #[.slice wo' r.wd.length cw', .slice tq' r.td.length ct', .int .i64 r.at_.pf, .int .i64 r.at_.md, .int .i64 r.at_.og, .slice po' r.at_.path.length cp', .slice co' r.at_.comms.length cc', .int .i64 r.at_.fr, .slice ko' r.at_.cl.length ck'] 35)).heap.size (w7.alloc (.cells #[.slice wo' r.wd.length cw', .slice tq' r.td.length ct', .int .i64 r.at_.pf, .int .i64 r.at_.md, .int .i64 r.at_.og, .slice po' r.at_.path.length cp', .slice co' r.at_.comms.length cc', .int .i64 r.at_.fr, .slice ko' r.at_.cl.length ck'] 35)) W') => refEncU_is r wo tq po co ko cw ct cp cc ck t ht HMAY.out W' (Up.lies_below HL.out (bthen B8.out hb)))
    have CT := hide (fun W' => theirs_is r wo' tq' po' co' ko' cw' ct' cp' cc' ck' W')
    have CS := hide (fun W' (hb : Below (w7.alloc (.cells #[.slice wo' r.wd.length cw', .slice tq' r.td.length ct', .int .i64 r.at_.pf, .int .i64 r.at_.md, .int .i64 r.at_.og, .slice po' r.at_.path.length cp', .slice co' r.at_.comms.length cc', .int .i64 r.at_.fr, .slice ko' r.at_.cl.length ck'] 35)).heap.size (w7.alloc (.cells #[.slice wo' r.wd.length cw', .slice tq' r.td.length ct', .int .i64 r.at_.pf, .int .i64 r.at_.md, .int .i64 r.at_.og, .slice po' r.at_.path.length cp', .slice co' r.at_.comms.length cc', .int .i64 r.at_.fr, .slice ko' r.at_.cl.length ck'] 35)) W') => refSameU_is r wo' tq' po' co' ko' cw' ct' cp' cc' ck' r wo tq po co ko cw ct cp cc ck true ⟨fun _ => rfl, fun _ => rfl⟩ HW.out HW.out W' (Up.lies_below HLI.out (bthen A8.out hb)) (Up.lies_below HL.out (bthen B8.out hb)))
    have SS := hide (fun W' (hb : Below (w7.alloc (.cells #[.slice wo' r.wd.length cw', .slice tq' r.td.length ct', .int .i64 r.at_.pf, .int .i64 r.at_.md, .int .i64 r.at_.og, .slice po' r.at_.path.length cp', .slice co' r.at_.comms.length cc', .int .i64 r.at_.fr, .slice ko' r.at_.cl.length ck'] 35)).heap.size (w7.alloc (.cells #[.slice wo' r.wd.length cw', .slice tq' r.td.length ct', .int .i64 r.at_.pf, .int .i64 r.at_.md, .int .i64 r.at_.og, .slice po' r.at_.path.length cp', .slice co' r.at_.comms.length cc', .int .i64 r.at_.fr, .slice ko' r.at_.cl.length ck'] 35)) W') => str_at (W := W') ht rfl (Bs.slot_below HS.out (bthen (bthen A7.out A8.out) hb)) HCB.out)
    have N0' := hide ((B8.out.block p PL.out).trans N0.out)
    clear ht
    generalize w7.alloc (.cells #[.slice wo' r.wd.length cw', .slice tq' r.td.length ct', .int .i64 r.at_.pf, .int .i64 r.at_.md, .int .i64 r.at_.og, .slice po' r.at_.path.length cp', .slice co' r.at_.comms.length cc', .int .i64 r.at_.fr, .slice ko' r.at_.cl.length ck'] 35) = W8 at *
    generalize w7.heap.size = g at *
    obtain ⟨c0, c1, c2, c3, c4, c5, c6, c7, c8⟩ := nine_cells N0'.out
    obtain ⟨d0, d1, d2, d3, d4, d5, d6, d7, d8⟩ := nine_cells N8.out
    have r0 := fun dd os => cell_regrown c0 dd os
    have r1 := fun dd os => cell_regrown c1 dd os
    have r2 := fun dd os => cell_regrown c2 dd os
    have r3 := fun dd os => cell_regrown c3 dd os
    have r4 := fun dd os => cell_regrown c4 dd os
    have r5 := fun dd os => cell_regrown c5 dd os
    have r6 := fun dd os => cell_regrown c6 dd os
    have r7 := fun dd os => cell_regrown c7 dd os
    have r8 := fun dd os => cell_regrown c8 dd os
    have v0 := fun dd os => cell_regrown d0 dd os
    have v1 := fun dd os => cell_regrown d1 dd os
    have v2 := fun dd os => cell_regrown d2 dd os
    have v3 := fun dd os => cell_regrown d3 dd os
    have v4 := fun dd os => cell_regrown d4 dd os
    have v5 := fun dd os => cell_regrown d5 dd os
    have v6 := fun dd os => cell_regrown d6 dd os
    have v7 := fun dd os => cell_regrown d7 dd os
    have v8 := fun dd os => cell_regrown d8 dd os
    have rs := fun dd os => SS.out _ (below_regrown W8 dd os)
    clear c0 c1 c2 c3 c4 c5 c6 c7 c8 d0 d1 d2 d3 d4 d5 d6 d7 d8 SS
    refine wp_region_quiet_below (by kernel_rfl) (by kernel_rfl) ?_
    repeat (go_big_quiet_step ((first | (go_at_call 17; exact Calls.regrown_of (CT.out _)) | (go_at_call 16; exact Calls.regrown_of (CS.out _ (below_regrown _ _ _))) | (go_at_call 15; exact Calls.regrown_of (CEN.out _ (below_regrown _ _ _))) | (go_at_call 9; exact Calls.regrown_of (CL.out _)))))
    refine wpQuiet_nil ?_
    rintro _ ⟨⟨dd, os⟩, rfl⟩
    have hb9 := below_regrown W8 dd os
    generalize Sort.grow (redrawn W8 dd) os = w9 at hb9
    have B9 := hide (bthen B8.out hb9)
    clear hb9
    go_wp2_with fail
    go_ret
    exact ⟨rfl, bthen HB.out B9.out⟩
  · have hmf : m = false := by
      cases m
      · rfl
      · exact absurd (HM.out.1 rfl) hmay
    subst hmf
    have B4 := hide (bthen B3.out hb4)
    clear hb4 hmay CE HM
    obtain ⟨c0, c1, c2, c3, c4, c5, c6, c7, c8⟩ := nine_cells ((B4.out.block p PL.out).trans N0.out)
    go_wp2_with fail
    refine (CI.out _).mono ?_
    rintro e w5 ⟨rfl, hb5⟩
    have B5 := hide (bthen B4.out hb5)
    clear hb5 c0 c1 c2 c3 c4 c5 c6 c7 c8
    go_wp2_with fail
    refine (CK.out _ B5.out).mono ?_
    rintro e w6 ⟨rfl, hb6⟩
    have B6 := hide (bthen B5.out hb6)
    clear hb6 CK CI
    go_wp2_with fail
    refine (CL.out _).mono ?_
    rintro e w7 ⟨rfl, hb7⟩
    have B7 := hide (bthen B6.out hb7)
    clear hb7
    go_wp2_with fail
    go_ret
    exact ⟨rfl, bthen HB.out B7.out⟩
end Go.Proofs.Ytkhmhmopcofejaa
