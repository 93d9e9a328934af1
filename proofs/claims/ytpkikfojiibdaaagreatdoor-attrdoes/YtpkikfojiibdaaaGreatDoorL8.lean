import Derived.Test.YtpkikfojiibdaaaGreatDoorE8
/- The law AttrDoes. -/
namespace Go.Proofs.YtpkikfojiibdaaaGreatDoor
open Go.RowKit

/-- The contracts that the law AttrDoes asks of the program. -/
structure KitD (T : World → Prop) : Prop where
  on : ∀ {w w' : World}, T w → Below w.heap.size w w' → T w'
  may : ∀ (a : At) (po co ko : Option Addr) (cp cc ck : Nat) (r : Bool), At.may a = r → ∀ W, T W → At.lies W a po co ko → a.path.length ≤ 100 → a.comms.length ≤ 100 → a.cl.length ≤ 100 → a.cl.length ≤ ck → Calls Tryz.prog 14 #[.agg #[.int .i64 a.pf, .int .i64 a.md, .int .i64 a.og, .slice po a.path.length cp, .slice co a.comms.length cc, .int .i64 a.fr, .slice ko a.cl.length ck]] W fun e w' => e = .returned (.bool r) ∧ Below W.heap.size W w'
  text : ∀ (a : At) (po co ko : Option Addr) (cp cc ck : Nat) (t : ByteArray), t = ⟨(At.text a).toArray⟩ → ∀ W, T W → At.lies W a po co ko → a.path.length ≤ 100 → a.comms.length ≤ 100 → a.cl.length ≤ 100 → a.cl.length ≤ ck → Calls Tryz.prog 17 #[.agg #[.int .i64 a.pf, .int .i64 a.md, .int .i64 a.og, .slice po a.path.length cp, .slice co a.comms.length cc, .int .i64 a.fr, .slice ko a.cl.length ck]] W fun e w' => e = .returned (.string t) ∧ Below W.heap.size W w'
  plain : ∀ W, T W → Calls Tryz.prog 20 #[] W fun e w' => (∃ (po co ko : Option Addr) (cp cc ck : Nat), e = .returned (.agg #[.int .i64 100, .int .i64 0, .int .i64 0, .slice po 0 cp, .slice co 0 cc, .int .i64 0, .slice ko 0 ck])) ∧ Below W.heap.size W w'
  change : ∀ (s : St) (ao dl pr : Option Addr) (ca cd cr : Nat) (r : Bool), St.ok s = r → ∀ W, T W → St.lies W s ao dl pr → s.add.length ≤ 100 → s.del.length ≤ 100 → s.pre.length ≤ 100 → Calls Tryz.prog 11 #[.agg #[.int .i64 s.pf, .int .i64 s.md, .int .i64 s.og, .slice ao s.add.length ca, .slice dl s.del.length cd, .bool s.clr, .slice pr s.pre.length cr]] W fun e w' => e = .returned (.bool r) ∧ Below W.heap.size W w'
  do_ : ∀ (a : At) (po co ko : Option Addr) (cp cc ck : Nat) (s : St) (ao dl pr : Option Addr) (ca cd cr : Nat), ∀ W, T W → At.lies W a po co ko → At.came a po co ko cp cc ck → a.path.length ≤ 100 → a.comms.length ≤ 100 → a.cl.length ≤ 100 → St.lies W s ao dl pr → (Cm.Co.came ao ca ∧ Cm.Co.came dl cd ∧ Cm.Co.came pr cr) → s.add.length ≤ 100 → s.del.length ≤ 100 → s.pre.length ≤ 100 → Calls Tryz.prog 9 #[.agg #[.int .i64 a.pf, .int .i64 a.md, .int .i64 a.og, .slice po a.path.length cp, .slice co a.comms.length cc, .int .i64 a.fr, .slice ko a.cl.length ck], .agg #[.int .i64 s.pf, .int .i64 s.md, .int .i64 s.og, .slice ao s.add.length ca, .slice dl s.del.length cd, .bool s.clr, .slice pr s.pre.length cr]] W (DoGood W a s)
set_option maxRecDepth 100000 in
theorem livesD_is {T : World → Prop} (K : KitD T) (w : World) (hT : T w) : Calls Tryz.prog 8 #[] w fun e w' => e = .returned (.bool true) ∧ Below w.heap.size w w' := by
  have CP := hide (K.plain w hT)
  have CT := hide (fun po co ko cp cc ck W hW => K.text At.plain po co ko cp cc ck _ rfl W hW (lies_nil W po co ko) (by decide) (by decide) (by decide) (Nat.zero_le _))
  have HP := hide plain_text
  have HON := hide (fun w' => K.on (w := w) (w' := w') hT)
  clear K
  go_enter Tryz.func8, Tryz.ntmps8
  go_wp2_with fail
  refine CP.out.mono ?_
  rintro e w1 ⟨⟨po, co, ko, cp, cc, ck, rfl⟩, hb1⟩
  have CT1 := hide (CT.out po co ko cp cc ck w1 (HON.out w1 hb1))
  rw [HP.out] at CT1
  unfold plainText At.plain at CT1
  simp only [List.length_nil] at CT1
  have HB1 := hide hb1
  clear hb1 CT CP HON hT
  go_wp2_with fail
  refine CT1.out.mono ?_
  rintro e w2 ⟨rfl, hb2⟩
  have HB2 := hide (bthen HB1.out hb2)
  clear hb2 CT1
  go_wp2_with fail
  go_ret
  exact ⟨rfl, HB2.out⟩

theorem do_fun {a r r' : At} {s : St} {q q' : Int} (h : At.DoTo a s r q) (h' : At.DoTo a s r' q') : r' = r ∧ q' = q := by
  unfold At.DoTo at h h'
  by_cases hm : At.may a = true ∧ St.ok s = true
  · rw [if_pos hm] at h h'
    obtain ⟨x, hu, h⟩ := h
    obtain ⟨x', hu', h'⟩ := h'
    have hx := uni_eq hu' hu (fun c => Iff.rfl)
    subst hx
    rcases h with ⟨k, rfl, rfl⟩ | ⟨k, rfl, rfl⟩ <;> rcases h' with ⟨k', rfl, rfl⟩ | ⟨k', rfl, rfl⟩
    · exact ⟨rfl, rfl⟩
    · omega
    · omega
    · exact ⟨rfl, rfl⟩
  · rw [if_neg hm] at h h'
    exact ⟨h'.1.trans h.1.symm, h'.2.trans h.2.symm⟩
theorem few_zeroD : At.zero.path.length ≤ 100 ∧ At.zero.comms.length ≤ 100 ∧ At.zero.cl.length ≤ 100 := by decide
theorem do_fewD {a r : At} {s : St} {q : Int} (h : At.DoTo a s r q) : r.path.length ≤ 100 ∧ r.comms.length ≤ 100 ∧ r.cl.length ≤ 100 := by
  rcases do_err h with ⟨h0, _, _⟩ | ⟨_, rfl⟩
  · subst h0
    exact may_few (do_may h)
  · exact few_zeroD
set_option maxHeartbeats 8000000 in
set_option maxRecDepth 100000 in
theorem law_does {T : World → Prop} (K : KitD T) (a : At) (po co ko : Option Addr) (cp cc ck : Nat) (s : St) (ao dl pr : Option Addr) (ca cd cr : Nat) (w : World) (hT : T w) (hA : At.lies w a po co ko) (hCA : At.came a po co ko cp cc ck) (hS : St.lies w s ao dl pr) (hCS : Cm.Co.came ao ca ∧ Cm.Co.came dl cd ∧ Cm.Co.came pr cr) :
    Calls Tryz.prog 3 #[.agg #[.int .i64 a.pf, .int .i64 a.md, .int .i64 a.og, .slice po a.path.length cp, .slice co a.comms.length cc, .int .i64 a.fr, .slice ko a.cl.length ck], .agg #[.int .i64 s.pf, .int .i64 s.md, .int .i64 s.og, .slice ao s.add.length ca, .slice dl s.del.length cd, .bool s.clr, .slice pr s.pre.length cr]] w fun e w' => e = .returned (.bool true) ∧ Below w.heap.size w w' := by
  obtain ⟨h1, h2, hbb⟩ := boxes2 w #[.int .i64 a.pf, .int .i64 a.md, .int .i64 a.og, .slice po a.path.length cp, .slice co a.comms.length cc, .int .i64 a.fr, .slice ko a.cl.length ck] #[.int .i64 s.pf, .int .i64 s.md, .int .i64 s.og, .slice ao s.add.length ca, .slice dl s.del.length cd, .bool s.clr, .slice pr s.pre.length cr] 25 27
  have N1 := hide h1
  have N2 := hide h2
  have HB := hide hbb
  clear h1 h2 hbb
  have CL := hide (fun W (hb : Below w.heap.size w W) => livesD_is K W (K.on hT hb))
  have LA := hide hA
  have LS := hide hS
  have HCA := hide hCA
  have HCS := hide hCS
  have HT := hide hT
  have HK := hide K
  obtain ⟨fa, hfa⟩ : ∃ r, few3 a.path.length a.comms.length a.cl.length = r := ⟨_, rfl⟩
  obtain ⟨fs, hfs⟩ : ∃ r, few3 s.add.length s.del.length s.pre.length = r := ⟨_, rfl⟩
  have Fa := hide (fun W => few_is a.pf a.md a.og a.fr po co ko _ _ _ cp cc ck fa hfa W)
  have Fs := hide (fun W => fewSet_is s.pf s.md s.og ao dl pr _ _ _ ca cd cr s.clr fs hfs W)
  have HFa := hide hfa
  have HFs := hide hfs
  clear hfa hfs hA hS hCA hCS hT K
  go_enter Tryz.func3, Tryz.ntmps3
  go_wp2_with fail
  generalize (w.alloc (.cells #[.int .i64 a.pf, .int .i64 a.md, .int .i64 a.og, .slice po a.path.length cp, .slice co a.comms.length cc, .int .i64 a.fr, .slice ko a.cl.length ck] 25)).alloc (.cells #[.int .i64 s.pf, .int .i64 s.md, .int .i64 s.og, .slice ao s.add.length ca, .slice dl s.del.length cd, .bool s.clr, .slice pr s.pre.length cr] 27) = W at *
  obtain ⟨p, hp⟩ : ∃ p, w.heap.size = p := ⟨_, rfl⟩
  rw [hp] at N1 N2
  have HP := hide hp
  rw [hp]
  clear hp
  obtain ⟨q, hq⟩ : ∃ q, p + 1 = q := ⟨_, rfl⟩
  rw [hq] at N2
  have HPQ : Hid (p ≠ q ∧ p ≤ q) := ⟨by omega, by omega⟩
  rw [hq]
  clear hq
  cases fa
  · refine (Fa.out _).mono ?_
    rintro e w1 ⟨rfl, hb1⟩
    have B1 := hide (bthen HB.out hb1)
    have CL1 := hide (CL.out w1 B1.out)
    clear hb1
    go_wp2_with fail
    refine CL1.out.mono ?_
    rintro e w2 ⟨rfl, hb2⟩
    have B2 := hide (bthen B1.out hb2)
    clear hb2
    go_wp2_with fail
    go_ret
    exact ⟨rfl, B2.out⟩
  refine (Fa.out _).mono ?_
  rintro e w1 ⟨rfl, hb1⟩
  have B1 := hide hb1
  obtain ⟨d0, d1, d2, d3, d4, d5, d6⟩ := seven_cells ((hb1.block q (heap_lt N2.out)).trans N2.out)
  clear hb1
  go_wp2_with fail
  cases fs
  · refine (Fs.out _).mono ?_
    rintro e w2 ⟨rfl, hb2⟩
    have B2 := hide (bthen HB.out (bthen B1.out hb2))
    have CL1 := hide (CL.out w2 B2.out)
    clear hb2
    go_wp2_with fail
    refine CL1.out.mono ?_
    rintro e w3 ⟨rfl, hb3⟩
    have B3 := hide (bthen B2.out hb3)
    clear hb3
    go_wp2_with fail
    go_ret
    exact ⟨rfl, B3.out⟩
  refine (Fs.out _).mono ?_
  rintro e w3 ⟨rfl, hb3⟩
  have B3 := hide (bthen B1.out hb3)
  clear hb3 d0 d1 d2 d3 d4 d5 d6 Fa Fs B1
  obtain ⟨ma1, ma2, ma3⟩ := (few3_iff _ _ _).1 HFa.out
  obtain ⟨ms1, ms2, ms3⟩ := (few3_iff _ _ _).1 HFs.out
  have M1 := hide ma1
  have M2 := hide ma2
  have M3 := hide ma3
  have S1 := hide ms1
  have S2 := hide ms2
  have S3 := hide ms3
  clear ma1 ma2 ma3 ms1 ms2 ms3 HFa HFs
  have NP0 := hide ((B3.out.block p (heap_lt N1.out)).trans N1.out)
  have NQ0 := hide ((B3.out.block q (heap_lt N2.out)).trans N2.out)
  have BW := hide (bthen HB.out B3.out)
  clear N1 N2 B3 HB
  have CD := hide (HK.out.do_ a po co ko cp cc ck s ao dl pr ca cd cr w3 (HK.out.on HT.out BW.out) (At.lies_below LA.out BW.out) HCA.out M1.out M2.out M3.out (St.lies_below LS.out BW.out) HCS.out S1.out S2.out S3.out)
  obtain ⟨d0, d1, d2, d3, d4, d5, d6⟩ := seven_cells NP0.out
  obtain ⟨e0, e1, e2, e3, e4, e5, e6⟩ := seven_cells NQ0.out
  go_wp2_with fail
  refine CD.out.mono ?_
  rintro e w4 ⟨r, rq, p1, c1, k1, np1, nc1, nk1, rfl, hd1, hm1, hc1, hb4⟩
  have HD1 := hide hd1
  have L4 := hide hm1.1
  have B4 := hide hb4
  have HC1 := hide hc1.2.2.2
  clear hd1 hm1 hc1 hb4 CD d0 d1 d2 d3 d4 d5 d6 e0 e1 e2 e3 e4 e5 e6
  have BA := hide (balloc (brefl w4) (.cells #[.int .i64 r.pf, .int .i64 r.md, .int .i64 r.og, .slice p1 r.path.length np1, .slice c1 r.comms.length nc1, .int .i64 r.fr, .slice k1 r.cl.length nk1] 25))
  have B5 := hide (bthen B4.out BA.out)
  have N5 := hide (heap_new w4 #[.int .i64 r.pf, .int .i64 r.md, .int .i64 r.og, .slice p1 r.path.length np1, .slice c1 r.comms.length nc1, .int .i64 r.fr, .slice k1 r.cl.length nk1] 25)
  have L5 := hide (At.lies_below L4.out BA.out)
  have CR := hide (refDo_is a po co ko cp cc ck s ao dl pr ca cd cr (w4.alloc (.cells #[.int .i64 r.pf, .int .i64 r.md, .int .i64 r.og, .slice p1 r.path.length np1, .slice c1 r.comms.length nc1, .int .i64 r.fr, .slice k1 r.cl.length nk1] 25)) (At.lies_below LA.out (bthen BW.out B5.out)) HCA.out M1.out M2.out M3.out (St.lies_below LS.out (bthen BW.out B5.out)) HCS.out S1.out S2.out S3.out)
  obtain ⟨d0, d1, d2, d3, d4, d5, d6⟩ := seven_cells ((B5.out.block p (heap_lt NP0.out)).trans NP0.out)
  obtain ⟨e0, e1, e2, e3, e4, e5, e6⟩ := seven_cells ((B5.out.block q (heap_lt NQ0.out)).trans NQ0.out)
  clear BA L4 B4
  go_wp2_with fail
  generalize w4.alloc (.cells #[.int .i64 r.pf, .int .i64 r.md, .int .i64 r.og, .slice p1 r.path.length np1, .slice c1 r.comms.length nc1, .int .i64 r.fr, .slice k1 r.cl.length nk1] 25) = w5 at *
  generalize w4.heap.size = g5 at *
  refine CR.out.mono ?_
  rintro e w6 ⟨r', rq', p2, c2, k2, np2, nc2, nk2, rfl, hd2, hl2, hb6⟩
  obtain ⟨hrr, hqq⟩ := do_fun HD1.out hd2
  subst hrr
  subst hqq
  have B6 := hide (bthen B5.out hb6)
  have L6 := hide (At.lies_below L5.out hb6)
  have L6' := hide hl2
  have N6 := hide ((hb6.block g5 (heap_lt N5.out)).trans N5.out)
  clear hd2 hl2 hb6 CR d0 d1 d2 d3 d4 d5 d6 e0 e1 e2 e3 e4 e5 e6 L5 N5 B5
  have BA := hide (balloc (brefl w6) (.cells #[.int .i64 r'.pf, .int .i64 r'.md, .int .i64 r'.og, .slice p2 r'.path.length np2, .slice c2 r'.comms.length nc2, .int .i64 r'.fr, .slice k2 r'.cl.length nk2] 25))
  have B7 := hide (bthen B6.out BA.out)
  have N7 := hide (heap_new w6 #[.int .i64 r'.pf, .int .i64 r'.md, .int .i64 r'.og, .slice p2 r'.path.length np2, .slice c2 r'.comms.length nc2, .int .i64 r'.fr, .slice k2 r'.cl.length nk2] 25)
  have N7' := hide ((BA.out.block g5 (heap_lt N6.out)).trans N6.out)
  have L7 := hide (At.lies_below L6.out BA.out)
  have L7' := hide (At.lies_below L6'.out BA.out)
  have NQ7 := hide ((B7.out.block q (heap_lt NQ0.out)).trans NQ0.out)
  have BW7 := hide (bthen BW.out B7.out)
  clear BA L6 L6' N6 B6
  go_upto_region 5 with fail
  generalize w6.alloc (.cells #[.int .i64 r'.pf, .int .i64 r'.md, .int .i64 r'.og, .slice p2 r'.path.length np2, .slice c2 r'.comms.length nc2, .int .i64 r'.fr, .slice k2 r'.cl.length nk2] 25) = w7 at *
  generalize w6.heap.size = g7 at *
  obtain ⟨f1, f2, f3⟩ := do_fewD HD1.out
  obtain ⟨ms, hms⟩ : ∃ x, St.ok s = x := ⟨_, rfl⟩
  have C1 := hide (fun W' (hb : Below w7.heap.size w7 W') => HK.out.change s ao dl pr ca cd cr ms hms W' (HK.out.on HT.out (bthen BW7.out hb)) (St.lies_below LS.out (bthen BW7.out hb)) S1.out S2.out S3.out)
  have C2 := hide (fun W' (hb : Below w7.heap.size w7 W') => refChange_is s ao dl pr ca cd cr ms hms W' (St.lies_below LS.out (bthen BW7.out hb)) S1.out S2.out S3.out)
  have C3 := hide (fun W' (hb : Below w7.heap.size w7 W') => refSameA_is r' r' p1 c1 k1 p2 c2 k2 np1 nc1 nk1 np2 nc2 nk2 true (decide_eq_true ((At.cmp_zero r' r').2 rfl)) W' (At.lies_below L7.out hb) (At.lies_below L7'.out hb) f1 f2 f3 f2)
  have C5 := hide (fun W' (hb : Below w7.heap.size w7 W') => CL.out W' (bthen BW7.out hb))
  have F1 := hide f1
  have F2 := hide f2
  have F3 := hide f3
  clear hms f1 f2 f3
  obtain ⟨d0, d1, d2, d3, d4, d5, d6⟩ := seven_cells NQ7.out
  obtain ⟨e0, e1, e2, e3, e4, e5, e6⟩ := seven_cells N7'.out
  obtain ⟨f0, f1, f2, f3, f4, f5, f6⟩ := seven_cells N7.out
  have rd0 := fun dd os => cell_regrown d0 dd os
  have rd1 := fun dd os => cell_regrown d1 dd os
  have rd2 := fun dd os => cell_regrown d2 dd os
  have rd3 := fun dd os => cell_regrown d3 dd os
  have rd4 := fun dd os => cell_regrown d4 dd os
  have rd5 := fun dd os => cell_regrown d5 dd os
  have rd6 := fun dd os => cell_regrown d6 dd os
  have re0 := fun dd os => cell_regrown e0 dd os
  have re1 := fun dd os => cell_regrown e1 dd os
  have re2 := fun dd os => cell_regrown e2 dd os
  have re3 := fun dd os => cell_regrown e3 dd os
  have re4 := fun dd os => cell_regrown e4 dd os
  have re5 := fun dd os => cell_regrown e5 dd os
  have re6 := fun dd os => cell_regrown e6 dd os
  have rf0 := fun dd os => cell_regrown f0 dd os
  have rf1 := fun dd os => cell_regrown f1 dd os
  have rf2 := fun dd os => cell_regrown f2 dd os
  have rf3 := fun dd os => cell_regrown f3 dd os
  have rf4 := fun dd os => cell_regrown f4 dd os
  have rf5 := fun dd os => cell_regrown f5 dd os
  have rf6 := fun dd os => cell_regrown f6 dd os
  clear d0 d1 d2 d3 d4 d5 d6 e0 e1 e2 e3 e4 e5 e6 f0 f1 f2 f3 f4 f5 f6
  have hmm : (ms == ms) = true := by simp
  have hqq : (rq' == rq') = true := by simp
  by_cases hq0 : rq' = 0
  · subst hq0
    have C4 := hide (fun W' (hb : Below w7.heap.size w7 W') => HK.out.may r' p1 c1 k1 np1 nc1 nk1 true (do_may HD1.out) W' (HK.out.on HT.out (bthen BW7.out hb)) (At.lies_below L7.out hb) F1.out F2.out F3.out HC1.out)
    refine wp_region_quiet_below (by kernel_rfl) (by kernel_rfl) ?_
    repeat (go_big_quiet_step ((first | (go_at_call 11; exact Calls.regrown_of (C1.out _ (below_regrown _ _ _))) | (go_at_call 12; exact Calls.regrown_of (C2.out _ (below_regrown _ _ _))) | (go_at_call 13; exact Calls.regrown_of (C3.out _ (below_regrown _ _ _))) | (go_at_call 14; exact Calls.regrown_of (C4.out _ (below_regrown _ _ _))) | (go_at_call 8; exact Calls.regrown_of (C5.out _ (below_regrown _ _ _))))))
    refine wpQuiet_nil ?_
    rintro _ ⟨⟨dd, os⟩, rfl⟩
    have hb8 := below_regrown w7 dd os
    generalize Sort.grow (redrawn w7 dd) os = w8 at hb8
    have B8 := hide (bthen BW7.out hb8)
    clear hb8
    go_wp2_with fail
    go_ret
    exact ⟨rfl, B8.out⟩
  · have hq1 : (rq' != 0) = true := by simpa using hq0
    clear hq0
    refine wp_region_quiet_below (by kernel_rfl) (by kernel_rfl) ?_
    repeat (go_big_quiet_step ((first | (go_at_call 11; exact Calls.regrown_of (C1.out _ (below_regrown _ _ _))) | (go_at_call 12; exact Calls.regrown_of (C2.out _ (below_regrown _ _ _))) | (go_at_call 13; exact Calls.regrown_of (C3.out _ (below_regrown _ _ _))) | (go_at_call 8; exact Calls.regrown_of (C5.out _ (below_regrown _ _ _))))))
    refine wpQuiet_nil ?_
    rintro _ ⟨⟨dd, os⟩, rfl⟩
    have hb8 := below_regrown w7 dd os
    generalize Sort.grow (redrawn w7 dd) os = w8 at hb8
    have B8 := hide (bthen BW7.out hb8)
    clear hb8
    go_wp2_with fail
    go_ret
    exact ⟨rfl, B8.out⟩
end Go.Proofs.YtpkikfojiibdaaaGreatDoor
