/- The law AttrTexts. -/
import Derived.Test.YtpkikfojiibdaaaDoorL3
namespace Go.Proofs.YtpkikfojiibdaaaDoor
open Go.RowKit

theorem refTextA_is (a : At) (po co ko : Option Addr) (cp cc ck : Nat) (t : ByteArray) (ht : t = ⟨(At.text a).toArray⟩) (w : World) (hA : At.lies w a po co ko) (h1 : a.path.length ≤ 100) (h2 : a.comms.length ≤ 100) (h3 : a.cl.length ≤ 100) :
    Calls Tryd.prog 11 #[.agg #[.int .i64 a.pf, .int .i64 a.md, .int .i64 a.og, .slice po a.path.length cp, .slice co a.comms.length cc, .int .i64 a.fr, .slice ko a.cl.length ck]] w fun e w' => e = .returned (.string t) ∧ Below w.heap.size w w' := by
  subst ht
  unfold At.text
  cases hm : At.may a
  · exact refTextA_bad a po co ko cp cc ck hm w hA h1 h2 h3
  · exact refTextA_good a po co ko cp cc ck _ rfl hm w hA
theorem text_same {a b : At} {ta tb : ByteArray} (h1 : ta = ⟨(At.text a).toArray⟩) (h2 : tb = ⟨(At.text b).toArray⟩) (ha : At.may a = true) (hb : At.may b = true) : ta = tb ↔ At.cmp a b = 0 := by
  rw [At.cmp_zero, h1, h2]
  constructor
  · intro h
    refine At.text_inj ha hb ?_
    have := congrArg (fun x : ByteArray => x.data.toList) h
    simpa using this
  · intro h
    rw [h]
set_option maxHeartbeats 8000000 in
set_option maxRecDepth 100000 in
theorem law_texts {T : World → Prop} (K : Kit T) (a b : At) (po co ko : Option Addr) (cp cc ck : Nat) (po' co' ko' : Option Addr) (cp' cc' ck' : Nat) (w : World) (hT : T w) (hA : At.lies w a po co ko) (hB : At.lies w b po' co' ko') (hka : a.cl.length ≤ ck) (hkb : b.cl.length ≤ ck') :
    Calls Tryd.prog 3 #[.agg #[.int .i64 a.pf, .int .i64 a.md, .int .i64 a.og, .slice po a.path.length cp, .slice co a.comms.length cc, .int .i64 a.fr, .slice ko a.cl.length ck], .agg #[.int .i64 b.pf, .int .i64 b.md, .int .i64 b.og, .slice po' b.path.length cp', .slice co' b.comms.length cc', .int .i64 b.fr, .slice ko' b.cl.length ck']] w fun e w' => e = .returned (.bool true) ∧ Below w.heap.size w w' := by
  obtain ⟨h1, h2, hbb⟩ := boxes2 w #[.int .i64 a.pf, .int .i64 a.md, .int .i64 a.og, .slice po a.path.length cp, .slice co a.comms.length cc, .int .i64 a.fr, .slice ko a.cl.length ck] #[.int .i64 b.pf, .int .i64 b.md, .int .i64 b.og, .slice po' b.path.length cp', .slice co' b.comms.length cc', .int .i64 b.fr, .slice ko' b.cl.length ck'] 25 25
  have N1 := hide h1
  have N2 := hide h2
  have HB := hide hbb
  clear h1 h2 hbb
  have KA := hide hka
  have KB := hide hkb
  clear hka hkb
  have CL := hide (fun W hW => lives_is K W hW)
  have LA := hide (At.lies_below hA HB.out)
  have LB := hide (At.lies_below hB HB.out)
  have HT := hide (K.on hT HB.out)
  have HK := hide K
  obtain ⟨fa, hfa⟩ : ∃ r, few3 a.path.length a.comms.length a.cl.length = r := ⟨_, rfl⟩
  obtain ⟨fb, hfb⟩ : ∃ r, few3 b.path.length b.comms.length b.cl.length = r := ⟨_, rfl⟩
  have Fa := hide (fun W => few_is a.pf a.md a.og a.fr po co ko _ _ _ cp cc ck fa hfa W)
  have Fb := hide (fun W => few_is b.pf b.md b.og b.fr po' co' ko' _ _ _ cp' cc' ck' fb hfb W)
  have HFa := hide hfa
  have HFb := hide hfb
  clear hfa hfb hA hB hT K
  go_enter Tryd.func3, Tryd.ntmps3
  go_wp2_with fail
  generalize (w.alloc (.cells #[.int .i64 a.pf, .int .i64 a.md, .int .i64 a.og, .slice po a.path.length cp, .slice co a.comms.length cc, .int .i64 a.fr, .slice ko a.cl.length ck] 25)).alloc (.cells #[.int .i64 b.pf, .int .i64 b.md, .int .i64 b.og, .slice po' b.path.length cp', .slice co' b.comms.length cc', .int .i64 b.fr, .slice ko' b.cl.length ck'] 25) = W at *
  obtain ⟨p, hp⟩ : ∃ p, w.heap.size = p := ⟨_, rfl⟩
  rw [hp] at N1 N2
  rw [hp]
  clear hp
  generalize hq : p + 1 = q at *
  clear hq
  cases fa
  · refine (Fa.out _).mono ?_
    rintro e w1 ⟨rfl, hb1⟩
    have B1 := hide (bthen HB.out hb1)
    have CL1 := hide (CL.out w1 (HK.out.on HT.out hb1))
    clear hb1
    go_wp2_with fail
    refine CL1.out.mono ?_
    rintro e w2 ⟨rfl, hb2⟩
    have B2 := hide (bthen B1.out hb2)
    clear hb2
    go_wp2_with fail
    go_ret
    exact ⟨rfl, B2.out⟩
  refine (Fa.out _).mono ?_
  rintro e w1 ⟨rfl, hb1⟩
  have B1 := hide hb1
  obtain ⟨d0, d1, d2, d3, d4, d5, d6⟩ := seven_cells ((hb1.block q (heap_lt N2.out)).trans N2.out)
  clear hb1
  go_wp2_with fail
  cases fb
  · refine (Fb.out _).mono ?_
    rintro e w2 ⟨rfl, hb2⟩
    have B2 := hide (bthen B1.out hb2)
    have CL1 := hide (CL.out w2 (HK.out.on HT.out B2.out))
    clear hb2
    go_wp2_with fail
    refine CL1.out.mono ?_
    rintro e w3 ⟨rfl, hb3⟩
    have B3 := hide (bthen HB.out (bthen B2.out hb3))
    clear hb3
    go_wp2_with fail
    go_ret
    exact ⟨rfl, B3.out⟩
  refine (Fb.out _).mono ?_
  rintro e w3 ⟨rfl, hb3⟩
  have B3 := hide (bthen B1.out hb3)
  clear hb3 d0 d1 d2 d3 d4 d5 d6 Fa Fb B1
  obtain ⟨ma1, ma2, ma3⟩ := (few3_iff _ _ _).1 HFa.out
  obtain ⟨mb1, mb2, mb3⟩ := (few3_iff _ _ _).1 HFb.out
  obtain ⟨ma, hma⟩ : ∃ x, At.may a = x := ⟨_, rfl⟩
  obtain ⟨mb, hmb⟩ : ∃ x, At.may b = x := ⟨_, rfl⟩
  obtain ⟨s, hs⟩ : ∃ x, decide (At.cmp a b = 0) = x := ⟨_, rfl⟩
  obtain ⟨ta, hta⟩ : ∃ x : ByteArray, x = ⟨(At.text a).toArray⟩ := ⟨_, rfl⟩
  obtain ⟨tb, htb⟩ : ∃ x : ByteArray, x = ⟨(At.text b).toArray⟩ := ⟨_, rfl⟩
  have HE : Hid (ma = true → mb = true → (ta.toList == tb.toList) = s) := fun e1 e2 => by
    have := text_same hta htb (hma.trans e1) (hmb.trans e2)
    rw [← hs, Bool.eq_iff_iff, decide_eq_true_eq, beq_iff_eq, ← this, ByteArray.toList_eq, ByteArray.toList_eq]
    exact ⟨fun h => by cases ta; cases tb; simpa using h, fun h => by rw [h]⟩
  have Ta := hide (fun W' (hb : Below W.heap.size W W') => HK.out.text a po co ko cp cc ck ta hta W' (HK.out.on HT.out hb) (At.lies_below LA.out hb) ma1 ma2 ma3 KA.out)
  have Tb := hide (fun W' (hb : Below W.heap.size W W') => HK.out.text b po' co' ko' cp' cc' ck' tb htb W' (HK.out.on HT.out hb) (At.lies_below LB.out hb) mb1 mb2 mb3 KB.out)
  have Ma := hide (fun W' (hb : Below W.heap.size W W') => HK.out.may a po co ko cp cc ck ma hma W' (HK.out.on HT.out hb) (At.lies_below LA.out hb) ma1 ma2 ma3 KA.out)
  have Ra := hide (fun W' (hb : Below W.heap.size W W') => refMayA_is a po co ko cp cc ck ma hma W' (At.lies_below LA.out hb) ma1 ma2 ma3)
  have Rb := hide (fun W' (hb : Below W.heap.size W W') => refMayA_is b po' co' ko' cp' cc' ck' mb hmb W' (At.lies_below LB.out hb) mb1 mb2 mb3)
  have Rt := hide (fun W' (hb : Below W.heap.size W W') => refTextA_is a po co ko cp cc ck ta hta W' (At.lies_below LA.out hb) ma1 ma2 ma3)
  have Ss := hide (fun W' (hb : Below W.heap.size W W') => HK.out.same a b po co ko cp cc ck po' co' ko' cp' cc' ck' s hs W' (HK.out.on HT.out hb) (At.lies_below LA.out hb) (At.lies_below LB.out hb) ma1 ma2 ma3 mb1 mb2 mb3)
  have Rs := hide (fun W' (hb : Below W.heap.size W W') => refSameA_is a b po co ko po' co' ko' cp cc ck cp' cc' ck' s hs W' (At.lies_below LA.out hb) (At.lies_below LB.out hb) ma1 ma2 ma3 mb2)
  clear hma hmb hs hta htb ma1 ma2 ma3 mb1 mb2 mb3 LA LB HFa HFb
  obtain ⟨d0, d1, d2, d3, d4, d5, d6⟩ := seven_cells ((B3.out.block p (heap_lt N1.out)).trans N1.out)
  obtain ⟨e0, e1, e2, e3, e4, e5, e6⟩ := seven_cells ((B3.out.block q (heap_lt N2.out)).trans N2.out)
  have rd0 := fun dd os => cell_regrown d0 dd os
  have rd1 := fun dd os => cell_regrown d1 dd os
  have rd2 := fun dd os => cell_regrown d2 dd os
  have rd3 := fun dd os => cell_regrown d3 dd os
  have rd4 := fun dd os => cell_regrown d4 dd os
  have rd5 := fun dd os => cell_regrown d5 dd os
  have rd6 := fun dd os => cell_regrown d6 dd os
  have re0 := fun dd os => cell_regrown e0 dd os
  have re1 := fun dd os => cell_regrown e1 dd os
  have re2 := fun dd os => cell_regrown e2 dd os
  have re3 := fun dd os => cell_regrown e3 dd os
  have re4 := fun dd os => cell_regrown e4 dd os
  have re5 := fun dd os => cell_regrown e5 dd os
  have re6 := fun dd os => cell_regrown e6 dd os
  clear d0 d1 d2 d3 d4 d5 d6 e0 e1 e2 e3 e4 e5 e6
  go_wp2_with fail
  refine wp_region_quiet_below (by kernel_rfl) (by kernel_rfl) ?_
  iterate 2 (go_big_quiet_step ((go_at_call 8; exact Calls.regrown_of (Ta.out _ (bthen B3.out (below_regrown _ _ _))))))
  iterate 2 (go_big_quiet_step ((go_at_call 8; exact Calls.regrown_of (Tb.out _ (bthen B3.out (below_regrown _ _ _))))))
  repeat (go_big_quiet_step (fail))
  refine wpQuiet_nil ?_
  rintro _ ⟨⟨dd, os⟩, rfl⟩
  have hb4 := below_regrown w3 dd os
  generalize Sort.grow (redrawn w3 dd) os = w4 at hb4
  have B4 := hide (bthen B3.out hb4)
  clear hb4 B3 Ta Tb rd0 rd1 rd2 rd3 rd4 rd5 rd6 re0 re1 re2 re3 re4 re5 re6
  obtain ⟨d0, d1, d2, d3, d4, d5, d6⟩ := seven_cells ((B4.out.block p (heap_lt N1.out)).trans N1.out)
  obtain ⟨e0, e1, e2, e3, e4, e5, e6⟩ := seven_cells ((B4.out.block q (heap_lt N2.out)).trans N2.out)
  have rd0 := fun dd os => cell_regrown d0 dd os
  have rd1 := fun dd os => cell_regrown d1 dd os
  have rd2 := fun dd os => cell_regrown d2 dd os
  have rd3 := fun dd os => cell_regrown d3 dd os
  have rd4 := fun dd os => cell_regrown d4 dd os
  have rd5 := fun dd os => cell_regrown d5 dd os
  have rd6 := fun dd os => cell_regrown d6 dd os
  have re0 := fun dd os => cell_regrown e0 dd os
  have re1 := fun dd os => cell_regrown e1 dd os
  have re2 := fun dd os => cell_regrown e2 dd os
  have re3 := fun dd os => cell_regrown e3 dd os
  have re4 := fun dd os => cell_regrown e4 dd os
  have re5 := fun dd os => cell_regrown e5 dd os
  have re6 := fun dd os => cell_regrown e6 dd os
  clear d0 d1 d2 d3 d4 d5 d6 e0 e1 e2 e3 e4 e5 e6
  have hmm : (ma != ma) = false := by simp
  have hss : (s != s) = false := by simp
  have htt' : (ta.toList != ta.toList) = false := by simp
  go_wp2_with fail
  refine wp_region_quiet_below (by kernel_rfl) (by kernel_rfl) ?_
  repeat (go_big_quiet_step ((first | (go_at_call 9; exact Calls.regrown_of (Ma.out _ (bthen B4.out (below_regrown _ _ _)))) | (go_at_call 10; exact Calls.regrown_of (Ra.out _ (bthen B4.out (below_regrown _ _ _)))) | (go_at_call 11; exact Calls.regrown_of (Rt.out _ (bthen B4.out (below_regrown _ _ _)))) | (go_at_call 12; exact Calls.regrown_of (Ss.out _ (bthen B4.out (below_regrown _ _ _)))) | (go_at_call 13; exact Calls.regrown_of (Rs.out _ (bthen B4.out (below_regrown _ _ _)))))))
  refine wpQuiet_nil ?_
  rintro _ ⟨⟨dd, os⟩, rfl⟩
  have hb5 := below_regrown w4 dd os
  generalize Sort.grow (redrawn w4 dd) os = w5 at hb5
  have B5 := hide (bthen B4.out hb5)
  clear hb5 B4 Ma Rt Ss rd0 rd1 rd2 rd3 rd4 rd5 rd6 re0 re1 re2 re3 re4 re5 re6 hmm hss htt'
  obtain ⟨d0, d1, d2, d3, d4, d5, d6⟩ := seven_cells ((B5.out.block p (heap_lt N1.out)).trans N1.out)
  go_wp2_with fail
  refine (Ra.out _ B5.out).mono ?_
  rintro e w6 ⟨rfl, hb6⟩
  have B6 := hide (bthen B5.out hb6)
  clear hb6 Ra d0 d1 d2 d3 d4 d5 d6 B5
  obtain ⟨e0, e1, e2, e3, e4, e5, e6⟩ := seven_cells ((B6.out.block q (heap_lt N2.out)).trans N2.out)
  cases ma
  · have CL1 := hide (CL.out w6 (HK.out.on HT.out B6.out))
    go_wp2_with fail
    refine CL1.out.mono ?_
    rintro e w8 ⟨rfl, hb8⟩
    have B8 := hide (bthen HB.out (bthen B6.out hb8))
    clear hb8
    go_wp2_with fail
    go_ret
    exact ⟨rfl, B8.out⟩
  go_wp2_with fail
  refine (Rb.out _ B6.out).mono ?_
  rintro e w7 ⟨rfl, hb7⟩
  have B7 := hide (bthen B6.out hb7)
  clear hb7 Rb e0 e1 e2 e3 e4 e5 e6 B6
  cases mb
  · have CL1 := hide (CL.out w7 (HK.out.on HT.out B7.out))
    go_wp2_with fail
    refine CL1.out.mono ?_
    rintro e w8 ⟨rfl, hb8⟩
    have B8 := hide (bthen HB.out (bthen B7.out hb8))
    clear hb8
    go_wp2_with fail
    go_ret
    exact ⟨rfl, B8.out⟩
  obtain ⟨d0, d1, d2, d3, d4, d5, d6⟩ := seven_cells ((B7.out.block p (heap_lt N1.out)).trans N1.out)
  obtain ⟨e0, e1, e2, e3, e4, e5, e6⟩ := seven_cells ((B7.out.block q (heap_lt N2.out)).trans N2.out)
  have hts := HE.out (by simp) (by simp)
  clear HE
  go_wp2_with fail
  refine (Rs.out _ B7.out).mono ?_
  rintro e w8 ⟨rfl, hb8⟩
  have B8 := hide (bthen B7.out hb8)
  have CL1 := hide (CL.out w8 (HK.out.on HT.out B8.out))
  clear hb8 d0 d1 d2 d3 d4 d5 d6 e0 e1 e2 e3 e4 e5 e6
  have hss : (s == s) = true := by simp
  go_wp2_with fail
  refine CL1.out.mono ?_
  rintro e w9 ⟨rfl, hb9⟩
  have B9 := hide (bthen HB.out (bthen B8.out hb9))
  clear hb9
  go_wp2_with fail
  go_ret
  exact ⟨rfl, B9.out⟩
end Go.Proofs.YtpkikfojiibdaaaDoor
