/- The law AttrOrder. -/
import Derived.Test.YtpkikfojiibdaaaDoorL2
namespace Go.Proofs.YtpkikfojiibdaaaDoor
open Go.RowKit

theorem boxes2 (w : World) (x y : Array Value) (t u : TypeId) : ((w.alloc (.cells x t)).alloc (.cells y u)).heap[w.heap.size]? = some (.cells x t (0, 0)) ∧ ((w.alloc (.cells x t)).alloc (.cells y u)).heap[w.heap.size + 1]? = some (.cells y u (0, 0)) ∧ Below w.heap.size w ((w.alloc (.cells x t)).alloc (.cells y u)) := by
  have h1 := heap_new w x t
  have h2 := heap_new (w.alloc (.cells x t)) y u
  have hb := balloc (brefl (w.alloc (.cells x t))) (.cells y u)
  rw [show (w.alloc (.cells x t)).heap.size = w.heap.size + 1 by simp] at h2
  exact ⟨(hb.block _ (heap_lt h1)).trans h1, h2, balloc (balloc (brefl w) _) _⟩
theorem boxes3 (w : World) (x y z : Array Value) (t u v : TypeId) : (((w.alloc (.cells x t)).alloc (.cells y u)).alloc (.cells z v)).heap[w.heap.size]? = some (.cells x t (0, 0)) ∧ (((w.alloc (.cells x t)).alloc (.cells y u)).alloc (.cells z v)).heap[w.heap.size + 1]? = some (.cells y u (0, 0)) ∧ (((w.alloc (.cells x t)).alloc (.cells y u)).alloc (.cells z v)).heap[w.heap.size + 1 + 1]? = some (.cells z v (0, 0)) ∧ Below w.heap.size w (((w.alloc (.cells x t)).alloc (.cells y u)).alloc (.cells z v)) := by
  obtain ⟨h1, h2, h3⟩ := boxes2 w x y t u
  have h4 := heap_new ((w.alloc (.cells x t)).alloc (.cells y u)) z v
  have hb := balloc (brefl ((w.alloc (.cells x t)).alloc (.cells y u))) (.cells z v)
  rw [show ((w.alloc (.cells x t)).alloc (.cells y u)).heap.size = w.heap.size + 1 + 1 by simp] at h4
  exact ⟨(hb.block _ (heap_lt h1)).trans h1, (hb.block _ (heap_lt h2)).trans h2, h4, balloc h3 _⟩
set_option maxHeartbeats 8000000 in
set_option maxRecDepth 100000 in
theorem law_order {T : World → Prop} (K : Kit T) (a b c : At) (po co ko : Option Addr) (cp cc ck : Nat) (po' co' ko' : Option Addr) (cp' cc' ck' : Nat) (po'' co'' ko'' : Option Addr) (cp'' cc'' ck'' : Nat) (w : World) (hT : T w) (hA : At.lies w a po co ko) (hB : At.lies w b po' co' ko') (hC : At.lies w c po'' co'' ko'') :
    Calls Tryd.prog 4 #[.agg #[.int .i64 a.pf, .int .i64 a.md, .int .i64 a.og, .slice po a.path.length cp, .slice co a.comms.length cc, .int .i64 a.fr, .slice ko a.cl.length ck], .agg #[.int .i64 b.pf, .int .i64 b.md, .int .i64 b.og, .slice po' b.path.length cp', .slice co' b.comms.length cc', .int .i64 b.fr, .slice ko' b.cl.length ck'], .agg #[.int .i64 c.pf, .int .i64 c.md, .int .i64 c.og, .slice po'' c.path.length cp'', .slice co'' c.comms.length cc'', .int .i64 c.fr, .slice ko'' c.cl.length ck'']] w fun e w' => e = .returned (.bool true) ∧ Below w.heap.size w w' := by
  obtain ⟨h1, h2, h3, hbb⟩ := boxes3 w #[.int .i64 a.pf, .int .i64 a.md, .int .i64 a.og, .slice po a.path.length cp, .slice co a.comms.length cc, .int .i64 a.fr, .slice ko a.cl.length ck] #[.int .i64 b.pf, .int .i64 b.md, .int .i64 b.og, .slice po' b.path.length cp', .slice co' b.comms.length cc', .int .i64 b.fr, .slice ko' b.cl.length ck'] #[.int .i64 c.pf, .int .i64 c.md, .int .i64 c.og, .slice po'' c.path.length cp'', .slice co'' c.comms.length cc'', .int .i64 c.fr, .slice ko'' c.cl.length ck''] 25 25 25
  have N1 := hide h1
  have N2 := hide h2
  have N3 := hide h3
  have HB := hide hbb
  clear h1 h2 h3 hbb
  have CL := hide (fun W hW => lives_is K W hW)
  have LA := hide (At.lies_below hA HB.out)
  have LB := hide (At.lies_below hB HB.out)
  have LC := hide (At.lies_below hC HB.out)
  have HT := hide (K.on hT HB.out)
  have HK := hide K
  obtain ⟨fa, hfa⟩ : ∃ r, few3 a.path.length a.comms.length a.cl.length = r := ⟨_, rfl⟩
  obtain ⟨fb, hfb⟩ : ∃ r, few3 b.path.length b.comms.length b.cl.length = r := ⟨_, rfl⟩
  obtain ⟨fc, hfc⟩ : ∃ r, few3 c.path.length c.comms.length c.cl.length = r := ⟨_, rfl⟩
  have Fa := hide (fun W => few_is a.pf a.md a.og a.fr po co ko _ _ _ cp cc ck fa hfa W)
  have Fb := hide (fun W => few_is b.pf b.md b.og b.fr po' co' ko' _ _ _ cp' cc' ck' fb hfb W)
  have Fc := hide (fun W => few_is c.pf c.md c.og c.fr po'' co'' ko'' _ _ _ cp'' cc'' ck'' fc hfc W)
  have HFa := hide hfa
  have HFb := hide hfb
  have HFc := hide hfc
  clear hfa hfb hfc hA hB hC hT K
  go_enter Tryd.func4, Tryd.ntmps4
  go_wp2_with fail
  generalize ((w.alloc (.cells #[.int .i64 a.pf, .int .i64 a.md, .int .i64 a.og, .slice po a.path.length cp, .slice co a.comms.length cc, .int .i64 a.fr, .slice ko a.cl.length ck] 25)).alloc (.cells #[.int .i64 b.pf, .int .i64 b.md, .int .i64 b.og, .slice po' b.path.length cp', .slice co' b.comms.length cc', .int .i64 b.fr, .slice ko' b.cl.length ck'] 25)).alloc (.cells #[.int .i64 c.pf, .int .i64 c.md, .int .i64 c.og, .slice po'' c.path.length cp'', .slice co'' c.comms.length cc'', .int .i64 c.fr, .slice ko'' c.cl.length ck''] 25) = W at *
  obtain ⟨p, hp⟩ : ∃ p, w.heap.size = p := ⟨_, rfl⟩
  rw [hp] at N1 N2 N3
  rw [hp]
  clear hp
  generalize hq : p + 1 = q at *
  generalize hr : q + 1 = r at *
  clear hq hr
  cases fa
  · refine (Fa.out _).mono ?_
    rintro e w1 ⟨rfl, hb1⟩
    have B1 := hide (bthen HB.out hb1)
    have CL1 := hide (CL.out w1 (HK.out.on HT.out hb1))
    clear hb1
    go_wp2_with fail
    refine CL1.out.mono ?_
    rintro e w2 ⟨rfl, hb2⟩
    have B2 := hide (bthen B1.out hb2)
    clear hb2
    go_wp2_with fail
    go_ret
    exact ⟨rfl, B2.out⟩
  refine (Fa.out _).mono ?_
  rintro e w1 ⟨rfl, hb1⟩
  have B1 := hide hb1
  obtain ⟨d0, d1, d2, d3, d4, d5, d6⟩ := seven_cells ((hb1.block q (heap_lt N2.out)).trans N2.out)
  clear hb1
  go_wp2_with fail
  cases fb
  · refine (Fb.out _).mono ?_
    rintro e w2 ⟨rfl, hb2⟩
    have B2 := hide (bthen B1.out hb2)
    have CL1 := hide (CL.out w2 (HK.out.on HT.out B2.out))
    clear hb2
    go_wp2_with fail
    refine CL1.out.mono ?_
    rintro e w3 ⟨rfl, hb3⟩
    have B3 := hide (bthen HB.out (bthen B2.out hb3))
    clear hb3
    go_wp2_with fail
    go_ret
    exact ⟨rfl, B3.out⟩
  refine (Fb.out _).mono ?_
  rintro e w2 ⟨rfl, hb2⟩
  have B2 := hide (bthen B1.out hb2)
  clear hb2 d0 d1 d2 d3 d4 d5 d6
  obtain ⟨d0, d1, d2, d3, d4, d5, d6⟩ := seven_cells ((B2.out.block r (heap_lt N3.out)).trans N3.out)
  go_wp2_with fail
  cases fc
  · refine (Fc.out _).mono ?_
    rintro e w3 ⟨rfl, hb3⟩
    have B3 := hide (bthen B2.out hb3)
    have CL1 := hide (CL.out w3 (HK.out.on HT.out B3.out))
    clear hb3
    go_wp2_with fail
    refine CL1.out.mono ?_
    rintro e w4 ⟨rfl, hb4⟩
    have B4 := hide (bthen HB.out (bthen B3.out hb4))
    clear hb4
    go_wp2_with fail
    go_ret
    exact ⟨rfl, B4.out⟩
  refine (Fc.out _).mono ?_
  rintro e w3 ⟨rfl, hb3⟩
  have B3 := hide (bthen B2.out hb3)
  clear hb3 d0 d1 d2 d3 d4 d5 d6 Fa Fb Fc B1 B2
  obtain ⟨ma1, ma2, ma3⟩ := (few3_iff _ _ _).1 HFa.out
  obtain ⟨mb1, mb2, mb3⟩ := (few3_iff _ _ _).1 HFb.out
  obtain ⟨mc1, mc2, mc3⟩ := (few3_iff _ _ _).1 HFc.out
  obtain ⟨x, hx⟩ : ∃ x, At.cmp a b = x := ⟨_, rfl⟩
  obtain ⟨y, hy⟩ : ∃ x, At.cmp b c = x := ⟨_, rfl⟩
  obtain ⟨z, hz⟩ : ∃ x, At.cmp a c = x := ⟨_, rfl⟩
  have H3 : Hid (Cm.Co.three x y z) := by show Cm.Co.three x y z; rw [← hx, ← hy, ← hz]; exact At.cmp_three a b c
  have HNx : Hid (At.cmp b a = -x) := by show _ = _; rw [← hx]; exact At.cmp_neg a b
  have Cab := hide (fun W' (hb : Below W.heap.size W W') => HK.out.compare a b po co ko cp cc ck po' co' ko' cp' cc' ck' x hx W' (HK.out.on HT.out hb) (At.lies_below LA.out hb) (At.lies_below LB.out hb) ma1 ma2 ma3 mb1 mb2 mb3)
  have Cbc := hide (fun W' (hb : Below W.heap.size W W') => HK.out.compare b c po' co' ko' cp' cc' ck' po'' co'' ko'' cp'' cc'' ck'' y hy W' (HK.out.on HT.out hb) (At.lies_below LB.out hb) (At.lies_below LC.out hb) mb1 mb2 mb3 mc1 mc2 mc3)
  have Cac := hide (fun W' (hb : Below W.heap.size W W') => HK.out.compare a c po co ko cp cc ck po'' co'' ko'' cp'' cc'' ck'' z hz W' (HK.out.on HT.out hb) (At.lies_below LA.out hb) (At.lies_below LC.out hb) ma1 ma2 ma3 mc1 mc2 mc3)
  have Cba := hide (fun W' (hb : Below W.heap.size W W') => HK.out.compare b a po' co' ko' cp' cc' ck' po co ko cp cc ck (-x) HNx.out W' (HK.out.on HT.out hb) (At.lies_below LB.out hb) (At.lies_below LA.out hb) mb1 mb2 mb3 ma1 ma2 ma3)
  have Caa := hide (fun W' (hb : Below W.heap.size W W') => HK.out.compare a a po co ko cp cc ck po co ko cp cc ck 0 ((At.cmp_zero a a).2 rfl) W' (HK.out.on HT.out hb) (At.lies_below LA.out hb) (At.lies_below LA.out hb) ma1 ma2 ma3 ma1 ma2 ma3)
  have Rab := hide (fun W' (hb : Below W.heap.size W W') => refCmp_is a b po co ko po' co' ko' cp cc ck cp' cc' ck' x hx W' (At.lies_below LA.out hb) (At.lies_below LB.out hb) ma1 ma2 ma3 mb2)
  clear hx hy hz HNx ma1 ma2 ma3 mb1 mb2 mb3 mc1 mc2 mc3 LA LB LC HFa HFb HFc
  obtain ⟨d0, d1, d2, d3, d4, d5, d6⟩ := seven_cells ((B3.out.block p (heap_lt N1.out)).trans N1.out)
  obtain ⟨e0, e1, e2, e3, e4, e5, e6⟩ := seven_cells ((B3.out.block q (heap_lt N2.out)).trans N2.out)
  obtain ⟨f0, f1, f2, f3, f4, f5, f6⟩ := seven_cells ((B3.out.block r (heap_lt N3.out)).trans N3.out)
  have rd0 := fun dd os => cell_regrown d0 dd os
  have rd1 := fun dd os => cell_regrown d1 dd os
  have rd2 := fun dd os => cell_regrown d2 dd os
  have rd3 := fun dd os => cell_regrown d3 dd os
  have rd4 := fun dd os => cell_regrown d4 dd os
  have rd5 := fun dd os => cell_regrown d5 dd os
  have rd6 := fun dd os => cell_regrown d6 dd os
  have re0 := fun dd os => cell_regrown e0 dd os
  have re1 := fun dd os => cell_regrown e1 dd os
  have re2 := fun dd os => cell_regrown e2 dd os
  have re3 := fun dd os => cell_regrown e3 dd os
  have re4 := fun dd os => cell_regrown e4 dd os
  have re5 := fun dd os => cell_regrown e5 dd os
  have re6 := fun dd os => cell_regrown e6 dd os
  have rf0 := fun dd os => cell_regrown f0 dd os
  have rf1 := fun dd os => cell_regrown f1 dd os
  have rf2 := fun dd os => cell_regrown f2 dd os
  have rf3 := fun dd os => cell_regrown f3 dd os
  have rf4 := fun dd os => cell_regrown f4 dd os
  have rf5 := fun dd os => cell_regrown f5 dd os
  have rf6 := fun dd os => cell_regrown f6 dd os
  clear d0 d1 d2 d3 d4 d5 d6 e0 e1 e2 e3 e4 e5 e6 f0 f1 f2 f3 f4 f5 f6
  go_wp2_with fail
  refine wp_region_quiet_below (by kernel_rfl) (by kernel_rfl) ?_
  iterate 3 (go_big_quiet_step ((go_at_call 14; exact Calls.regrown_of (Cab.out _ (bthen B3.out (below_regrown _ _ _))))))
  iterate 3 (go_big_quiet_step ((go_at_call 14; exact Calls.regrown_of (Cbc.out _ (bthen B3.out (below_regrown _ _ _))))))
  iterate 3 (go_big_quiet_step ((go_at_call 14; exact Calls.regrown_of (Cac.out _ (bthen B3.out (below_regrown _ _ _))))))
  repeat (go_big_quiet_step (fail))
  refine wpQuiet_nil ?_
  rintro _ ⟨⟨dd, os⟩, rfl⟩
  have hb4 := below_regrown w3 dd os
  generalize Sort.grow (redrawn w3 dd) os = w4 at hb4
  have B4 := hide (bthen B3.out hb4)
  clear hb4 B3 Cab Cbc Cac rd0 rd1 rd2 rd3 rd4 rd5 rd6 re0 re1 re2 re3 re4 re5 re6 rf0 rf1 rf2 rf3 rf4 rf5 rf6
  obtain ⟨d0, d1, d2, d3, d4, d5, d6⟩ := seven_cells ((B4.out.block p (heap_lt N1.out)).trans N1.out)
  obtain ⟨e0, e1, e2, e3, e4, e5, e6⟩ := seven_cells ((B4.out.block q (heap_lt N2.out)).trans N2.out)
  go_wp2_with fail
  refine (Rab.out _ B4.out).mono ?_
  rintro e w5 ⟨rfl, hb5⟩
  have B5 := hide (bthen B4.out hb5)
  clear hb5 Rab d0 d1 d2 d3 d4 d5 d6 e0 e1 e2 e3 e4 e5 e6 B4
  obtain ⟨d0, d1, d2, d3, d4, d5, d6⟩ := seven_cells ((B5.out.block p (heap_lt N1.out)).trans N1.out)
  obtain ⟨e0, e1, e2, e3, e4, e5, e6⟩ := seven_cells ((B5.out.block q (heap_lt N2.out)).trans N2.out)
  have hxx : (x != x) = false := by simp
  go_wp2_with fail
  refine (Cba.out _ B5.out).mono ?_
  rintro e w6 ⟨rfl, hb6⟩
  have B6 := hide (bthen B5.out hb6)
  clear hb6 Cba d0 d1 d2 d3 d4 d5 d6 e0 e1 e2 e3 e4 e5 e6 B5
  obtain ⟨d0, d1, d2, d3, d4, d5, d6⟩ := seven_cells ((B6.out.block p (heap_lt N1.out)).trans N1.out)
  have hrx : -1 ≤ x ∧ x ≤ 1 := by
    have := H3.out
    unfold Cm.Co.three at this
    omega
  obtain ⟨hrx1, hrx2⟩ := hrx
  go_wp2_with fail
  refine (Caa.out _ B6.out).mono ?_
  rintro e w7 ⟨rfl, hb7⟩
  have B7 := hide (bthen B6.out hb7)
  have CL1 := hide (CL.out w7 (HK.out.on HT.out B7.out))
  clear hb7 Caa d0 d1 d2 d3 d4 d5 d6 B6 hxx hrx1 hrx2
  have h3 := H3.out
  unfold Cm.Co.three at h3
  clear H3
  rcases h3 with h | ⟨h, k⟩ | ⟨h, k, l⟩ | ⟨h, k, l⟩ | ⟨h, k⟩ | ⟨h, k, l⟩ | ⟨h, k, l⟩ <;> subst_vars
  all_goals
    go_wp2_with fail
    refine CL1.out.mono ?_
    rintro e w8 ⟨rfl, hb8⟩
    have B8 := hide (bthen HB.out (bthen B7.out hb8))
    clear hb8
    go_wp2_with fail
    go_ret
    exact ⟨rfl, B8.out⟩
end Go.Proofs.YtpkikfojiibdaaaDoor
