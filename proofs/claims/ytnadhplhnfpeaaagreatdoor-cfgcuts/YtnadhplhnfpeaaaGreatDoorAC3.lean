/- A text that is parsed, cut behind one of its tokens, is parsed, or ends too early, at the place behind it. Conditions: the row's own, with the package variables that the row lays. -/
import Derived.Test.YtnadhplhnfpeaaaGreatDoorAZ
import Derived.Test.YtnadhplhnfpeaaaGreatDoorAC2
import Derived.Test.YtnadhplhnfpeaaaGreatDoorRows
import Derived.Test.YtnadhplhnfpeaaaGreatDoorCards
import Derived.Test.YtnadhplhnfpeaaaGreatDoorTie
import Derived.ProofKit
import Derived.LaidMore
import Derived.Lay
import Derived.MakeChecks
import Derived.OpenShut
import Derived.Carry
import Derived.Stop.Joined
import Derived.SevenTiedAt
namespace Go.Proofs.YtnadhplhnfpeaaaGreatDoor
theorem jn_size (l : List (Nat × List UInt8)) : (Lx.jn l).length ≤ (l.map fun t => (Lx.wr t.1 t.2).length + 1).sum := by
 induction l with
 | nil => simp [Lx.jn]
 | cons t l ih =>
  obtain ⟨k, s⟩ := t
  have h1 : (if k = 2 then [10] else if l.isEmpty then ([] : List UInt8) else [32]).length ≤ 1 := by
   split
   ·
    simp
   split <;> simp
  simp only [Lx.jn, List.length_append, List.map_cons, List.sum_cons]
  omega
theorem sc_sum {b : Nat} {r : List UInt8} {f : Nat} {ts : List Lx.Tok} {o : Option (Nat × Int)} (h : Lx.Sc b r f ts o) : ((ts.map Lx.Tok.bare).map fun t => (Lx.wr t.1 t.2).length + 1).sum ≤ 2 * r.length := by
 induction h with
 | nil => simp
 | bad => simp
 | @more b r f f' n t ts o hr hs _ ih =>
  have hp := Lx.stp_pos hr hs
  rw [List.length_drop] at ih
  rw [List.map_append, List.map_append, List.sum_append]
  cases t with
  | none => simp only [Lx.tokOf, List.map_nil, List.sum_nil]; omega
  | some x =>
   obtain ⟨k, s⟩ := x
   obtain ⟨_, _, h3⟩ := Lx.stp_good hs
   simp only [Lx.tokOf, List.map_cons, List.map_nil, Lx.Tok.bare, List.sum_cons, List.sum_nil]
   omega
theorem sum_take (l : List Nat) (n : Nat) : (l.take n).sum ≤ l.sum := by
 induction l generalizing n with
 | nil => simp
 | cons a l ih =>
  cases n with
  | zero => simp
  | succ n => simp only [List.take_succ_cons, List.sum_cons]; have := ih n; omega
theorem cut_size {s : ByteArray} {ts : List Lx.Tok} (h : Lx.Sc 0 (Lx.lst s) 2 ts none) (n : Nat) : (Lx.jn ((ts.take n).map Lx.Tok.bare)).length ≤ 2 * s.size := by
 have h1 := jn_size ((ts.take n).map Lx.Tok.bare)
 have h2 := sc_sum h
 rw [Lx.lst_size] at h2
 rw [List.map_take, List.map_take] at h1
 have h3 := sum_take (((ts.map Lx.Tok.bare).map fun t => (Lx.wr t.1 t.2).length + 1)) n
 rw [List.map_take]
 omega
theorem cut_par {s t : ByteArray} {c : Cf} {ts ts2 : List Lx.Tok} {m : Int × Int} (n : Nat) (h : par s ts = (some c, .good [] m)) (hb : ts2.map Lx.Tok.bare = (ts.take n).map Lx.Tok.bare) : (∃ y m, par t ts2 = (some y, .good [] m)) ∨ par t ts2 = (none, .bad (enL t).1 (enL t).2 3) := by
 have hb2 : (ts.map (tvOf (Lx.lst s))).map Tv.bare = (ts2.map (tvOf (Lx.lst t)) ++ (ts.drop n).map (tvOf (Lx.lst s))).map Tv.bare := by
  rw [List.map_append, tv_bare (l := Lx.lst t) (l' := Lx.lst s) hb, ← List.map_append, ← List.map_append, List.take_append_drop]
 have h1 := (run_like (pCf Kn.fn12 FU FU .nil) (enL s) (enL s) (0, 0) (0, 0) hb2).1
 have h' : (pCf Kn.fn12 FU FU .nil).run (enL s) (ts.map (tvOf (Lx.lst s))) (0, 0) = (some c, .good [] m) := h
 rw [h'] at h1
 cases hr : (pCf Kn.fn12 FU FU .nil).run (enL s) (ts2.map (tvOf (Lx.lst t)) ++ (ts.drop n).map (tvOf (Lx.lst s))) (0, 0) with
 | mk o st =>
  rw [hr] at h1
  obtain rfl : some c = o := h1
  exact cf_cut Kn.fn12 FU FU .nil (enL s) (enL t) hr
theorem cut_res {s : ByteArray} {ts : List Lx.Tok} {c : Cf} {p q : Int} (h : PRes s c p q 0) (hr : Lx.RIs s ts) (hs : s.size ≤ 2000) (n : Nat) (hn : n ≤ ts.length) {c' : Cf} {p' q' x' : Int} (h2 : PRes (Lx.txt (Lx.jn ((ts.take n).map Lx.Tok.bare))) c' p' q' x') : (x' = 0 ∧ p' = 0 ∧ q' = 0) ∨ (x' = 3 ∧ (p', q') = enL (Lx.txt (Lx.jn ((ts.take n).map Lx.Tok.bare))) ∧ c' = .nil) := by
 obtain ⟨ts0, m, h8, hsc, hp⟩ := res_ok h
 have key : ∃ n0, (ts.take n).map Lx.Tok.bare = (ts0.take n0).map Lx.Tok.bare := by
  rcases hr with rfl | ⟨hr, _⟩
  ·
   exact ⟨0, by simp⟩
  obtain ⟨rfl, _⟩ := hr.det hsc
  exact ⟨n, rfl⟩
 obtain ⟨n0, e0⟩ := key
 rw [e0] at h2 ⊢
 obtain ⟨ts2, h3, h4⟩ := Lx.jn_scan ((ts0.take n0).map Lx.Tok.bare) (by
   intro t ht
   obtain ⟨t', ht', rfl⟩ := List.mem_map.1 ht
   exact hsc.good t' (List.mem_of_mem_take ht')) 0
 have hz := cut_size hsc n0
 rcases res_of h2 (ts := ts2) h3 (by rw [Lx.txt_size]; omega) with ⟨m2, k1, k2, k3, k4⟩ | ⟨p1, q1, e, k1, k2, k3, k4, k5, k6⟩
 ·
  exact .inl ⟨k4, k2, k3⟩
 rcases cut_par (t := Lx.txt (Lx.jn ((ts0.take n0).map Lx.Tok.bare))) n0 hp h4 with ⟨y, m3, h5⟩ | h5
 ·
  rw [h5] at k1; cases k1
 rw [h5] at k1
 cases k1
 exact .inr ⟨k6, by rw [k4, k5], k3⟩
end Go.Proofs.YtnadhplhnfpeaaaGreatDoor
namespace Go.Proofs.YtnadhplhnfpeaaaGreatDoor
open Go.RowKit Go.Sort
theorem grown_below {W wr : World} (h : Below W.heap.size W wr) (d : Nat) (os : Array Obj) : Below W.heap.size W (Sort.grow (redrawn wr d) os) := bthen h (below_regrown wr d os)
theorem ref_row {w : World} {B : Nat} {v : Value} {l : List UInt8} {ts : List Lx.Tok} (h : w.ownsRow B 84 4 v ts.length (Lx.Tok.cells l ts)) : ∃ ao c, v = .slice ao ts.length c ∧ ts.length ≤ c ∧ Lx.Tv.slot w ao (ts.map (Lx.Tok.tv l)) := by
 obtain ⟨ao, c, hv, hs⟩ := Lx.Tv.slot_row (Lx.row_tv h)
 rw [List.length_map] at hv
 refine ⟨ao, c, hv, ?_, hs⟩
 rcases h.2 with ⟨hv', h0⟩ | ⟨g, cap, cur, hv', hB, hg, hc, _⟩
 ·
  omega
 rw [hv] at hv'
 cases hv'
 exact hc
theorem slot_take {w : World} {ao : Option Addr} {l : List Lx.Tv} (h : Lx.Tv.slot w ao l) (n : Nat) : Lx.Tv.slot w ao (l.take n) := by
 rcases h with rfl | ⟨b, off, h, hr⟩
 ·
  exact .inl (by simp)
 refine .inr ⟨b, off, h, fun j hj => ?_⟩
 rw [List.length_take] at hj
 rw [List.getElem_take]
 exact hr j (by omega)
theorem refJoin_cut {ao : Option Addr} {c : Nat} {l : List UInt8} {ts : List Lx.Tok} (n : Nat) (hn : n ≤ ts.length) (hts : ts.length ≤ 100000) (hg : ∀ t ∈ ts, t.s.length ≤ 64) (w : World) (hs : Lx.Tv.slot w ao (ts.map (Lx.Tok.tv l))) :
    Calls Tryz.prog 14 #[.slice ao n c] w fun e w' => e = .returned (.string (Lx.txt (Lx.jn ((ts.take n).map Lx.Tok.bare)))) ∧ w = w' := by
 have h1 := Lx.refJoin_is ao c ((ts.take n).map (Lx.Tok.tv l)) (by rw [List.length_map, List.length_take]; omega) (by
   intro t ht
   obtain ⟨t', ht', rfl⟩ := List.mem_map.1 ht
   have := hg t' (List.mem_of_mem_take ht')
   show (Lx.txt t'.s).size ≤ 100000
   rw [Lx.txt_size]
   omega) w (by rw [List.map_take]; exact slot_take hs n)
 rw [List.length_map, List.length_take, Nat.min_eq_left hn, Lx.join_jn] at h1
 exact h1
theorem ris_facts {s : ByteArray} {ts : List Lx.Tok} (h : Lx.RIs s ts) : ts.length ≤ 8192 ∧ ∀ t ∈ ts, t.s.length ≤ 64 := by
 rcases h with rfl | ⟨h, h8⟩
 ·
  exact ⟨by simp, by simp⟩
 refine ⟨?_, fun t ht => Lx.good_size (h.good t ht)⟩
 have := h.count
 rw [Lx.lst_size] at this
 omega
theorem nil_rd {w : World} {v1 v2 v3 : Value} (h : CfR w .nil v1 v2 v3) (w' : World) : CfR w' .nil v1 v2 v3 := by
 obtain ⟨⟨a, b, h1, _⟩, ⟨c, d, h2, _⟩, ⟨e, f, h3, _⟩⟩ := h
 exact ⟨⟨a, b, h1, .inl rfl⟩, ⟨c, d, h2, .inl rfl⟩, ⟨e, f, h3, .inl rfl⟩⟩
theorem zero_rd (w : World) : CfR w .nil (.slice none 0 0) (.slice none 0 0) (.slice none 0 0) := ⟨⟨none, 0, rfl, .inl rfl⟩, ⟨none, 0, rfl, .inl rfl⟩, ⟨none, 0, rfl, .inl rfl⟩⟩
set_option maxHeartbeats 4000000 in
set_option maxRecDepth 100000 in
theorem law_cuts (s : ByteArray) (cut : Int) (w : World) (hT : Ar.Y4.Pt w) : Calls Tryz.prog 5 #[.string s, .int .i64 cut] w fun e w' => e = .returned (.bool true) ∧ Below w.heap.size w w' := by
 have CL := hide (fun W (hW : Below w.heap.size w W) => lives_is W (hT.on hW))
 by_cases h2 : 2000 < s.size
 ·
  have h2' : (2000 : Int) < (s.size : Int) := by omega
  clear h2 hT
  go_enter Tryz.func5, Tryz.ntmps5
  go_wp2_with fail
  refine (CL.out _ (brefl w)).mono ?_
  rintro e w1 ⟨rfl, hb⟩
  go_wp2_with fail
  go_ret
  exact ⟨rfl, hb⟩
 have h2' : ¬ (2000 : Int) < (s.size : Int) := by omega
 have CP := hide (parse_any s (by omega) w hT)
 have CR := hide (fun W => Lx.refScan_is s (by omega) W)
 have CQ := hide (fun (t : ByteArray) (ht : t.size ≤ 100000) W (hW : Below w.heap.size w W) => parse_any t ht W (hT.on hW))
 have HS : Hid (s.size ≤ 2000) := by show _ ≤ _; omega
 clear hT h2
 go_enter Tryz.func5, Tryz.ntmps5
 go_wp2_with fail
 refine CP.out.mono ?_
 rintro e w1 ⟨c, y1, m1, j1, y2, m2, j2, y3, m3, j3, p, q, x, rfl, _, hres, hb⟩
 have HRES := hide hres
 have B2 := hide (bthen hb (balloc (balloc (brefl w1) (.cells #[.slice y1 m1 j1, .slice y2 m2 j2, .slice y3 m3 j3] 33)) (.cells #[.int .i64 p, .int .i64 q] 35)))
 clear hb hres CP
 go_upto_region 4 with fail
 generalize (w1.alloc (.cells #[.slice y1 m1 j1, .slice y2 m2 j2, .slice y3 m3 j3] 33)).alloc (.cells #[.int .i64 p, .int .i64 q] 35) = W2 at *
 go_wp2_with fail
 refine (CR.out W2).mono ?_
 rintro e w3 ⟨v, ts, p2, q2, c2, rfl, hrow, hris, hb3⟩
 have A4 := balloc (brefl w3) (.cells #[.int .i64 p2, .int .i64 q2] 35)
 obtain ⟨ao, cp, rfl, hcp, hsl⟩ := ref_row hrow
 have SL := hide (Lx.Tv.slot_below hsl A4)
 have B4 := hide (bthen (bthen B2.out hb3) A4)
 have HRIS := hide hris
 have HCP := hide hcp
 clear hrow hris hb3 A4 hcp hsl B2 CR
 go_upto_region 5 with fail
 generalize w3.alloc (.cells #[.int .i64 p2, .int .i64 q2] 35) = W4 at *
 obtain ⟨N, hN⟩ : ∃ N, ts.length = N := ⟨_, rfl⟩
 have HN := hide hN
 rw [hN] at HCP ⊢
 clear hN
 by_cases hx : x = 0
 ·
  subst hx
  by_cases hc0 : cut < 0
  ·
   clear HRES HRIS SL CQ
   go_wp2_with fail
   refine (CL.out _ B4.out).mono ?_
   rintro e w1 ⟨rfl, hb⟩
   have BZ := hide (bthen B4.out hb)
   clear hb
   go_wp2_with fail
   go_ret
   exact ⟨rfl, BZ.out⟩
  obtain ⟨n, rfl⟩ : ∃ n : Nat, cut = n := ⟨cut.toNat, by omega⟩
  by_cases hcn : N < n
  ·
   have hcn' : (N : Int) < (n : Int) := by omega
   clear HRES HRIS SL CQ
   go_wp2_with fail
   refine (CL.out _ B4.out).mono ?_
   rintro e w1 ⟨rfl, hb⟩
   have BZ := hide (bthen B4.out hb)
   clear hb
   go_wp2_with fail
   go_ret
   exact ⟨rfl, BZ.out⟩
  have hcn' : ¬ (N : Int) < (n : Int) := by omega
  have hnn : n ≤ N := by omega
  have hcp := HCP.out
  have hncp : n ≤ cp := by omega
  obtain ⟨J, hJ⟩ : ∃ J, Lx.txt (Lx.jn ((ts.take n).map Lx.Tok.bare)) = J := ⟨_, rfl⟩
  have HJZ : Hid (J.size ≤ 100000) := by
   show _ ≤ _
   rw [← hJ, Lx.txt_size]
   rcases HRIS.out with h | ⟨h, _⟩
   ·
    rw [h]; simp [Lx.jn]
   have := cut_size h n
   have := HS.out
   omega
  have CJ : Hid (Calls Tryz.prog 14 #[.slice ao n cp] W4 fun e w' => e = .returned (.string J) ∧ W4 = w') := by
   rw [← hJ]
   exact refJoin_cut n (by rw [HN.out]; exact hnn) (Nat.le_trans (ris_facts HRIS.out).1 (by decide)) (ris_facts HRIS.out).2 W4 SL.out
  have HCUT := hide (fun c' p' q' x' (h : PRes J c' p' q' x') => cut_res (c' := c') (p' := p') (q' := q') (x' := x') HRES.out HRIS.out HS.out n (by rw [HN.out]; exact hnn) (by rw [hJ]; exact h))
  rw [hJ] at HCUT
  clear hJ HRES HRIS SL
  go_upto_region 7 with fail
  go_wp2_with fail
  refine CJ.out.mono ?_
  rintro e w5 ⟨rfl, rfl⟩
  clear CJ
  go_upto_region 8 with fail
  go_wp2_with fail
  refine (CQ.out J HJZ.out W4 B4.out).mono ?_
  rintro e w6 ⟨c', r1, i1, l1, r2, i2, l2, r3, i3, l3, p', q', x', rfl, hcf, hres', hb6⟩
  have hcut := HCUT.out c' p' q' x' hres'
  have HCF := hide hcf
  clear HCUT hres' CQ hcf
  rcases hcut with ⟨rfl, rfl, rfl⟩ | ⟨rfl, hpq, rfl⟩
  ·
   obtain ⟨A7, _, N7⟩ := boxes2 w6 #[.slice r1 i1 l1, .slice r2 i2 l2, .slice r3 i3 l3] #[.int .i64 0, .int .i64 0] 33 35
   have B7 := hide (bthen (bthen B4.out hb6) A7)
   have N7 := hide N7
   clear A7 hb6 B4 HCF
   go_upto_region 9 with fail
   obtain ⟨t, ht⟩ : ∃ t, w6.heap.size + 1 = t := ⟨_, rfl⟩
   rw [ht] at N7 ⊢
   generalize (w6.alloc (.cells #[.slice r1 i1 l1, .slice r2 i2 l2, .slice r3 i3 l3] 33)).alloc (.cells #[.int .i64 0, .int .i64 0] 35) = W7 at *
   clear ht
   obtain ⟨d0, d1⟩ := two_cells2 N7.out
   go_wp2_with fail
   refine (CL.out _ B7.out).mono ?_
   rintro e w8 ⟨rfl, hb8⟩
   have BZ := hide (bthen B7.out hb8)
   clear hb8 d0 d1
   go_wp2_with fail
   go_ret
   exact ⟨rfl, BZ.out⟩
  obtain ⟨A7, M7, N7⟩ := boxes2 w6 #[.slice r1 i1 l1, .slice r2 i2 l2, .slice r3 i3 l3] #[.int .i64 p', .int .i64 q'] 33 35
  have B7 := hide (bthen (bthen B4.out hb6) A7)
  have N7 := hide N7
  have M7 := hide M7
  clear A7 hb6 B4
  go_upto_region 9 with fail
  obtain ⟨t, ht⟩ : ∃ t, w6.heap.size + 1 = t := ⟨_, rfl⟩
  obtain ⟨r, hr⟩ : ∃ r, w6.heap.size = r := ⟨_, rfl⟩
  rw [ht] at N7 ⊢
  rw [hr] at M7 ⊢
  generalize (w6.alloc (.cells #[.slice r1 i1 l1, .slice r2 i2 l2, .slice r3 i3 l3] 33)).alloc (.cells #[.int .i64 p', .int .i64 q'] 35) = W7 at *
  clear ht hr
  have CPl : Hid (∀ d os, Calls Tryz.prog 15 #[.string J, .int .i64 (J.size : Int)] (Sort.grow (redrawn W7 d) os) fun e w' => e = .returned (.agg #[.int .i64 p', .int .i64 q']) ∧ Below (Sort.grow (redrawn W7 d) os).heap.size (Sort.grow (redrawn W7 d) os) w') := by
   intro d os
   have h := Lx.refPlace_is J (J.size : Int) HJZ.out (Sort.grow (redrawn W7 d) os)
   rw [Int.toNat_natCast] at h
   obtain ⟨rfl, rfl⟩ := Prod.mk.inj hpq
   exact h
  have CS := hide (fun d os => same_is (c := .nil) (v1 := .slice r1 i1 l1) (v2 := .slice r2 i2 l2) (v3 := .slice r3 i3 l3) (Sort.grow (redrawn W7 d) os) (nil_rd HCF.out _) (zero_rd _) (few_nil.few (by decide)))
  have CL2 := hide (fun d os => CL.out (Sort.grow (redrawn W7 d) os) (grown_below B7.out d os))
  obtain ⟨d0, d1⟩ := two_cells2 N7.out
  have m0 := cell_of M7.out 0 rfl
  have m1 := cell_of M7.out 1 rfl
  have m2 := cell_of M7.out 2 rfl
  have rd0 := fun dd os => cell_regrown d0 dd os
  have rd1 := fun dd os => cell_regrown d1 dd os
  have rm0 := fun dd os => cell_regrown m0 dd os
  have rm1 := fun dd os => cell_regrown m1 dd os
  have rm2 := fun dd os => cell_regrown m2 dd os
  clear hpq HCF
  go_upto_region 11 with fail
  refine wp_region_quiet_below (by kernel_rfl) (by kernel_rfl) ?_
  repeat (go_big_quiet_step ((first | (go_at_call 15; exact Calls.regrown_of (CPl.out _ _)) | (go_at_call 12; exact Calls.regrown_of (CS.out _ _)) | (go_at_call 6; exact Calls.regrown_of (CL2.out _ _)))))
  refine wpQuiet_nil ?_
  rintro _ ⟨⟨dd, os⟩, rfl⟩
  have hb1 := grown_below B7.out dd os
  generalize Sort.grow (redrawn W7 dd) os = W9 at hb1
  have B9 := hide hb1
  clear hb1 d0 d1 m0 m1 m2 rd0 rd1 rm0 rm1 rm2
  go_wp2_with fail
  go_ret
  exact ⟨rfl, B9.out⟩
 have hx' : (x != 0) = true := by rw [bne_iff_ne]; exact hx
 clear HRES HRIS SL CQ
 go_wp2_with fail
 refine (CL.out _ B4.out).mono ?_
 rintro e w1 ⟨rfl, hb⟩
 have BZ := hide (bthen B4.out hb)
 clear hb
 go_wp2_with fail
 go_ret
 exact ⟨rfl, BZ.out⟩
end Go.Proofs.YtnadhplhnfpeaaaGreatDoor
namespace Go.Proofs.YtnadhplhnfpeaaaGreatDoor
open Go.ChangeShapes Go.WideShapes Go.ChangeAt Go.RowKit Go.Joins
open Go.ChangeMaps (open_string shut_string)
theorem cfgCuts_door (os : Os) (args : Array Value) : laidMetH Tryz.prog Rows.cfgCutsRow.laid ((World.laidAll Tryz.prog os Rows.cfgCutsRow.laid).forCall (fun _ _ => 0) ⟨#[], args, []⟩).memory := by
 rw [MakeChecks.laidMetH_plain _ _ _ (by kernel_rfl)]
 exact laidMet_laidAll _ (by kernel_rfl) (by kernel_rfl)
set_option maxRecDepth 100000 in
theorem cfgCuts_lifted (os : Os) (started : os.Started) (H : Type) (enc : TypeId × Value → H) :
    ReturnsInHanded {} Tryz.checked os 5 .any (fun w args => (Rows.cfgCutsSpec.pre enc Tryz.prog Tryz.f5 [] false w args ∧ laidMetH Tryz.prog Rows.cfgCutsRow.laid w) ∧ sizedMet enc Tryz.prog Tryz.f5 (OpenSpec.ofChange Rows.cfgCutsSpec) false w args)
      (Rows.cfgCutsSpec.post enc Tryz.prog Tryz.f5 false true false false) := by
  refine returns_both (C := Tryz.checked) (X := fun w _ => laidMetH Tryz.prog Rows.cfgCutsRow.laid w) (fun _ _ _ hh h => h.of_heap hh) own started (by kernel_rfl) Tryz.func5
    (ChangeSpec.witness_shaped (enc := enc) (C := Tryz.checked) (os := os) (X := fun w _ => laidMetH Tryz.prog Rows.cfgCutsRow.laid w) false (World.laidAll Tryz.prog os Rows.cfgCutsRow.laid) #[.string ⟨#[]⟩, .int .i64 0] 8 (World.laidAll_os _ _ _) (World.shaped_of_ZipB (by kernel_rfl) (by kernel_rfl)) (by kernel_rfl) (by kernel_rfl) (by kernel_rfl) (cfgCuts_door os _)) ?_
  intro W base args ds gs before hval0 hW hX hsh hsz
  have hval : ∀ (j : Nat) t v, Tryz.f5.params[j]? = some t → args[j]? = some v → Value.okWide Tryz.prog W .any base t v := hval0
  have hW' := hW
  obtain ⟨p, q, hA0, hV, rfl, hfz, hnd⟩ := hW
  have hA : DataW.TrodAll enc Tryz.prog W 0 (fun _ => true) true Tryz.f5.params.toList args.toList ds p := hA0
  rw [Tryz.params5] at hA hval
  obtain ⟨v0, v1, d0, d1, p0, p1, rfl, rfl, rfl, h0, h1⟩ := trodAll_two hA
  obtain ⟨rfl, rfl⟩ := trodVars_none hV
  obtain ⟨s0, rfl, rfl, rfl, hs0⟩ := open_string Tryz.underlying9 (hval 0 9 v0 rfl rfl) h0
  obtain ⟨n1, rfl, rfl, rfl, hn1⟩ := open_int Tryz.underlying3 (hval 1 3 v1 rfl rfl) h1
  clear hA0 hval0
  simp only [List.append_nil] at hW'
  have hT : Ar.Y4.Pt W := ⟨maxLen_of hsh, range_of Rows.laid_strconv_ErrRange (by kernel_rfl) ⟨_, _, rfl⟩ (fun h => by rw [MakeChecks.laidMetH_plain _ _ _ (by kernel_rfl)] at h; exact h) hX⟩
  refine (law_cuts s0 n1 W hT).mono fun e W' ⟨he, bel⟩ => ?_
  subst he
  exact ⟨_, rfl, _, _, _, [], _, [], hW', trodAll_mk1 (shut_bool Tryz.underlying4 _), trodAll_mk2 (shut_string Tryz.underlying9 hs0) (shut_int Tryz.underlying3 hn1), rfl, bel.frame _, fun h => by cases h⟩
theorem cfgCuts_holds : Rows.CfgCutsSaid :=
  OpenClaim.holds_of_wide 5 Tryz.f5 rfl rfl rfl rfl rfl rfl rfl ⟨rfl, rfl, rfl, rfl, rfl⟩ rfl rfl rfl rfl rfl (by kernel_rfl) Tryz.func5 (by kernel_rfl)
    (of_decide_eq_true (by kernel_rfl)) (by unfold Func.isWrapper; first | (rw [if_pos (by decide +kernel)]; kernel_rfl) | (rw [if_neg (by decide +kernel)]; exact ⟨rfl, rfl⟩))
    (fun os started H enc _ => cfgCuts_lifted os started H enc)
theorem cfgCuts_card : Rows.CfgCutsCardSaid :=
  Claim7.holds_tied_plain_at .later [] [.data, .data, .data, .data, .sentinel, .sentinel, .pinned] true Rows.cfgCutsCard.stood.harness true
    cfgCuts_holds (fun _ h => by cases h) (by kernel_rfl) (fun _ h => by cases h) cfgCuts_row_tie rfl ⟨rfl, rfl⟩ (by kernel_rfl) rfl
    (fun f fn hf hfn => by
      obtain rfl : f = 5 := Option.some.inj ((show Tryz.prog.funcNamed Rows.cfgCutsRow.func = some 5 by kernel_rfl).symm.trans hf) |>.symm
      obtain rfl : fn = Tryz.f5 := (Option.some.inj (Tryz.func5.symm.trans hfn)).symm
      exact ⟨by kernel_rfl, fun j t ht => by
        rw [Tryz.params5] at ht
        have hm : t ∈ [9, 3] := by simpa using Array.mem_of_getElem? ht
        have hall : ([9, 3].all fun u => !Tryz.prog.wantsStandIn u) = true := by kernel_rfl
        exact (show Tryz.prog.wantsStandIn t = false by simpa using List.all_eq_true.1 hall t hm)⟩)
    (by kernel_rfl)
#print axioms cfgCuts_card
end Go.Proofs.YtnadhplhnfpeaaaGreatDoor
