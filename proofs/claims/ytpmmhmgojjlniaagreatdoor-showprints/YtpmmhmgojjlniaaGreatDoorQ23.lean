/- The document's atom: its walk. -/
import Derived.Test.YtpmmhmgojjlniaaGreatDoorQ22
namespace Go.Proofs.YtpmmhmgojjlniaaGreatDoor.Ar
open Go.RowKit Go.Sort
theorem three_new (W : World) (N A B : Obj) : (((W.alloc N).alloc A).alloc B).heap[W.heap.size + 1]? = some A ∧ (((W.alloc N).alloc A).alloc B).heap[W.heap.size + 1 + 1]? = some B := by
  have h1 := heap_alloc2_old (W.alloc N) A B
  have h2 := heap_alloc2_new (W.alloc N) A B
  rw [size_alloc] at h1 h2
  exact ⟨h1, h2⟩
theorem Tr.one {w : World} {t : Tr} {x0 x1 x2 x3 x4 x5 : Value} (h : Tr.At w t [x0, x1, x2, x3, x4, x5]) : One6 x0 x1 x2 x3 x4 x5 := by
  obtain ⟨k, d, s, f, t, ks⟩ := t
  obtain ⟨fo, fc, to, tc, ko, kc, b, off, css, hc, _⟩ := Tr.inv h
  simp only [List.cons.injEq, and_true] at hc
  obtain ⟨rfl, rfl, rfl, rfl, rfl, rfl⟩ := hc
  exact ⟨rfl, rfl, rfl, rfl, rfl, rfl⟩
/-- A reader's node, handed on through a block of the caller's own. -/
theorem nodeGood_put {s : ByteArray} {W w2 : World} {R : Except Int (Nd × Bs)} {n : Nd} {k : Bs} {j : Nat} {x0 x1 x2 x3 x4 x5 : Value} (hR : R = .ok (n, k)) (hb : Below W.heap.size W w2) (hp : Pos s j k) (ht : Tr.Own (W.heap.size + 1) w2 (Nd.tr n) [x0, x1, x2, x3, x4, x5]) : NodeGood s W R (.returned (.tuple #[.agg #[x0, x1, x2, x3, x4, x5], .int .i64 j, .int .i64 0])) (put6 w2 W.heap.size x0 x1 x2 x3 x4 x5) :=
  nodeGood_ok hR (put6_below hb (Nat.le_refl _) _ _ _ _ _ _) hp (ht.keep (Nat.le_succ _) (by rw [put6_size]; exact Nat.le_refl _) fun k hk _ => put6_other _ _ _ _ _ _ _ _ k (by omega)) rfl

set_option maxHeartbeats 8000000 in
set_option maxRecDepth 100000 in
theorem refAtom_dot (s : ByteArray) (hs : s.size ≤ 64) (n D : Nat) (r : Bs) (hp : Pos s n r) (ch : Bs → Except Int (List (List Nd) × Bs)) (h46 : Px.isAt r 46 = true) (W : World) :
    Calls Tryz.prog 258 #[.string s, .int .i64 n, .int .i64 D] W (NodeGood s W (Px.atom ch r)) := by
  have CI := hide (fun w => is_is s (by omega) n r hp 46 46 rfl true h46 w)
  have CS := hide (fun w => skip_is s (by omega) n r hp _ hp.skip w)
  have HJ := hide (hp.nextAt h46)
  have hsk : s.size - (Px.skip r).length ≤ 64 := by omega
  have HX := hide (atom_dot (ch := ch) h46)
  generalize Px.atom ch r = R at *
  generalize s.size - (Px.skip r).length = m at CS HJ hsk
  have c := zbox W
  have f := zfree W
  have HB := hide (balloc (balloc (balloc (brefl W) zNode) (.cells #[.int .i64 1] 3)) (.cells #[.int .i64 65535] 3))
  clear hp h46
  go_enter Tryz.func258, Tryz.ntmps258
  go_wp2_with fail
  refine (CI.out _).mono ?_
  rintro e w2 ⟨rfl, hw⟩
  have hw' := hw.symm
  clear hw
  subst hw'
  go_wp2_with fail
  refine (CS.out _).mono ?_
  rintro e w2 ⟨rfl, hw⟩
  have hw' := hw.symm
  clear hw
  subst hw'
  go_wp2_with fail
  have HBX := box_below (box_new W (.int .i64 0) (.bool true) (.bool false) (.slice (some ⟨W.heap.size + 1, 0, none⟩) 1 1) (.slice (some ⟨W.heap.size + 1 + 1, 0, none⟩) 1 1) (.slice none 0 0) 200) (balloc (balloc (brefl _) (.cells #[.int .i64 1] 3)) (.cells #[.int .i64 65535] 3))
  refine bodyPost_ret (v := .tuple #[.agg #[.int .i64 0, .bool true, .bool false, .slice (some ⟨W.heap.size + 1, 0, none⟩) 1 1, .slice (some ⟨W.heap.size + 1 + 1, 0, none⟩) 1 1, .slice none 0 0], .int .i64 ((m : Int) + 1), .int .i64 0]) (res_node Tryz.results258 _ _ W.heap.size rfl rfl rfl HBX) rfl (nodeGood_ok HX.out (balloc (balloc (balloc (brefl W) _) _) _) HJ.out (own_pair (t1 := 3) (t2 := 3) (by omega) (by omega) ?_ ?_) (by omega))
  · exact (three_new W _ _ _).1
  · exact (three_new W _ _ _).2
set_option maxHeartbeats 8000000 in
set_option maxRecDepth 100000 in
theorem refAtom_num (s : ByteArray) (hs : s.size ≤ 64) (n D : Nat) (r : Bs) (hp : Pos s n r) (ch : Bs → Except Int (List (List Nd) × Bs)) (h46 : Px.isAt r 46 = false) (h91 : Px.isAt r 91 = false) (h40 : Px.isAt r 40 = false) (W : World) :
    Calls Tryz.prog 258 #[.string s, .int .i64 n, .int .i64 D] W (NodeGood s W (Px.atom ch r)) := by
  have C1 := hide (fun w => is_is s (by omega) n r hp 46 46 rfl false h46 w)
  have C2 := hide (fun w => is_is s (by omega) n r hp 91 91 rfl false h91 w)
  have C3 := hide (fun w => is_is s (by omega) n r hp 40 40 rfl false h40 w)
  have CN := hide (fun w => number_is s (by omega) n r hp w)
  have HX := hide (atom_num (ch := ch) h46 h91 h40)
  generalize Px.atom ch r = R at *
  have c := zbox W
  have f := zfree W
  clear hp h46 h91 h40
  cases hN : Px.number r with
  | error q =>
    rw [hN] at CN
    have HX2 : Hid (R = .error q) := by show _ = _; rw [HX.out, hN]
    clear hN
    go_enter Tryz.func258, Tryz.ntmps258
    go_wp2_with fail
    refine (C1.out _).mono ?_
    rintro e w2 ⟨rfl, hw⟩
    have hw' := hw.symm
    clear hw
    subst hw'
    go_wp2_with fail
    refine (C2.out _).mono ?_
    rintro e w2 ⟨rfl, hw⟩
    have hw' := hw.symm
    clear hw
    subst hw'
    go_wp2_with fail
    refine (C3.out _).mono ?_
    rintro e w2 ⟨rfl, hw⟩
    have hw' := hw.symm
    clear hw
    subst hw'
    go_wp2_with fail
    refine (CN.out _).mono ?_
    rintro e w2 ⟨j, rfl, hw⟩
    have hw' := hw.symm
    clear hw
    subst hw'
    go_wp2_with fail
    have HBX := box_below (box_new W (.int .i64 0) (.bool false) (.bool false) (.slice (some ⟨W.heap.size + 1, 0, none⟩) 1 1) (.slice (some ⟨W.heap.size + 1 + 1, 0, none⟩) 1 1) (.slice none 0 0) 200) (balloc (balloc (brefl _) (.cells #[.int .i64 0] 3)) (.cells #[.int .i64 0] 3))
    exact bodyPost_ret (res_node Tryz.results258 _ _ W.heap.size rfl rfl rfl HBX) rfl (nodeGood_err HX2.out (balloc (balloc (balloc (brefl W) _) _) _) ⟨rfl, rfl, rfl, rfl, rfl, rfl⟩)
  | ok z =>
    obtain ⟨x, k⟩ := z
    rw [hN] at CN
    have HX2 : Hid (R = .ok (.num false false [(x, x, false)], k)) := by show _ = _; rw [HX.out, hN]
    clear hN
    go_enter Tryz.func258, Tryz.ntmps258
    go_wp2_with fail
    refine (C1.out _).mono ?_
    rintro e w2 ⟨rfl, hw⟩
    have hw' := hw.symm
    clear hw
    subst hw'
    go_wp2_with fail
    refine (C2.out _).mono ?_
    rintro e w2 ⟨rfl, hw⟩
    have hw' := hw.symm
    clear hw
    subst hw'
    go_wp2_with fail
    refine (C3.out _).mono ?_
    rintro e w2 ⟨rfl, hw⟩
    have hw' := hw.symm
    clear hw
    subst hw'
    go_wp2_with fail
    refine (CN.out _).mono ?_
    rintro e w2 ⟨j, hj, rfl, hw⟩
    have hw' := hw.symm
    clear hw
    subst hw'
    have HJ := hide hj
    clear hj
    go_wp2_with fail
    have HBX := box_below (box_new W (.int .i64 0) (.bool false) (.bool false) (.slice (some ⟨W.heap.size + 1, 0, none⟩) 1 1) (.slice (some ⟨W.heap.size + 1 + 1, 0, none⟩) 1 1) (.slice none 0 0) 200) (balloc (balloc (brefl _) (.cells #[.int .i64 x] 3)) (.cells #[.int .i64 x] 3))
    refine bodyPost_ret (res_node Tryz.results258 _ _ W.heap.size rfl rfl rfl HBX) rfl (nodeGood_ok HX2.out (balloc (balloc (balloc (brefl W) _) _) _) HJ.out (own_pair (t1 := 3) (t2 := 3) (by omega) (by omega) ?_ ?_) rfl)
    · exact (three_new W _ _ _).1
    · exact (three_new W _ _ _).2

set_option maxHeartbeats 8000000 in
set_option maxRecDepth 100000 in
theorem refAtom_set (s : ByteArray) (hs : s.size ≤ 64) (n D : Nat) (r : Bs) (hp : Pos s n r) (ch : Bs → Except Int (List (List Nd) × Bs)) (h46 : Px.isAt r 46 = false) (h91 : Px.isAt r 91 = true) (W : World) :
    Calls Tryz.prog 258 #[.string s, .int .i64 n, .int .i64 D] W (NodeGood s W (Px.atom ch r)) := by
  have C1 := hide (fun w => is_is s (by omega) n r hp 46 46 rfl false h46 w)
  have C2 := hide (fun w => is_is s (by omega) n r hp 91 91 rfl true h91 w)
  have CS := hide (fun w => skip_is s (by omega) n r hp _ hp.skip w)
  have CT := hide (fun w => refSet_is s hs _ _ (hp.nextAt h91) _ (Nat.lt_succ_self _) w)
  have hsk : s.size - (Px.skip r).length ≤ 64 := by omega
  have HX := hide (atom_set (ch := ch) h46 h91)
  generalize Px.atom ch r = R at *
  generalize s.size - (Px.skip r).length = m at CS CT hsk
  generalize setR (Px.set ((Px.next r).length + 1) [] (Px.next r)) = R2 at *
  obtain rfl := HX.out
  have c := zbox W
  have f := zfree W
  have HC := hide c
  have HF := hide f
  have B0 := hide (balloc (brefl W) zNode)
  have CC := hide (CT.out (W.alloc zNode))
  clear hp h46 h91 c f CT
  go_enter Tryz.func258, Tryz.ntmps258
  go_wp2_with fail
  refine (C1.out _).mono ?_
  rintro e w2 ⟨rfl, hw⟩
  have hw' := hw.symm
  clear hw
  subst hw'
  go_wp2_with fail
  refine (C2.out _).mono ?_
  rintro e w2 ⟨rfl, hw⟩
  have hw' := hw.symm
  clear hw
  subst hw'
  go_wp2_with fail
  refine (CS.out _).mono ?_
  rintro e w2 ⟨rfl, hw⟩
  have hw' := hw.symm
  clear hw
  subst hw'
  go_wp2_with fail
  refine CC.out.mono ?_
  rintro e w2 ⟨hb2, hm⟩
  have B2 := hide (bthen B0.out hb2)
  obtain ⟨c0, c1, c2, c3, c4, c5⟩ := box_below HC.out hb2
  have HC2 := hide (box_below HC.out hb2)
  have fr := fun o => (hb2.frozen (p := ⟨W.heap.size, o, none⟩) HF.out.1).trans (HF.out.2 o)
  have f0 := fr 0
  have f1 := fr 1
  have f2 := fr 2
  have f3 := fr 3
  have f4 := fr 4
  have f5 := fr 5
  clear fr hb2
  cases R with
  | error q =>
    obtain ⟨x0, x1, x2, x3, x4, x5, j, ho, rfl⟩ := hm
    have HO := hide ho
    obtain ⟨o0, o1, o2, o3, o4, o5⟩ := ho
    have s0 := fun w a m => run_store Tryz.prog w a x0 m o0
    have s1 := fun w a m => run_store Tryz.prog w a x1 m o1
    have s2 := fun w a m => run_store Tryz.prog w a x2 m o2
    have s3 := fun w a m => run_store Tryz.prog w a x3 m o3
    have s4 := fun w a m => run_store Tryz.prog w a x4 m o4
    have s5 := fun w a m => run_store Tryz.prog w a x5 m o5
    go_wp2_with fail
    change bodyPost Tryz.prog Tryz.f258 (NodeGood s W (.error q)) Exit.ret _ (put6 w2 W.heap.size x0 x1 x2 x3 x4 x5)
    refine bodyPost_ret (v := .tuple #[.agg #[x0, x1, x2, x3, x4, x5], .int .i64 j, .int .i64 q]) ?_ rfl (nodeGood_err rfl (put6_below B2.out (Nat.le_refl _) _ _ _ _ _ _) HO.out)
    exact res_node Tryz.results258 _ _ W.heap.size rfl rfl rfl (put6_box HC2.out x0 x1 x2 x3 x4 x5)
  | ok z =>
    obtain ⟨nd, k⟩ := z
    obtain ⟨j, x0, x1, x2, x3, x4, x5, hj, ht, rfl⟩ := hm
    have HT := hide ht
    have HJ := hide hj
    obtain ⟨o0, o1, o2, o3, o4, o5⟩ := Tr.one ht.at
    have s0 := fun w a m => run_store Tryz.prog w a x0 m o0
    have s1 := fun w a m => run_store Tryz.prog w a x1 m o1
    have s2 := fun w a m => run_store Tryz.prog w a x2 m o2
    have s3 := fun w a m => run_store Tryz.prog w a x3 m o3
    have s4 := fun w a m => run_store Tryz.prog w a x4 m o4
    have s5 := fun w a m => run_store Tryz.prog w a x5 m o5
    clear ht hj
    go_wp2_with fail
    change bodyPost Tryz.prog Tryz.f258 (NodeGood s W (.ok (nd, k))) Exit.ret _ (put6 w2 W.heap.size x0 x1 x2 x3 x4 x5)
    refine bodyPost_ret (v := .tuple #[.agg #[x0, x1, x2, x3, x4, x5], .int .i64 j, .int .i64 0]) ?_ rfl (nodeGood_put rfl B2.out HJ.out (by have := HT.out; rwa [size_alloc] at this))
    exact res_node Tryz.results258 _ _ W.heap.size rfl rfl rfl (put6_box HC2.out x0 x1 x2 x3 x4 x5)
end Go.Proofs.YtpmmhmgojjlniaaGreatDoor.Ar
namespace Go.Proofs.YtpmmhmgojjlniaaGreatDoor.Ar
open Go.RowKit Go.Sort
theorem choice_ne {d : Nat} {r : Bs} {q : Int} (h : Px.choice d r = .error q) : q ≠ 0 := choice_err d r q h

set_option maxHeartbeats 8000000 in
set_option maxRecDepth 100000 in
theorem refAtom_par (s : ByteArray) (hs : s.size ≤ 64) (n d D : Nat) (hD : D ≤ 10) (hc : ChoiceOk s d (D + 1)) (r : Bs) (hp : Pos s n r) (h46 : Px.isAt r 46 = false) (h91 : Px.isAt r 91 = false) (h40 : Px.isAt r 40 = true) (W : World) :
    Calls Tryz.prog 258 #[.string s, .int .i64 n, .int .i64 D] W (NodeGood s W (Px.atom (Px.choice d) r)) := by
  have C1 := hide (fun w => is_is s (by omega) n r hp 46 46 rfl false h46 w)
  have C2 := hide (fun w => is_is s (by omega) n r hp 91 91 rfl false h91 w)
  have C3 := hide (fun w => is_is s (by omega) n r hp 40 40 rfl true h40 w)
  have CS := hide (fun w => skip_is s (by omega) n r hp _ hp.skip w)
  have CT := hide (fun w => hc _ _ (hp.nextAt h40) w)
  have hsk : s.size - (Px.skip r).length ≤ 64 := by omega
  have HX := hide (atom_par (ch := Px.choice d) h46 h91 h40)
  generalize Px.atom (Px.choice d) r = R at *
  generalize s.size - (Px.skip r).length = m at CS CT hsk
  have HC := hide (zbox W)
  have HF := hide (zfree W)
  have B0 := hide (balloc (brefl W) zNode)
  have CC := hide (CT.out (W.alloc zNode))
  have hDi : (D : Int) ≤ 10 := by omega
  clear hp h46 h91 h40 CT hc
  cases hch : Px.choice d (Px.next r) with
  | error q =>
    have HX2 : Hid (R = .error q) := by show _ = _; rw [HX.out, hch]
    have hq := choice_ne hch
    have hq' : (q == 0) = false := by simpa using hq
    rw [hch] at CC
    clear hch HX
    go_enter Tryz.func258, Tryz.ntmps258
    go_wp2_with fail
    refine (C1.out _).mono ?_
    rintro e w2 ⟨rfl, hw⟩
    have hw' := hw.symm
    clear hw
    subst hw'
    go_wp2_with fail
    refine (C2.out _).mono ?_
    rintro e w2 ⟨rfl, hw⟩
    have hw' := hw.symm
    clear hw
    subst hw'
    go_wp2_with fail
    refine (C3.out _).mono ?_
    rintro e w2 ⟨rfl, hw⟩
    have hw' := hw.symm
    clear hw
    subst hw'
    go_wp2_with fail
    refine (CS.out _).mono ?_
    rintro e w2 ⟨rfl, hw⟩
    have hw' := hw.symm
    clear hw
    subst hw'
    go_wp2_with fail
    refine CC.out.mono ?_
    rintro e w2 ⟨hb2, hm⟩
    have B2 := hide (bthen B0.out hb2)
    obtain ⟨x0, x1, x2, x3, x4, x5, j, ho, rfl⟩ := hm
    have HO := hide ho
    obtain ⟨o0, o1, o2, o3, o4, o5⟩ := ho
    have s0 := fun w a m => run_store Tryz.prog w a x0 m o0
    have s1 := fun w a m => run_store Tryz.prog w a x1 m o1
    have s2 := fun w a m => run_store Tryz.prog w a x2 m o2
    have s3 := fun w a m => run_store Tryz.prog w a x3 m o3
    have s4 := fun w a m => run_store Tryz.prog w a x4 m o4
    have s5 := fun w a m => run_store Tryz.prog w a x5 m o5
    obtain ⟨c0, c1, c2, c3, c4, c5⟩ := box_below HC.out hb2
    have HC2 := hide (box_below HC.out hb2)
    have fr := fun o => (hb2.frozen (p := ⟨W.heap.size, o, none⟩) HF.out.1).trans (HF.out.2 o)
    have f0 := fr 0
    have f1 := fr 1
    have f2 := fr 2
    have f3 := fr 3
    have f4 := fr 4
    have f5 := fr 5
    have hlt : W.heap.size < w2.heap.size := by have := hb2.size; rw [size_alloc] at this; omega
    have hne : w2.heap.size ≠ W.heap.size := by omega
    have hne2 : W.heap.size ≠ w2.heap.size := by omega
    clear fr hb2
    go_wp2_with fail
    change bodyPost Tryz.prog Tryz.f258 (NodeGood s W R) Exit.ret _ ((put6 w2 W.heap.size x0 x1 x2 x3 x4 x5).alloc (.cells #[x0, x1, x2, x3, x4, x5] 200))
    refine bodyPost_ret (v := .tuple #[.agg #[x0, x1, x2, x3, x4, x5], .int .i64 j, .int .i64 q]) ?_ rfl (nodeGood_err HX2.out (balloc (put6_below B2.out (Nat.le_refl _) _ _ _ _ _ _) _) HO.out)
    exact res_node Tryz.results258 _ _ W.heap.size rfl rfl rfl (box_below (put6_box HC2.out x0 x1 x2 x3 x4 x5) (balloc (brefl _) _))
  | ok z =>
    obtain ⟨c, k⟩ := z
    have HX1 : Hid (R = if Px.isAt k 41 = true then .ok (.ch c, Px.next k) else .error 4) := by show _ = _; rw [HX.out, hch]
    rw [hch] at CC
    clear hch HX
    go_enter Tryz.func258, Tryz.ntmps258
    go_wp2_with fail
    refine (C1.out _).mono ?_
    rintro e w2 ⟨rfl, hw⟩
    have hw' := hw.symm
    clear hw
    subst hw'
    go_wp2_with fail
    refine (C2.out _).mono ?_
    rintro e w2 ⟨rfl, hw⟩
    have hw' := hw.symm
    clear hw
    subst hw'
    go_wp2_with fail
    refine (C3.out _).mono ?_
    rintro e w2 ⟨rfl, hw⟩
    have hw' := hw.symm
    clear hw
    subst hw'
    go_wp2_with fail
    refine (CS.out _).mono ?_
    rintro e w2 ⟨rfl, hw⟩
    have hw' := hw.symm
    clear hw
    subst hw'
    go_wp2_with fail
    refine CC.out.mono ?_
    rintro e w2 ⟨hb2, hm⟩
    have B2 := hide (bthen B0.out hb2)
    obtain ⟨j, x0, x1, x2, x3, x4, x5, hj, ht, rfl⟩ := hm
    have HT := hide ht
    have HJ := hide hj
    have HO := hide (Tr.one ht.at)
    obtain ⟨o0, o1, o2, o3, o4, o5⟩ := HO.out
    clear ht hj
    have s0 := fun w a m => run_store Tryz.prog w a x0 m o0
    have s1 := fun w a m => run_store Tryz.prog w a x1 m o1
    have s2 := fun w a m => run_store Tryz.prog w a x2 m o2
    have s3 := fun w a m => run_store Tryz.prog w a x3 m o3
    have s4 := fun w a m => run_store Tryz.prog w a x4 m o4
    have s5 := fun w a m => run_store Tryz.prog w a x5 m o5
    obtain ⟨c0, c1, c2, c3, c4, c5⟩ := box_below HC.out hb2
    have HC2 := hide (box_below HC.out hb2)
    have fr := fun o => (hb2.frozen (p := ⟨W.heap.size, o, none⟩) HF.out.1).trans (HF.out.2 o)
    have f0 := fr 0
    have f1 := fr 1
    have f2 := fr 2
    have f3 := fr 3
    have f4 := fr 4
    have f5 := fr 5
    have hlt : W.heap.size < w2.heap.size := by have := hb2.size; rw [size_alloc] at this; omega
    have hne : w2.heap.size ≠ W.heap.size := by omega
    have hne2 : W.heap.size ≠ w2.heap.size := by omega
    clear fr hb2
    go_wp2_with fail
    cases h41 : Px.isAt k 41 with
    | false =>
      have HX2 : Hid (R = .error 4) := by show _ = _; rw [HX1.out, h41]; simp
      have CI := hide (fun w => is_is s (by omega) j k HJ.out 41 41 rfl false h41 w)
      clear HX1 h41
      refine (CI.out _).mono ?_
      rintro e w3 ⟨rfl, hw⟩
      have hw' := hw.symm
      clear hw
      subst hw'
      go_wp2_with fail
      change bodyPost Tryz.prog Tryz.f258 (NodeGood s W R) Exit.ret _ ((put6 w2 W.heap.size x0 x1 x2 x3 x4 x5).alloc (.cells #[x0, x1, x2, x3, x4, x5] 200))
      refine bodyPost_ret (v := .tuple #[.agg #[x0, x1, x2, x3, x4, x5], .int .i64 (j : Int), .int .i64 4]) ?_ rfl (nodeGood_err HX2.out (balloc (put6_below B2.out (Nat.le_refl _) _ _ _ _ _ _) _) HO.out)
      exact res_node Tryz.results258 _ _ W.heap.size rfl rfl rfl (box_below (put6_box HC2.out x0 x1 x2 x3 x4 x5) (balloc (brefl _) _))
    | true =>
      have HX2 : Hid (R = .ok (.ch c, Px.next k)) := by show _ = _; rw [HX1.out, h41]; simp
      have CI := hide (fun w => is_is s (by omega) j k HJ.out 41 41 rfl true h41 w)
      have CS2 := hide (fun w => skip_is s (by omega) j k HJ.out _ HJ.out.skip w)
      have HJ2 := hide (HJ.out.nextAt h41)
      have hsk2 : s.size - (Px.skip k).length ≤ 64 := by omega
      generalize s.size - (Px.skip k).length = m2 at CS2 HJ2 hsk2
      clear HX1 h41 CS
      refine (CI.out _).mono ?_
      rintro e w3 ⟨rfl, hw⟩
      have hw' := hw.symm
      clear hw
      subst hw'
      go_wp2_with fail
      go_region_with (first | (go_at_call 207; refine (CS2.out _).mono ?_; rintro e w' ⟨rfl, rfl⟩))
      all_goals
        go_wp2_with fail
        simp only [List.getElem_toArray, List.getElem_cons_zero, List.getElem_cons_succ, Act.put, List.setIfInBounds_toArray, List.set_cons_zero, List.set_cons_succ]
        have HB := hide (box_drew (box_below (put6_box HC2.out x0 x1 x2 x3 x4 x5) (balloc (brefl _) (.cells #[x0, x1, x2, x3, x4, x5] 200))))
        have HBL := hide (Below.drew (balloc (put6_below B2.out (Nat.le_refl _) x0 x1 x2 x3 x4 x5) (.cells #[x0, x1, x2, x3, x4, x5] 200)))
        have HA : Hid (Tr.Own W.heap.size (((put6 w2 W.heap.size x0 x1 x2 x3 x4 x5).alloc (.cells #[x0, x1, x2, x3, x4, x5] 200)).drew) (Nd.tr (.ch c)) [x0, x1, x2, x3, x4, x5]) := by
          refine HT.out.keep (by rw [size_alloc]; omega) (by rw [drew_heap, size_alloc, put6_size]; omega) fun k hk hk2 => ?_
          rw [size_alloc] at hk
          rw [drew_heap, heap_alloc_lt _ _ k (by rw [put6_size]; exact hk2)]
          exact put6_other _ _ _ _ _ _ _ _ k (by omega)
        rw [wrap_succ m2 (by omega)]
        change bodyPost Tryz.prog Tryz.f258 (NodeGood s W R) Exit.ret _ (((put6 w2 W.heap.size x0 x1 x2 x3 x4 x5).alloc (.cells #[x0, x1, x2, x3, x4, x5] 200)).drew)
        refine bodyPost_ret (v := .tuple #[.agg #[x0, x1, x2, x3, x4, x5], .int .i64 ((m2 + 1 : Nat) : Int), .int .i64 0]) ?_ rfl (nodeGood_ok HX2.out HBL.out HJ2.out HA.out rfl)
        exact res_node Tryz.results258 _ _ W.heap.size rfl rfl rfl HB.out
theorem refAtom_is (s : ByteArray) (hs : s.size ≤ 64) (n d D : Nat) (hD : D ≤ 10) (hc : ChoiceOk s d (D + 1)) (r : Bs) (hp : Pos s n r) (W : World) :
    Calls Tryz.prog 258 #[.string s, .int .i64 n, .int .i64 D] W (NodeGood s W (Px.atom (Px.choice d) r)) := by
  cases h46 : Px.isAt r 46 with
  | true => exact refAtom_dot s hs n D r hp _ h46 W
  | false =>
    cases h91 : Px.isAt r 91 with
    | true => exact refAtom_set s hs n D r hp _ h46 h91 W
    | false =>
      cases h40 : Px.isAt r 40 with
      | true => exact refAtom_par s hs n d D hD hc r hp h46 h91 h40 W
      | false => exact refAtom_num s hs n D r hp _ h46 h91 h40 W
end Go.Proofs.YtpmmhmgojjlniaaGreatDoor.Ar
