import Derived.Test.YtechocnednepiaaL9
import Derived.Test.YtechocnednepiaaL6
/- The law TrieParts. -/
namespace Go.Proofs.Ytechocnednepiaa
open Go.RowKit

theorem row_oneP (W : World) (q : Pf) : Ad.rowAt (W.alloc (.cells #[.int .u32 q.1, .int .i64 q.2] 30)) (some ⟨W.heap.size, 0, none⟩) [q] := by
  refine .inr ⟨_, 0, rfl, fun j u hu => ?_⟩
  match j, hu with
  | 0, hu => simp [Ad.cells, Ad.enc] at hu; subst hu; simp
  | 1, hu => simp [Ad.cells, Ad.enc] at hu; subst hu; simp
  | j + 2, hu => simp [Ad.cells, Ad.enc] at hu
theorem half_mod {p0 p1 : Int} (h : Gd (p0, p1)) (hl : p1 ≤ 31) : (p0 + 2 ^ (31 - p1).toNat) % 4294967296 = p0 + Ad.sz (p1 + 1) := by
  have h1 := (gd_half h hl true).2.1
  have h0 := h.1
  have hp := h.2.2.1
  have hs := Ad.sz_pos (p1 + 1)
  simp only [half, if_true] at h1 h0 hp
  have e : (2 : Int) ^ (31 - p1).toNat = Ad.sz (p1 + 1) := by
    unfold Ad.sz
    rw [show 32 - (p1 + 1).toNat = (31 - p1).toNat by omega]
    simp
  rw [e]
  omega
theorem same_rows (a1 a2 : Option Addr) (c1 c2 n2 : Nat) (l : List Pf) (w : World) (hn : n2 = l.length) (hm : l.length ≤ 1000000) (h1 : Ad.rowAt w a1 l) (h2 : Ad.rowAt w a2 l) :
    Calls Try.prog 32 #[.slice a1 l.length c1, .slice a2 n2 c2] w fun e w' => e = .returned (.bool true) ∧ Below w.heap.size w w' := by
  subst hn
  have := same_any a1 a2 c1 c2 l l w rfl hm h1 h2
  simpa using this
set_option maxHeartbeats 16000000 in
set_option maxRecDepth 100000 in
theorem law_parts (ao : Option Addr) (cap : Nat) (os : List Opn) (p : Pf) (stop : Int) (w : World) (hR : Opn.rowAt w ao os) (hf : Opn.fits os) (hp0 : 0 ≤ p.1) (hp1 : p.1 ≤ 4294967295) :
    Calls Try.prog 7 #[.slice ao os.length cap, pv p, .int .i64 stop] w fun e w' => e = .returned (.bool true) ∧ Below w.heap.size w w' := by
  have HB0 := hide (balloc (balloc (brefl w) (.cells #[.int .u32 p.1, .int .i64 p.2] 30)) (.cells #[.int .i64 stop] 3))
  have T0 := hide ((two_new w p).below (balloc (brefl _) (.cells #[.int .i64 stop] 3)))
  have S0 : Hid (((w.alloc (.cells #[.int .u32 p.1, .int .i64 p.2] 30)).alloc (.cells #[.int .i64 stop] 3)).heap[w.heap.size + 1]? = some (.cells #[.int .i64 stop] 3 (0, 0))) := by
    have := heap_alloc_new (w.alloc (.cells #[.int .u32 p.1, .int .i64 p.2] 30)) (.cells #[.int .i64 stop] 3)
    rw [size_alloc] at this
    exact this
  have CM := hide (made_is ao cap os _ (rowAt_belowO hR HB0.out) hf)
  have CV := hide (fun W => lives_is W)
  have HP0 := hide (And.intro hp0 hp1)
  clear hR hf
  obtain ⟨p0, p1⟩ := p
  unfold pv
  go_enter Try.func7, Try.ntmps7
  go_wp2_with fail
  generalize (w.alloc (.cells #[.int .u32 p0, .int .i64 p1] 30)).alloc (.cells #[.int .i64 stop] 3) = W0 at *
  refine CM.out.mono ?_
  rintro e w1 ⟨T, t, ao1, cap1, l, rfl, hst, hl⟩
  have ST := hide hst
  have T1 := hide (T0.out.below hst.below)
  have S1 := hide ((hst.below.block (w.heap.size + 1) (lt_of_block S0.out)).trans S0.out)
  have B1 := hide (bthen HB0.out hst.below)
  have HLL := hide hst.len
  have HOFF : Hid (∀ k ∈ T :: t.own, w.heap.size + 1 < k) := fun k hk => by have := hst.base k hk; have := lt_of_block S0.out; omega
  clear hst CM HB0 T0 S0
  have N2 := hide (heap_alloc_new w1 (.cells #[.int .i64 0] 3))
  have B2 := hide (balloc (brefl w1) (.cells #[.int .i64 0] 3))
  have CE : Hid (Calls Try.prog 28 #[.pointer (some ⟨T, 0, none⟩), .func (.func 29) #[] #[.pointer (some ⟨w1.heap.size, 0, none⟩), .pointer (some ⟨w.heap.size + 1, 0, none⟩)]] (w1.alloc (.cells #[.int .i64 0] 3)) fun e w' => e = .returned (.tuple #[]) ∧ ∃ S', CntI w1.heap.size (w.heap.size + 1) stop (goes (cntAns stop) [] (t.list (0, 0))).1 S' w' ∧ Keep (fun k => k = w1.heap.size ∨ k = w.heap.size + 1) (w1.alloc (.cells #[.int .i64 0] 3)) w' ∧ ∀ k, S' k → (k = w1.heap.size ∨ k = w.heap.size + 1) ∨ (w1.alloc (.cells #[.int .i64 0] 3)).heap.size ≤ k) := by
    have hS1 := lt_of_block S1.out
    refine each_is enter29 (cnt_pairs w1.heap.size (w.heap.size + 1) stop) (ST.out.next B2.out).tri ⟨fun _ => Iff.rfl, by omega, N2.out, (B2.out.block _ hS1).trans S1.out⟩ (fun k hk e => ?_) ?_
    · rcases e with e | e
      · have := ST.out.tri.lt k hk; omega
      · have := HOFF.out k hk; omega
    · intro l1 x l2 e
      have := congrArg List.length e
      rw [HLL.out] at this
      simp only [List.length_append, List.length_cons, List.nil_append] at this ⊢
      omega
  go_wp2_with fail
  refine CE.out.mono ?_
  rintro e w3 ⟨rfl, S', hI, hk, _⟩
  obtain ⟨_, _, hN3, hS3⟩ := hI
  have hcount := goes_count stop (t.list (0, 0)) []
  rw [HLL.out] at hcount
  simp only [List.length_nil, Int.natCast_zero, Int.zero_add] at hcount
  rw [hcount] at hN3
  have T3 := hide ((T1.out.below B2.out).kept hk (by have := T1.out.lt; have := lt_of_block S1.out; omega))
  have B3 := hide (hk.below' (bthen B1.out B2.out) (fun k hk => by have := lt_of_block S1.out; have := B1.out.size; omega) (by have := (bthen B1.out B2.out).size; exact this))
  have TR3 := hide ((ST.out.next B2.out).tri.kept hk (fun k hk e => by
    rcases e with e | e
    · have := ST.out.tri.lt k hk; omega
    · have := HOFF.out k hk; omega))
  have n0 := cell_of_one hN3
  have s0 := cell_of_one hS3
  obtain ⟨d0, d1, _, _⟩ := T3.out.cells
  generalize w1.heap.size = N at *
  clear hk hN3 hS3 hcount CE N2 B2 T1 S1
  have hl3 : (l.length : Int) ≤ 40 := by omega
  obtain ⟨m, hm⟩ : ∃ m, Ad.may p0 p1 = m := ⟨_, rfl⟩
  have CMa := hide (fun W => refMay_is p0 p1 m hm W HP0.out.1 HP0.out.2)
  have HM := hide hm
  clear hm
  cases m
  · have HW3 := hide (below_bad T (p0, p1) w3 HP0.out.1 HP0.out.2 HM.out)
    unfold pv at HW3
    rcases (show (0 < stop ∧ stop < (l.length : Int) ∧ (if 0 < stop ∧ stop < (l.length : Int) then stop else (l.length : Int)) = stop) ∨ (stop < 1 ∧ stop < 1 ∧ (if 0 < stop ∧ stop < (l.length : Int) then stop else (l.length : Int)) = (l.length : Int)) ∨ (1 ≤ stop ∧ (l.length : Int) ≤ stop ∧ (if 0 < stop ∧ stop < (l.length : Int) then stop else (l.length : Int)) = (l.length : Int)) by split <;> omega) with ⟨q1, q2, q3⟩ | ⟨q1, q2, q3⟩ | ⟨q1, q2, q3⟩
    all_goals
      rw [q3] at n0
      clear q3
      go_wp2_with fail
      refine HW3.out.mono ?_
      rintro e w4 ⟨al, lc, rfl, hrow, hb4, hcm⟩
      have B4 := hide hb4
      obtain ⟨d0, d1, _, _⟩ := (T3.out.below hb4).cells
      clear hrow hb4 hcm n0 s0 HW3
      simp only [List.length_nil]
      go_wp2_with fail
      refine (CMa.out _).mono ?_
      rintro e w5 ⟨rfl, hb5⟩
      have B5 := hide (bthen B4.out hb5)
      clear hb5
      go_wp2_with fail
      refine (CV.out _).mono ?_
      rintro e w6 ⟨rfl, hb6⟩
      have B6 := hide (bthen B5.out hb6)
      clear hb6
      go_wp2_with fail
      go_ret
      exact ⟨rfl, bthen B3.out B6.out⟩
  · have HGD := hide (show Gd (p0, p1) from gd_of (p := (p0, p1)) HP0.out.1 HP0.out.2 HM.out)
    have HW3 := hide (below_is TR3.out HGD.out (by rw [HLL.out]; omega))
    unfold pv at HW3
    have HDL : Hid ((downs t (p0, p1)).length ≤ 40) := by show _ ≤ 40; have := downs_len (t := t) (p0, p1); rw [HLL.out] at this; omega
    replace HW3 : Hid (Calls Try.prog 30 #[.pointer (some ⟨T, 0, none⟩), .agg #[.int .u32 p0, .int .i64 p1]] w3 (Lists w3 (downs t (p0, p1)))) := HW3
    rcases (show (0 < stop ∧ stop < (l.length : Int) ∧ (if 0 < stop ∧ stop < (l.length : Int) then stop else (l.length : Int)) = stop) ∨ (stop < 1 ∧ stop < 1 ∧ (if 0 < stop ∧ stop < (l.length : Int) then stop else (l.length : Int)) = (l.length : Int)) ∨ (1 ≤ stop ∧ (l.length : Int) ≤ stop ∧ (if 0 < stop ∧ stop < (l.length : Int) then stop else (l.length : Int)) = (l.length : Int)) by split <;> omega) with ⟨q1, q2, q3⟩ | ⟨q1, q2, q3⟩ | ⟨q1, q2, q3⟩
    all_goals
      rw [q3] at n0
      clear q3
      go_wp2_with fail
      refine HW3.out.mono ?_
      rintro e w4 ⟨al, lc, rfl, hrow, hb4, hcm⟩
      have R4 := hide hrow
      have B4 := hide hb4
      have T4 := hide (T3.out.below hb4)
      have TR4 := hide (TR3.out.below hb4)
      obtain ⟨d0, d1, _, _⟩ := T4.out.cells
      clear hrow hb4 hcm n0 s0 HW3
      go_wp2_with fail
      refine (CMa.out _).mono ?_
      rintro e w5 ⟨rfl, hb5⟩
      have R5 := hide (Ad.rowAt_below R4.out hb5)
      have B5 := hide (bthen B4.out hb5)
      have T5 := hide (T4.out.below hb5)
      have TR5 := hide (TR4.out.below hb5)
      obtain ⟨d0, d1, _, _⟩ := T5.out.cells
      clear hb5 R4 B4 T4 TR4
      have CG := hide (get_is TR5.out HGD.out)
      unfold pv gets at CG
      obtain ⟨gv, hgv⟩ : ∃ gv, (look (t.list (0, 0)) (p0, p1)).getD (.int .i64 0) = gv := ⟨_, rfl⟩
      obtain ⟨gs, hgs⟩ : ∃ gs, (look (t.list (0, 0)) (p0, p1)).isSome = gs := ⟨_, rfl⟩
      rw [hgv, hgs] at CG
      have HGS := hide hgs
      clear hgv hgs
      go_wp2_with fail
      refine CG.out.mono ?_
      rintro e w6 ⟨rfl, hb6⟩
      have R6 := hide (Ad.rowAt_below R5.out hb6)
      have B6 := hide (bthen B5.out hb6)
      have T6 := hide (T5.out.below hb6)
      have TR6 := hide (TR5.out.below hb6)
      obtain ⟨d0, d1, _, _⟩ := T6.out.cells
      clear hb6 R5 B5 T5 TR5 CG
      by_cases h32 : p1 < 32
      · have HL31 : Hid (p1 ≤ 31) := by show p1 ≤ 31; omega
        have HL0 : Hid (0 ≤ p1) := HGD.out.2.2.1
        have hl0 := HL0.out
        have HX := hide (half_mod HGD.out HL31.out)
        have HD0 := hide (downs_halves TR6.out.wf HGD.out HL31.out)
        rw [HGS.out] at HD0
        have HD1 : Hid ((downs t (half (p0, p1) false)).length ≤ 40) := by show _ ≤ 40; have := downs_len (t := t) (half (p0, p1) false); rw [HLL.out] at this; omega
        have HD2 : Hid ((downs t (half (p0, p1) true)).length ≤ 40) := by show _ ≤ 40; have := downs_len (t := t) (half (p0, p1) true); rw [HLL.out] at this; omega
        cases gs
        · simp only [Bool.false_eq_true, if_false] at HD0
          obtain ⟨w7, hw7⟩ : ∃ w7, w7 = w6 := ⟨_, rfl⟩
          rw [← hw7]
          have B7 : Hid (Below w6.heap.size w6 w7) := by show Below w6.heap.size w6 w7; rw [hw7]; exact brefl w6
          have HO7 : Hid (w7.ownsRow w6.heap.size 30 2 (.slice none 0 0) 0 (Ad.cells [])) := ⟨rfl, .inl ⟨rfl, rfl⟩⟩
          clear hw7
          have T7 := hide (T6.out.below B7.out)
          have TR7 := hide (TR6.out.below B7.out)
          obtain ⟨d0, d1, _, _⟩ := T7.out.cells
          have C1 := hide (below_is TR7.out (gd_half HGD.out HL31.out false) (by rw [HLL.out]; omega))
          replace C1 : Hid (Calls Try.prog 30 #[.pointer (some ⟨T, 0, none⟩), .agg #[.int .u32 p0, .int .i64 (p1 + 1)]] w7 (Lists w7 (downs t (half (p0, p1) false)))) := C1
          go_wp2_with fail
          refine C1.out.mono ?_
          rintro e w8 ⟨a8, c8, rfl, hr8, hb8, hc8⟩
          have T8 := hide (T7.out.below hb8)
          have TR8 := hide (TR7.out.below hb8)
          have R8 := hide hr8
          have C8 := hide hc8
          have B8 := hide (bthen B7.out hb8)
          have HO8 := hide (row_below HO7.out hb8)
          obtain ⟨d0, d1, _, _⟩ := T8.out.cells
          clear hr8 hc8 hb8 C1
          go_wp2_with (at_builtin; go_must (refine append_pfs (w0 := w6) rfl _ _ rfl (.slice none 0 0) 0 [] rfl HO8.out a8 (downs t (half (p0, p1) false)).length c8 (downs t (half (p0, p1) false)) rfl rfl R8.out C8.out (by have := HD1.out; omega) B8.out ?_))
          intro v9 w9 ho9 hb9
          have HO9 := hide ho9
          have B9 := hide hb9
          have T9 := hide (T6.out.below hb9)
          have TR9 := hide (TR6.out.below hb9)
          obtain ⟨d0, d1, _, _⟩ := T9.out.cells
          have C2 := hide (below_is TR9.out (gd_half HGD.out HL31.out true) (by rw [HLL.out]; omega))
          replace C2 : Hid (Calls Try.prog 30 #[.pointer (some ⟨T, 0, none⟩), .agg #[.int .u32 (p0 + Ad.sz (p1 + 1)), .int .i64 (p1 + 1)]] w9 (Lists w9 (downs t (half (p0, p1) true)))) := C2
          clear ho9 hb9
          go_wp2_with fail
          rw [HX.out]
          refine C2.out.mono ?_
          rintro e w10 ⟨a10, c10, rfl, hr10, hb10, hc10⟩
          have R10 := hide hr10
          have C10 := hide hc10
          have B10 := hide (bthen B9.out hb10)
          have HO10 := hide (row_below HO9.out hb10)
          clear hr10 hc10 hb10 C2
          go_wp2_with (at_builtin; go_must (refine append_pfs (w0 := w6) rfl _ _ rfl v9 (downs t (half (p0, p1) false)).length (downs t (half (p0, p1) false)) rfl HO10.out a10 (downs t (half (p0, p1) true)).length c10 (downs t (half (p0, p1) true)) rfl rfl R10.out C10.out (by have := HD1.out; have := HD2.out; omega) B10.out ?_))
          intro v11 w11 ho11 hb11
          have BQ := hide hb11
          obtain ⟨ar, cr, hv, hrow, _⟩ := own_shape ho11
          subst hv
          have CS := hide (same_rows al ar lc cr ((downs t (half (p0, p1) false)).length + (downs t (half (p0, p1) true)).length) (downs t (p0, p1)) w11 (by rw [HD0.out]; simp) (by have := HDL.out; omega) (Ad.rowAt_below R6.out hb11) (by rw [HD0.out]; simpa using hrow))
          clear hrow ho11 hb11
          go_wp2_with fail
          refine CS.out.mono ?_
          rintro e w12 ⟨rfl, hb12⟩
          have B12 := hide (bthen BQ.out hb12)
          clear hb12
          go_wp2_with fail
          refine (CV.out _).mono ?_
          rintro e wz ⟨rfl, hbz⟩
          have BZ := hide (bthen B12.out hbz)
          clear hbz
          go_wp2_with fail
          go_ret
          exact ⟨rfl, bthen B3.out (bthen B6.out BZ.out)⟩
        · simp only [if_true] at HD0
          go_wp2_with (at_builtin; go_must (refine append_pfs (w0 := w6) rfl _ _ rfl (.slice none 0 0) 0 [] rfl ⟨rfl, .inl ⟨rfl, rfl⟩⟩ (some ⟨w6.heap.size, 0, none⟩) 1 1 [(p0, p1)] rfl rfl (row_oneP w6 (p0, p1)) (came_some _ _ _) (by omega) (balloc (brefl w6) _) ?_))
          intro v7 w7 ho7 hb7
          have HO7 := hide ho7
          have B7 := hide hb7
          clear ho7 hb7
          have T7 := hide (T6.out.below B7.out)
          have TR7 := hide (TR6.out.below B7.out)
          obtain ⟨d0, d1, _, _⟩ := T7.out.cells
          have C1 := hide (below_is TR7.out (gd_half HGD.out HL31.out false) (by rw [HLL.out]; omega))
          replace C1 : Hid (Calls Try.prog 30 #[.pointer (some ⟨T, 0, none⟩), .agg #[.int .u32 p0, .int .i64 (p1 + 1)]] w7 (Lists w7 (downs t (half (p0, p1) false)))) := C1
          go_wp2_with fail
          refine C1.out.mono ?_
          rintro e w8 ⟨a8, c8, rfl, hr8, hb8, hc8⟩
          have T8 := hide (T7.out.below hb8)
          have TR8 := hide (TR7.out.below hb8)
          have R8 := hide hr8
          have C8 := hide hc8
          have B8 := hide (bthen B7.out hb8)
          have HO8 := hide (row_below HO7.out hb8)
          obtain ⟨d0, d1, _, _⟩ := T8.out.cells
          clear hr8 hc8 hb8 C1
          go_wp2_with (at_builtin; go_must (refine append_pfs (w0 := w6) rfl _ _ rfl v7 1 [(p0, p1)] rfl HO8.out a8 (downs t (half (p0, p1) false)).length c8 (downs t (half (p0, p1) false)) rfl rfl R8.out C8.out (by have := HD1.out; omega) B8.out ?_))
          intro v9 w9 ho9 hb9
          have HO9 := hide ho9
          have B9 := hide hb9
          have T9 := hide (T6.out.below hb9)
          have TR9 := hide (TR6.out.below hb9)
          obtain ⟨d0, d1, _, _⟩ := T9.out.cells
          have C2 := hide (below_is TR9.out (gd_half HGD.out HL31.out true) (by rw [HLL.out]; omega))
          replace C2 : Hid (Calls Try.prog 30 #[.pointer (some ⟨T, 0, none⟩), .agg #[.int .u32 (p0 + Ad.sz (p1 + 1)), .int .i64 (p1 + 1)]] w9 (Lists w9 (downs t (half (p0, p1) true)))) := C2
          clear ho9 hb9
          go_wp2_with fail
          rw [HX.out]
          refine C2.out.mono ?_
          rintro e w10 ⟨a10, c10, rfl, hr10, hb10, hc10⟩
          have R10 := hide hr10
          have C10 := hide hc10
          have B10 := hide (bthen B9.out hb10)
          have HO10 := hide (row_below HO9.out hb10)
          clear hr10 hc10 hb10 C2
          go_wp2_with (at_builtin; go_must (refine append_pfs (w0 := w6) rfl _ _ rfl v9 (1 + (downs t (half (p0, p1) false)).length) ((p0, p1) :: downs t (half (p0, p1) false)) rfl HO10.out a10 (downs t (half (p0, p1) true)).length c10 (downs t (half (p0, p1) true)) rfl rfl R10.out C10.out (by have := HD1.out; have := HD2.out; omega) B10.out ?_))
          intro v11 w11 ho11 hb11
          have BQ := hide hb11
          obtain ⟨ar, cr, hv, hrow, _⟩ := own_shape ho11
          subst hv
          have CS := hide (same_rows al ar lc cr (1 + (downs t (half (p0, p1) false)).length + (downs t (half (p0, p1) true)).length) (downs t (p0, p1)) w11 (by rw [HD0.out]; simp; omega) (by have := HDL.out; omega) (Ad.rowAt_below R6.out hb11) (by rw [HD0.out]; simpa using hrow))
          clear hrow ho11 hb11
          go_wp2_with fail
          refine CS.out.mono ?_
          rintro e w12 ⟨rfl, hb12⟩
          have B12 := hide (bthen BQ.out hb12)
          clear hb12
          go_wp2_with fail
          refine (CV.out _).mono ?_
          rintro e wz ⟨rfl, hbz⟩
          have BZ := hide (bthen B12.out hbz)
          clear hbz
          go_wp2_with fail
          go_ret
          exact ⟨rfl, bthen B3.out (bthen B6.out BZ.out)⟩
      · have HE : Hid (p1 = 32) := by show p1 = 32; have := HGD.out.2.2.2.1; simp only at this; omega
        have HD0 := hide (downs_end TR6.out.wf HGD.out HE.out)
        rw [HGS.out] at HD0
        cases gs
        · simp only [Bool.false_eq_true, if_false] at HD0
          have BQ := hide (brefl w6)
          have CS := hide (same_rows al none lc 0 0 (downs t (p0, p1)) w6 (by rw [HD0.out]; rfl) (by have := HDL.out; omega) R6.out (.inl HD0.out))
          go_wp2_with fail
          refine CS.out.mono ?_
          rintro e w9 ⟨rfl, hb9⟩
          have B9 := hide (bthen BQ.out hb9)
          clear hb9
          go_wp2_with fail
          refine (CV.out _).mono ?_
          rintro e wz ⟨rfl, hbz⟩
          have BZ := hide (bthen B9.out hbz)
          clear hbz
          go_wp2_with fail
          go_ret
          exact ⟨rfl, bthen B3.out (bthen B6.out BZ.out)⟩
        · simp only [if_true] at HD0
          go_wp2_with (at_builtin; go_must (refine append_pfs (w0 := w6) rfl _ _ rfl (.slice none 0 0) 0 [] rfl ⟨rfl, .inl ⟨rfl, rfl⟩⟩ (some ⟨w6.heap.size, 0, none⟩) 1 1 [(p0, p1)] rfl rfl (row_oneP w6 (p0, p1)) (came_some _ _ _) (by omega) (balloc (brefl w6) _) ?_))
          intro v7 w7 ho7 hb7
          have HO7 := hide ho7
          have B7 := hide hb7
          obtain ⟨d0, d1, _, _⟩ := (T6.out.below hb7).cells
          clear ho7 hb7
          obtain ⟨ar, cr, hv, hrow, _⟩ := own_shape HO7.out
          subst hv
          have CS := hide (same_rows al ar lc cr 1 (downs t (p0, p1)) _ (by rw [HD0.out]; simp) (by have := HDL.out; omega) (Ad.rowAt_below R6.out B7.out) (by rw [HD0.out]; exact hrow))
          have BQ := hide B7.out
          clear hrow
          go_wp2_with fail
          refine CS.out.mono ?_
          rintro e w9 ⟨rfl, hb9⟩
          have B9 := hide (bthen BQ.out hb9)
          clear hb9
          go_wp2_with fail
          refine (CV.out _).mono ?_
          rintro e wz ⟨rfl, hbz⟩
          have BZ := hide (bthen B9.out hbz)
          clear hbz
          go_wp2_with fail
          go_ret
          exact ⟨rfl, bthen B3.out (bthen B6.out BZ.out)⟩
end Go.Proofs.Ytechocnednepiaa
