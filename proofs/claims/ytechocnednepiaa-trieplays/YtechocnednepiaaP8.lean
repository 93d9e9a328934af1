import Derived.Test.YtechocnednepiaaP7
/- The contract of a node's without, of a trie's Drop. -/
namespace Go.Proofs.Ytechocnednepiaa
open Go.RowKit

theorem isNil_none {x : Nt} (h : x.ptr = .pointer none) : x.isNil = true := by cases x <;> simp [Nt.ptr, Nt.isNil] at *
theorem isNil_some {x : Nt} {a : Addr} (h : x.ptr = .pointer (some a)) : x.isNil = false := by cases x <;> simp [Nt.ptr, Nt.isNil] at *
theorem ptr_one (t : Nt) : t.ptr.oneCell' = true := by cases t <;> rfl
/-- What the call of a half hands back, and the node's cells behind it. -/
def Half (y : Nat) (z : Value) (b : Nat) (x0 x1 x2 x3 : Value) (k : Nt) (c p : Pf) (W : World) (e : Ending) (w' : World) : Prop :=
  ∃ (x : Nt) (xo : Option Addr), e = .returned (.pointer xo) ∧ x.ptr = .pointer xo ∧ Left y z W k c p w' x ∧ w'.heap[b]? = some (.cells #[x0, x1, x2, x3] y (0, 0))
set_option maxHeartbeats 8000000 in
set_option maxRecDepth 100000 in
theorem without_low {w : World} {b : Nat} {lo hi : Nt} {v : Value} {is : Bool} {c p : Pf} (hl : (Nt.nd b lo hi v is).At 89 w) (hn : (Nt.nd b lo hi v is).own.Nodup) (hw : (Nt.nd b lo hi v is).wf (.int .i64 0) (left c)) (h0 : left c ≠ 0) (hc : Gd c) (hp : Gd p) (hi' : In c p) (hne : c ≠ p) (hs : side c p = false)
    (CK : ∀ W, Below w.heap.size w W → Calls Try.prog 48 #[lo.ptr, pv (half c false), pv p] W (Half 89 (.int .i64 0) b lo.ptr hi.ptr v (.bool is) lo (half c false) p W)) :
    Calls Try.prog 48 #[.pointer (some ⟨b, 0, none⟩), pv c, pv p] w fun e w' => ∃ t' : Nt, e = .returned t'.ptr ∧ Left 89 (.int .i64 0) w (.nd b lo hi v is) c p w' t' := by
  have FIN := hide (fun w1 w2 x (hb1 : Below w.heap.size w w1) hL => left_low (x := x) (w1 := w1) (w2 := w2) (p := p) hl hn hw h0 hb1 hL)
  have HL := hide hl
  have CT := hide (fun W => toward_is hc hp hi' hne W)
  rw [hs] at CT
  have HK := hide CK
  obtain ⟨n0, n1, n2, n3, nf⟩ := node_cells hl.1
  have hbl := lt_of_block hl.1
  have hgd := guardP
  obtain ⟨c0, c1⟩ := c
  obtain ⟨p0, p1⟩ := p
  have heq := eq_ne hne
  clear hl hn hw hc hp hi' hne hs CK nf h0
  unfold pv at CT HK ⊢
  simp only [show sideI false = 0 from rfl] at CT
  generalize (half (c0, c1) false).1 = q0 at *
  generalize (half (c0, c1) false).2 = q1 at *
  go_enter Try.func48, Try.ntmps48
  go_wp2_with fail
  refine (CT.out _).mono ?_
  rintro e w1 ⟨rfl, hb1⟩
  have HB := hide (bthen (balloc (balloc (brefl w) _) _) hb1)
  have T2 := hide (((two_new (w.alloc (.cells #[.int .u32 c0, .int .i64 c1] 30)) (p0, p1))).below hb1)
  rw [size_alloc] at T2
  obtain ⟨d0, d1, _, _⟩ := T2.out.cells
  have hz2 : w.heap.size + 1 < w1.heap.size := T2.out.lt
  obtain ⟨n0, n1, n2, n3, nf⟩ := node_cells ((HB.out.block b hbl).trans HL.out.1)
  have nf0 := nf 0
  have hbl1 : b < w1.heap.size := by omega
  clear hb1 CT nf
  go_wp2_with fail
  have HBW := hide (balloc HB.out (.cells #[.int .u32 q0, .int .i64 q1] 30))
  have T3 := hide (two_new w1 (q0, q1))
  have T4 := hide (T2.out.below (balloc (brefl w1) (.cells #[.int .u32 q0, .int .i64 q1] 30)))
  obtain ⟨e0, e1, _, _⟩ := T3.out.cells
  obtain ⟨d0, d1, _, _⟩ := T4.out.cells
  obtain ⟨n0, n1, n2, n3, nf⟩ := node_cells ((HBW.out.block b hbl).trans HL.out.1)
  clear T2 HB nf T3 T4 nf0
  generalize w1.alloc (.cells #[.int .u32 q0, .int .i64 q1] 30) = W at *
  generalize w1.heap.size = N at *
  go_region_with (go_at_call 48; refine (HK.out _ HBW.out.drew).mono ?_; rintro e w3 ⟨x, xo, rfl, hxo, hLx, hbx⟩; have HXO := hide hxo; have HLx := hide hLx; have HBx := hide hbx; obtain ⟨m0, m1, m2, m3, mf⟩ := node_cells hbx; have mf0 := mf 0; clear hLx hbx mf hxo)
  all_goals
    obtain ⟨t', g1, g2⟩ := FIN.out _ _ x HBW.out.drew HLx.out
    rw [HXO.out] at g2
    have G1 := hide g1
    have G2 := hide g2
    clear g1 g2 FIN HLx HK HBW HL HBx heq hgd d0 d1 e0 e1 n0 n1 n2 n3 mf0
    cases is
    · cases xo with
      | some xa =>
        have hx := isNil_some HXO.out
        go_wp2_with fail
        go_ret
        refine ⟨t', ?_, G2.out⟩
        rw [← G1.out]
        simp [hx]
      | none =>
        have hx := isNil_none HXO.out
        cases hi with
        | nil =>
          simp only [ptr_none] at m1
          go_wp2_with fail
          go_ret
          refine ⟨t', ?_, G2.out⟩
          rw [← G1.out, hx]
          rfl
        | nd b2 lo2 hi2 v2 is2 =>
          simp only [ptr_nd] at m1
          go_wp2_with fail
          go_ret
          refine ⟨t', ?_, G2.out⟩
          rw [← G1.out]
          simp [Nt.isNil]
    · go_wp2_with fail
      go_ret
      refine ⟨t', ?_, G2.out⟩
      rw [← G1.out]
      simp
end Go.Proofs.Ytechocnednepiaa

/- The contract of a node's without: the higher half. -/
namespace Go.Proofs.Ytechocnednepiaa
open Go.RowKit

set_option maxHeartbeats 8000000 in
set_option maxRecDepth 100000 in
theorem without_high {w : World} {b : Nat} {lo hi : Nt} {v : Value} {is : Bool} {c p : Pf} (hl : (Nt.nd b lo hi v is).At 89 w) (hn : (Nt.nd b lo hi v is).own.Nodup) (hw : (Nt.nd b lo hi v is).wf (.int .i64 0) (left c)) (h0 : left c ≠ 0) (hc : Gd c) (hp : Gd p) (hi' : In c p) (hne : c ≠ p) (hs : side c p = true)
    (CK : ∀ W, Below w.heap.size w W → Calls Try.prog 48 #[hi.ptr, pv (half c true), pv p] W (Half 89 (.int .i64 0) b lo.ptr hi.ptr v (.bool is) hi (half c true) p W)) :
    Calls Try.prog 48 #[.pointer (some ⟨b, 0, none⟩), pv c, pv p] w fun e w' => ∃ t' : Nt, e = .returned t'.ptr ∧ Left 89 (.int .i64 0) w (.nd b lo hi v is) c p w' t' := by
  have FIN := hide (fun w1 w2 x (hb1 : Below w.heap.size w w1) hL => left_high (x := x) (w1 := w1) (w2 := w2) (p := p) hl hn hw h0 hb1 hL)
  have HL := hide hl
  have CT := hide (fun W => toward_is hc hp hi' hne W)
  rw [hs] at CT
  have HK := hide CK
  obtain ⟨n0, n1, n2, n3, nf⟩ := node_cells hl.1
  have hbl := lt_of_block hl.1
  have hgd := guardP
  obtain ⟨c0, c1⟩ := c
  obtain ⟨p0, p1⟩ := p
  have heq := eq_ne hne
  clear hl hn hw hc hp hi' hne hs CK nf h0
  unfold pv at CT HK ⊢
  simp only [show sideI true = 1 from rfl] at CT
  generalize (half (c0, c1) true).1 = q0 at *
  generalize (half (c0, c1) true).2 = q1 at *
  go_enter Try.func48, Try.ntmps48
  go_wp2_with fail
  refine (CT.out _).mono ?_
  rintro e w1 ⟨rfl, hb1⟩
  have HB := hide (bthen (balloc (balloc (brefl w) _) _) hb1)
  have T2 := hide (((two_new (w.alloc (.cells #[.int .u32 c0, .int .i64 c1] 30)) (p0, p1))).below hb1)
  rw [size_alloc] at T2
  obtain ⟨d0, d1, _, _⟩ := T2.out.cells
  have hz2 : w.heap.size + 1 < w1.heap.size := T2.out.lt
  obtain ⟨n0, n1, n2, n3, nf⟩ := node_cells ((HB.out.block b hbl).trans HL.out.1)
  have nf1 := nf 1
  have hbl1 : b < w1.heap.size := by omega
  clear hb1 CT nf
  go_wp2_with fail
  have HBW := hide (balloc HB.out (.cells #[.int .u32 q0, .int .i64 q1] 30))
  have T3 := hide (two_new w1 (q0, q1))
  have T4 := hide (T2.out.below (balloc (brefl w1) (.cells #[.int .u32 q0, .int .i64 q1] 30)))
  obtain ⟨e0, e1, _, _⟩ := T3.out.cells
  obtain ⟨d0, d1, _, _⟩ := T4.out.cells
  obtain ⟨n0, n1, n2, n3, nf⟩ := node_cells ((HBW.out.block b hbl).trans HL.out.1)
  clear T2 HB nf T3 T4 nf1
  generalize w1.alloc (.cells #[.int .u32 q0, .int .i64 q1] 30) = W at *
  generalize w1.heap.size = N at *
  go_region_with (go_at_call 48; refine (HK.out _ HBW.out.drew).mono ?_; rintro e w3 ⟨x, xo, rfl, hxo, hLx, hbx⟩; have HXO := hide hxo; have HLx := hide hLx; have HBx := hide hbx; obtain ⟨m0, m1, m2, m3, mf⟩ := node_cells hbx; have mf1 := mf 1; clear hLx hbx mf hxo)
  all_goals
    obtain ⟨t', g1, g2⟩ := FIN.out _ _ x HBW.out.drew HLx.out
    rw [HXO.out] at g2
    have G1 := hide g1
    have G2 := hide g2
    clear g1 g2 FIN HLx HK HBW HL HBx heq hgd d0 d1 e0 e1 n0 n1 n2 n3 mf1
    cases is
    · cases lo with
      | nd b2 lo2 hi2 v2 is2 =>
        simp only [ptr_nd] at m0
        go_wp2_with fail
        go_ret
        refine ⟨t', ?_, G2.out⟩
        rw [← G1.out]
        simp [Nt.isNil]
      | nil =>
        simp only [ptr_none] at m0
        cases xo with
        | none =>
          have hx := isNil_none HXO.out
          go_wp2_with fail
          go_ret
          refine ⟨t', ?_, G2.out⟩
          rw [← G1.out, hx]
          rfl
        | some xa =>
          have hx := isNil_some HXO.out
          go_wp2_with fail
          go_ret
          refine ⟨t', ?_, G2.out⟩
          rw [← G1.out]
          simp [hx]
    · go_wp2_with fail
      go_ret
      refine ⟨t', ?_, G2.out⟩
      rw [← G1.out]
      simp
end Go.Proofs.Ytechocnednepiaa

