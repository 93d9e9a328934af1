/- The contract of addr's Parse. -/
import Derived.Test.YtfkajefminopjaaDoorP3
import Derived.Test.YtfkajefminopjaaDoorA4
namespace Go.Proofs.YtfkajefminopjaaDoor
open Go.RowKit

/-- What Parse hands back, of a prefix and an error. -/
def Ad.res (a b e : Int) : Value := .tuple #[.agg #[.int .u32 a, .int .i64 b], .int .i64 e]

set_option maxHeartbeats 2000000 in
set_option maxRecDepth 100000 in
theorem parse_form (s : ByteArray) (w : World) (hs : s.size ≤ 4000) (h : Hid (Ad.splitOf s.data.toList = Ad.noParts)) :
    Calls Tryd.prog 10 #[.string s] w fun e w' => e = .returned (Ad.res 0 0 4) ∧ Below w.heap.size w w' := by
  go_enter Tryd.func10, Tryd.ntmps10
  go_wp2_with fail
  refine (split_any s _ hs).mono ?_
  rintro e w1 ⟨rfl, hb1⟩
  rw [h.out, Ad.noParts]
  obtain ⟨hc1, hf1⟩ := bcell hb1
  have hz : w.heap.size < w1.heap.size := by have := hb1.size; simp at this; omega
  have hz1 : w.heap.size < w1.heap.size + 1 := by omega
  go_wp2_with fail
  exact bodyPost_ret (v := Ad.res 0 0 4) (by simp [results, Tryd.results10, go_sem, hc1, hz, Ad.res]) rfl ⟨rfl, balloc (bset (bset (bthen (balloc (brefl w) _) hb1) (by simp) _) (by simp) _) _⟩

/-- A number that is above m: too many digits, or too great. -/
def Ad.bad (l : List UInt8) (m : Int) : Bool := decide (3 < l.length ∨ m < Ad.num l)
def Ad.addr4 (l0 l1 l2 l3 : List UInt8) : Int := ((Ad.num l0 * 256 + Ad.num l1) * 256 + Ad.num l2) * 256 + Ad.num l3
/-- The prefix of five numbers, and the error. -/
def Ad.parseT (l0 l1 l2 l3 l4 : List UInt8) : Int × Int × Int :=
  if (Ad.bad l0 255 || Ad.bad l1 255 || Ad.bad l2 255 || Ad.bad l3 255 || Ad.bad l4 32) = true then (0, 0, 7)
  else if Ad.may (Ad.addr4 l0 l1 l2 l3) (Ad.num l4) = true then (Ad.addr4 l0 l1 l2 l3, Ad.num l4, 0) else (0, 0, 1)

theorem Ad.numOf_bad {l : List UInt8} {m : Int} (h : Ad.bad l m = true) : Ad.numOf l m = .tuple #[.int .i64 0, .bool false] := by
  unfold Ad.numOf; rw [if_pos (of_decide_eq_true h)]
theorem Ad.numOf_good {l : List UInt8} {m : Int} (h : Ad.bad l m = false) : Ad.numOf l m = .tuple #[.int .i64 (Ad.num l), .bool true] := by
  unfold Ad.numOf; rw [if_neg (of_decide_eq_false h)]
theorem Ad.good_bd {l : List UInt8} {m : Int} (hd : Ad.digs l = true) (h : Ad.bad l m = false) : 0 ≤ Ad.num l ∧ Ad.num l ≤ m := by
  have h1 := (Ad.num_bd l hd).1
  have h2 := of_decide_eq_false h
  omega

theorem Ad.or0 (n : Int) (h0 : 0 ≤ n) (h1 : n ≤ 255) : bits .or .u32 0 n = n := by
  have := Ad.or_low 0 n 8 (by decide) (by decide) (by decide) h0 (by have : ((2 ^ 8 : Nat) : Int) = 256 := rfl; omega) (by decide)
  omega
theorem Ad.or8 (x n : Int) (h0 : 0 ≤ n) (h1 : n ≤ 255) (g0 : 0 ≤ x) (g1 : x ≤ 16777215) : bits .or .u32 (x * 256 % 4294967296) n = x * 256 + n := by
  have e : x * 256 % 4294967296 = x * 256 := by omega
  rw [e]
  exact Ad.or_low (x * 256) n 8 (by omega) (by omega) (by have : ((2 ^ 8 : Nat) : Int) = 256 := rfl; omega) h0 (by have : ((2 ^ 8 : Nat) : Int) = 256 := rfl; omega) (by decide)

theorem Ad.or8' (x n : Int) (h0 : 0 ≤ n) (h1 : n ≤ 255) (g0 : 0 ≤ x) (g1 : x ≤ 16777215) : bits .or .u32 (x * 256) n = x * 256 + n :=
  Ad.or_low (x * 256) n 8 (by omega) (by omega) (by have : ((2 ^ 8 : Nat) : Int) = 256 := rfl; omega) h0 (by have : ((2 ^ 8 : Nat) : Int) = 256 := rfl; omega) (by decide)

set_option maxHeartbeats 4000000 in
set_option maxRecDepth 100000 in
theorem parse_some (s t0 t1 t2 t3 t4 : ByteArray) (w : World) (hs : s.size ≤ 4000) (h : Hid (Ad.splitOf s.data.toList = .tuple #[.agg #[.string t0, .string t1, .string t2, .string t3, .string t4], .bool true]))
    (z0 : t0.size ≤ 4000) (z1 : t1.size ≤ 4000) (z2 : t2.size ≤ 4000) (z3 : t3.size ≤ 4000) (z4 : t4.size ≤ 4000)
    (D0 : Hid (Ad.digs t0.data.toList = true)) (D1 : Hid (Ad.digs t1.data.toList = true)) (D2 : Hid (Ad.digs t2.data.toList = true)) (D3 : Hid (Ad.digs t3.data.toList = true)) (D4 : Hid (Ad.digs t4.data.toList = true))
    (a b e' : Int) (HR : Hid (Ad.parseT t0.data.toList t1.data.toList t2.data.toList t3.data.toList t4.data.toList = (a, b, e'))) :
    Calls Tryd.prog 10 #[.string s] w fun e w' => e = .returned (Ad.res a b e') ∧ Below w.heap.size w w' := by
  go_enter Tryd.func10, Tryd.ntmps10
  go_wp2_with fail
  refine (split_any s _ hs).mono ?_
  rintro e w1 ⟨rfl, hb1⟩
  rw [h.out]
  obtain ⟨hc1, hf1⟩ := bcell hb1
  have hz : w.heap.size < w1.heap.size := by have := hb1.size; simp at this; omega
  have hz1 : w.heap.size < w1.heap.size + 1 := by omega
  have hz2 : w.heap.size < w1.heap.size + 1 + 1 := by omega
  go_wp2_with fail
  refine wp_loop_rounds 5 ?_
  rw [rounds_succ]
  go_wp2_with fail
  refine (number_any t0 255 _ (by unfold maxLen; omega) D0.out).mono ?_
  rintro e w2 ⟨rfl, rfl⟩
  cases b0 : Ad.bad t0.data.toList 255
  rotate_left
  · rw [Ad.numOf_bad b0]
    have hf : Hid ((0, 0, 7) = (a, b, e')) := by
      show _ = _
      rw [← HR.out]
      unfold Ad.parseT
      rw [if_pos (by simp [b0])]
    clear b0 HR
    go_wp2_with fail
    exact bodyPost_ret (v := Ad.res 0 0 7) (by simp [results, Tryd.results10, go_sem, hc1, hz, hz1, Ad.res]) rfl ⟨by have := hf.out; simp only [Prod.mk.injEq] at this; rw [← this.1, ← this.2.1, ← this.2.2], balloc (balloc (bset (bset (bthen (balloc (brefl w) _) hb1) (by simp) _) (by simp) _) _) _⟩
  · rw [Ad.numOf_good b0]
    obtain ⟨m0, m0'⟩ := Ad.good_bd D0.out b0
    have G0 := hide b0
    clear b0
    generalize hN0 : Ad.num t0.data.toList = n0 at m0 m0' ⊢
    have N0 := hide hN0
    clear hN0
    go_wp2_with fail
    rw [Ad.or0 n0 m0 m0']
    have x0 : 0 ≤ n0 := m0
    have y0 : n0 ≤ 255 := m0'
    rw [rounds_succ]
    go_wp2_with fail
    refine (number_any t1 255 _ (by unfold maxLen; omega) D1.out).mono ?_
    rintro e w2 ⟨rfl, rfl⟩
    cases b1 : Ad.bad t1.data.toList 255
    rotate_left
    · rw [Ad.numOf_bad b1]
      have hf : Hid ((0, 0, 7) = (a, b, e')) := by
        show _ = _
        rw [← HR.out]
        unfold Ad.parseT
        rw [if_pos (by simp [b1])]
      clear b1 HR
      go_wp2_with fail
      exact bodyPost_ret (v := Ad.res 0 0 7) (by simp [results, Tryd.results10, go_sem, hc1, hz, hz1, Ad.res]) rfl ⟨by have := hf.out; simp only [Prod.mk.injEq] at this; rw [← this.1, ← this.2.1, ← this.2.2], balloc (balloc (bset (bset (bthen (balloc (brefl w) _) hb1) (by simp) _) (by simp) _) _) _⟩
    · rw [Ad.numOf_good b1]
      obtain ⟨m1, m1'⟩ := Ad.good_bd D1.out b1
      have G1 := hide b1
      clear b1
      generalize hN1 : Ad.num t1.data.toList = n1 at m1 m1' ⊢
      have N1 := hide hN1
      clear hN1
      go_wp2_with fail
      first | rw [Ad.or8 n0 n1 m1 m1' m0 (by omega)] | rw [Ad.or8' n0 n1 m1 m1' m0 (by omega)]
      have X1 : Hid (n0 * 256 + n1 = n0 * 256 + n1) := rfl
      generalize hx1 : n0 * 256 + n1 = x1 at X1 ⊢
      have p1 : 0 ≤ x1 := by omega
      have q1 : x1 ≤ 65535 := by omega
      have XX1 := hide hx1
      clear hx1 X1
      rw [rounds_succ]
      go_wp2_with fail
      refine (number_any t2 255 _ (by unfold maxLen; omega) D2.out).mono ?_
      rintro e w2 ⟨rfl, rfl⟩
      cases b2 : Ad.bad t2.data.toList 255
      rotate_left
      · rw [Ad.numOf_bad b2]
        have hf : Hid ((0, 0, 7) = (a, b, e')) := by
          show _ = _
          rw [← HR.out]
          unfold Ad.parseT
          rw [if_pos (by simp [b2])]
        clear b2 HR
        go_wp2_with fail
        exact bodyPost_ret (v := Ad.res 0 0 7) (by simp [results, Tryd.results10, go_sem, hc1, hz, hz1, Ad.res]) rfl ⟨by have := hf.out; simp only [Prod.mk.injEq] at this; rw [← this.1, ← this.2.1, ← this.2.2], balloc (balloc (bset (bset (bthen (balloc (brefl w) _) hb1) (by simp) _) (by simp) _) _) _⟩
      · rw [Ad.numOf_good b2]
        obtain ⟨m2, m2'⟩ := Ad.good_bd D2.out b2
        have G2 := hide b2
        clear b2
        generalize hN2 : Ad.num t2.data.toList = n2 at m2 m2' ⊢
        have N2 := hide hN2
        clear hN2
        go_wp2_with fail
        first | rw [Ad.or8 x1 n2 m2 m2' p1 (by omega)] | rw [Ad.or8' x1 n2 m2 m2' p1 (by omega)]
        have X2 : Hid (x1 * 256 + n2 = x1 * 256 + n2) := rfl
        generalize hx2 : x1 * 256 + n2 = x2 at X2 ⊢
        have p2 : 0 ≤ x2 := by omega
        have q2 : x2 ≤ 16777215 := by omega
        have XX2 := hide hx2
        clear hx2 X2
        rw [rounds_succ]
        go_wp2_with fail
        refine (number_any t3 255 _ (by unfold maxLen; omega) D3.out).mono ?_
        rintro e w2 ⟨rfl, rfl⟩
        cases b3 : Ad.bad t3.data.toList 255
        rotate_left
        · rw [Ad.numOf_bad b3]
          have hf : Hid ((0, 0, 7) = (a, b, e')) := by
            show _ = _
            rw [← HR.out]
            unfold Ad.parseT
            rw [if_pos (by simp [b3])]
          clear b3 HR
          go_wp2_with fail
          exact bodyPost_ret (v := Ad.res 0 0 7) (by simp [results, Tryd.results10, go_sem, hc1, hz, hz1, Ad.res]) rfl ⟨by have := hf.out; simp only [Prod.mk.injEq] at this; rw [← this.1, ← this.2.1, ← this.2.2], balloc (balloc (bset (bset (bthen (balloc (brefl w) _) hb1) (by simp) _) (by simp) _) _) _⟩
        · rw [Ad.numOf_good b3]
          obtain ⟨m3, m3'⟩ := Ad.good_bd D3.out b3
          have G3 := hide b3
          clear b3
          generalize hN3 : Ad.num t3.data.toList = n3 at m3 m3' ⊢
          have N3 := hide hN3
          clear hN3
          go_wp2_with fail
          first | rw [Ad.or8 x2 n3 m3 m3' p2 (by omega)] | rw [Ad.or8' x2 n3 m3 m3' p2 (by omega)]
          have X3 : Hid (x2 * 256 + n3 = x2 * 256 + n3) := rfl
          generalize hx3 : x2 * 256 + n3 = x3 at X3 ⊢
          have p3 : 0 ≤ x3 := by omega
          have q3 : x3 ≤ 4294967295 := by omega
          have XX3 := hide hx3
          clear hx3 X3
          rw [rounds_succ]
          go_wp2_with fail
          refine (number_any t4 32 _ (by unfold maxLen; omega) D4.out).mono ?_
          rintro e w2 ⟨rfl, rfl⟩
          cases b4 : Ad.bad t4.data.toList 32
          rotate_left
          · rw [Ad.numOf_bad b4]
            have hf : Hid ((0, 0, 7) = (a, b, e')) := by
              show _ = _
              rw [← HR.out]
              unfold Ad.parseT
              rw [if_pos (by simp [b4])]
            clear b4 HR
            go_wp2_with fail
            exact bodyPost_ret (v := Ad.res 0 0 7) (by simp [results, Tryd.results10, go_sem, hc1, hz, hz1, Ad.res]) rfl ⟨by have := hf.out; simp only [Prod.mk.injEq] at this; rw [← this.1, ← this.2.1, ← this.2.2], balloc (balloc (bset (bset (bthen (balloc (brefl w) _) hb1) (by simp) _) (by simp) _) _) _⟩
          · rw [Ad.numOf_good b4]
            obtain ⟨m4, m4'⟩ := Ad.good_bd D4.out b4
            have hA : Hid (Ad.addr4 t0.data.toList t1.data.toList t2.data.toList t3.data.toList = x3) := by
              show _ = _
              unfold Ad.addr4
              rw [N0.out, N1.out, N2.out, N3.out, XX1.out, XX2.out, XX3.out]
            have hB : Hid ((Ad.bad t0.data.toList 255 || Ad.bad t1.data.toList 255 || Ad.bad t2.data.toList 255 || Ad.bad t3.data.toList 255 || Ad.bad t4.data.toList 32) = false) := by
              show _ = _
              rw [G0.out, G1.out, G2.out, G3.out, b4]
              rfl
            clear b4
            generalize hN4 : Ad.num t4.data.toList = n4 at m4 m4' ⊢
            have N4 := hide hN4
            clear hN4
            go_wp2_with fail
            cases hm : Ad.may x3 n4
            · have hf : Hid ((0, 0, 1) = (a, b, e')) := by
                show _ = _
                rw [← HR.out]
                unfold Ad.parseT
                rw [hB.out, hA.out, N4.out, hm]
                rfl
              clear HR
              refine (may_is _ _ _ hm _ p3 q3).mono ?_
              rintro e w3 ⟨rfl, hb3⟩
              obtain ⟨hc3, hf3⟩ := bcell hb3
              have hy : w.heap.size < w3.heap.size := by have := hb3.size; simp at this; omega
              go_wp2_with fail
              exact bodyPost_ret (v := Ad.res 0 0 1) (by simp [results, Tryd.results10, go_sem, hc1, hc3, hz, hz1, hz2, Ad.res]) rfl ⟨by have := hf.out; simp only [Prod.mk.injEq] at this; rw [← this.1, ← this.2.1, ← this.2.2], bset (bset (bthen (balloc (balloc (bthen (balloc (brefl w) _) hb1) _) _) hb3) (by simp) _) (by simp) _⟩
            · have hf : Hid ((x3, n4, 0) = (a, b, e')) := by
                show _ = _
                rw [← HR.out]
                unfold Ad.parseT
                rw [hB.out, hA.out, N4.out, hm]
                rfl
              clear HR
              refine (may_is _ _ _ hm _ p3 q3).mono ?_
              rintro e w3 ⟨rfl, hb3⟩
              obtain ⟨hc3, hf3⟩ := bcell hb3
              have hy : w.heap.size < w3.heap.size := by have := hb3.size; simp at this; omega
              go_wp2_with fail
              exact bodyPost_ret (v := Ad.res x3 n4 0) (by simp [results, Tryd.results10, go_sem, hc1, hc3, hz, hz1, hz2, Ad.res]) rfl ⟨by have := hf.out; simp only [Prod.mk.injEq] at this; rw [← this.1, ← this.2.1, ← this.2.2], bset (bset (bthen (balloc (balloc (bthen (balloc (brefl w) _) hb1) _) _) hb3) (by simp) _) (by simp) _⟩
end Go.Proofs.YtfkajefminopjaaDoor
