/- The law AddrAbove walked: it answers true at every two prefixes. -/
import Derived.Test.YtfkajefminopjaaDoorK1
import Derived.Test.YtfkajefminopjaaDoorM6
namespace Go.Proofs.YtfkajefminopjaaDoor
open Go.RowKit

set_option maxHeartbeats 1000000 in
theorem above_no (a b c d : Int) (w : World) (ha : 0 ≤ a) (ha2 : a ≤ 4294967295) (hc : 0 ≤ c) (hc2 : c ≤ 4294967295) (hn : (Ad.may a b && Ad.may c d) = false) :
    Calls Tryd.prog 26 #[.agg #[.int .u32 a, .int .i64 b], .agg #[.int .u32 c, .int .i64 d]] w fun e w' =>
      e = .returned (.tuple #[.agg #[.int .u32 0, .int .i64 0], .int .i64 1]) ∧ Below w.heap.size w w' := by
  cases hm : Ad.may a b
  · clear hn
    go_enter Tryd.func26, Tryd.ntmps26
    go_wp2_with fail
    refine (may_is _ _ _ hm _ ha ha2).mono ?_
    rintro e w1 ⟨rfl, hb1⟩
    obtain ⟨hc1, hf1⟩ := bcell hb1
    have hz : w.heap.size + 1 + 1 < w1.heap.size := by have := hb1.size; simp at this; omega
    go_wp2_with fail
    exact bodyPost_ret (v := .tuple #[.agg #[.int .u32 0, .int .i64 0], .int .i64 1]) (by simp [results, Tryd.results26, go_sem, hc1]) rfl ⟨rfl, bset (bset (bthen (balloc (balloc (balloc (brefl w) _) _) _) hb1) (by simp; omega) _) (by simp; omega) _⟩
  · have hm2 : Ad.may c d = false := by rw [hm] at hn; simpa using hn
    clear hn
    go_enter Tryd.func26, Tryd.ntmps26
    go_wp2_with fail
    refine (may_is _ _ _ hm _ ha ha2).mono ?_
    rintro e w1 ⟨rfl, hb1⟩
    obtain ⟨hc1, hf1⟩ := bcell hb1
    have hz : w.heap.size + 1 + 1 < w1.heap.size := by have := hb1.size; simp at this; omega
    have hz1 : w.heap.size + 1 < w1.heap.size := by omega
    go_wp2_with fail
    refine (may_is _ _ _ hm2 _ hc hc2).mono ?_
    rintro e w2 ⟨rfl, hb2⟩
    obtain ⟨hc2', hf2⟩ := bcell hb2
    go_wp2_with fail
    exact bodyPost_ret (v := .tuple #[.agg #[.int .u32 0, .int .i64 0], .int .i64 1]) (by simp [results, Tryd.results26, go_sem, hc1, hc2', hz]) rfl ⟨rfl, bset (bset (bthen (bthen (balloc (balloc (balloc (brefl w) _) _) _) hb1) hb2) (by simp; omega) _) (by simp; omega) _⟩
set_option maxHeartbeats 2000000 in
set_option maxRecDepth 100000 in
theorem aboveL_no (a b c d : Int) (r1 : Bool) (w : World) (ha : 0 ≤ a) (ha2 : a ≤ 4294967295) (hc : 0 ≤ c) (hc2 : c ≤ 4294967295) (hn : Hid ((Ad.may a b && Ad.may c d) = false)) (hn2 : Hid ((Ad.may c d && Ad.may a b) = false)) (R1 : Hid (Ad.may a b = r1)) (R2 : Hid (r1 = true → Ad.may c d = false)) :
    Calls Tryd.prog 7 #[.agg #[.int .u32 a, .int .i64 b], .agg #[.int .u32 c, .int .i64 d]] w fun e w' => e = .returned (.bool true) ∧ Below w.heap.size w w' := by
  have hgd := guardP
  have heq := eqP
  go_enter Tryd.func7, Tryd.ntmps7
  go_wp2_with fail
  refine (above_no a b c d _ ha ha2 hc hc2 hn.out).mono ?_
  rintro e w1 ⟨rfl, hb1⟩
  obtain ⟨p0, p1, p2, p3⟩ := two_below hb1 (n := w.heap.size) (a := a) (b := b) (by simp [go_sem]) (by simp [go_sem])
  obtain ⟨q0, q1, q2, q3⟩ := two_below hb1 (n := w.heap.size + 1) (a := c) (b := d) (by simp [go_sem]) (by simp [go_sem])
  have B1 := hide (bthen (balloc (balloc (brefl w) _) _) hb1)
  clear hb1
  go_wp2_with fail
  refine (above_no c d a b _ hc hc2 ha ha2 hn2.out).mono ?_
  rintro e w2 ⟨rfl, hb2⟩
  obtain ⟨u0, u1, u2, u3⟩ := two_below hb2 (n := w1.heap.size) (a := 0) (b := 0) (by simp [go_sem]) (by simp [go_sem])
  obtain ⟨p0, p1, p2, p3⟩ := two_below hb2 (n := w.heap.size) (a := a) (b := b) ((World.cell?_alloc_past _ _ _ p2).trans p0) ((World.cell?_alloc_past _ _ _ p2).trans p1)
  obtain ⟨q0, q1, q2, q3⟩ := two_below hb2 (n := w.heap.size + 1) (a := c) (b := d) ((World.cell?_alloc_past _ _ _ q2).trans q0) ((World.cell?_alloc_past _ _ _ q2).trans q1)
  have B2 := hide (bthen (balloc B1.out _) hb2)
  clear hb2 B1
  go_wp2_with fail
  refine (refMay_is _ _ _ R1.out _ ha ha2).mono ?_
  rintro e w3 ⟨rfl, hb3⟩
  obtain ⟨u0, u1, u2, u3⟩ := two_below hb3 (n := w1.heap.size) (a := 0) (b := 0) ((World.cell?_alloc_past _ _ _ u2).trans u0) ((World.cell?_alloc_past _ _ _ u2).trans u1)
  obtain ⟨q0, q1, q2, q3⟩ := two_below hb3 (n := w.heap.size + 1) (a := c) (b := d) ((World.cell?_alloc_past _ _ _ q2).trans q0) ((World.cell?_alloc_past _ _ _ q2).trans q1)
  have B3 := hide (bthen (balloc B2.out _) hb3)
  clear hb3 B2 p0 p1 p2 p3
  cases r1
  · go_wp2_with fail
    refine (lives_any _).mono ?_
    rintro e w4 ⟨rfl, hb4⟩
    have B4 := hide (bthen B3.out hb4)
    clear hb4 B3
    go_wp2_with fail
    go_ret
    exact ⟨rfl, B4.out⟩
  · have R2' := hide (R2.out rfl)
    clear R2
    go_wp2_with fail
    refine (refMay_is _ _ _ R2'.out _ hc hc2).mono ?_
    rintro e w4 ⟨rfl, hb4⟩
    obtain ⟨u0, u1, u2, u3⟩ := two_below hb4 u0 u1
    have B4 := hide (bthen B3.out hb4)
    clear hb4 B3
    go_wp2_with fail
    refine (lives_any _).mono ?_
    rintro e w5 ⟨rfl, hb5⟩
    have B5 := hide (bthen B4.out hb5)
    clear hb5 B4
    go_wp2_with fail
    go_ret
    exact ⟨rfl, B5.out⟩

set_option maxHeartbeats 2000000 in
set_option maxRecDepth 100000 in
theorem aboveL_all (a b c d : Int) (w : World) (ha : 0 ≤ a) (ha2 : a ≤ 4294967295) (hc : 0 ≤ c) (hc2 : c ≤ 4294967295) (k : Nat) (M1 : Hid (Ad.may a b = true)) (M2 : Hid (Ad.may c d = true)) (HT : Hid (Ad.peak a b c d k)) (hk : Hid (k = 32)) :
    Calls Tryd.prog 7 #[.agg #[.int .u32 a, .int .i64 b], .agg #[.int .u32 c, .int .i64 d]] w fun e w' => e = .returned (.bool true) ∧ Below w.heap.size w w' := by
  have hgd := guardP
  have hb0 := ((Ad.may_iff _ _).1 M1.out).1
  have hb2' := ((Ad.may_iff _ _).1 M1.out).2.1
  have hd0 := ((Ad.may_iff _ _).1 M2.out).1
  have hd2' := ((Ad.may_iff _ _).1 M2.out).2.1
  have hu0 : 0 ≤ Ad.cut a k := Ad.cut_nonneg a k ha
  have hu1 : Ad.cut a k ≤ 4294967295 := by have := Ad.cut_le a k; omega
  go_enter Tryd.func7, Tryd.ntmps7
  go_wp2_with fail
  refine (above_yes a b c d _ ha ha2 hc hc2 M1.out M2.out hb0 hb2' hd0 hd2').mono ?_
  rintro e w1 ⟨k1, rfl, t1, t2, t3, t4, hb1⟩
  obtain rfl : k1 = k := Nat.le_antisymm (Ad.peak_le a b c d k k1 HT.out t1 t2 t3) (Ad.peak_le a b c d k1 k ⟨t1, t2, t3, t4⟩ HT.out.1 HT.out.2.1 HT.out.2.2.1)
  obtain ⟨p0, p1, p2, p3⟩ := two_below hb1 (n := w.heap.size) (a := a) (b := b) (by simp [go_sem]) (by simp [go_sem])
  obtain ⟨q0, q1, q2, q3⟩ := two_below hb1 (n := w.heap.size + 1) (a := c) (b := d) (by simp [go_sem]) (by simp [go_sem])
  have B1 := hide (bthen (balloc (balloc (brefl w) _) _) hb1)
  clear hb1 t1 t2 t3 t4
  go_wp2_with fail
  refine (above_yes c d a b _ hc hc2 ha ha2 M2.out M1.out hd0 hd2' hb0 hb2').mono ?_
  rintro e w2 ⟨k2, rfl, t1, t2, t3, t4, hb2⟩
  obtain rfl : k2 = k1 := Ad.peak_unique a b c d k1 k2 HT.out ⟨t1, t2, t3, t4⟩
  rw [t3]
  obtain ⟨u0, u1, u2, u3⟩ := two_below hb2 (n := w1.heap.size) (a := Ad.cut a k2) (b := (k2 : Int)) (by simp [go_sem]) (by simp [go_sem])
  obtain ⟨p0, p1, p2, p3⟩ := two_below hb2 (n := w.heap.size) (a := a) (b := b) ((World.cell?_alloc_past _ _ _ p2).trans p0) ((World.cell?_alloc_past _ _ _ p2).trans p1)
  obtain ⟨q0, q1, q2, q3⟩ := two_below hb2 (n := w.heap.size + 1) (a := c) (b := d) ((World.cell?_alloc_past _ _ _ q2).trans q0) ((World.cell?_alloc_past _ _ _ q2).trans q1)
  have B2 := hide (bthen (balloc B1.out _) hb2)
  clear hb2 B1 t1 t2 t3 t4
  generalize hU : Ad.cut a k2 = u at *
  have HU := hide hU
  clear hU
  go_wp2_with fail
  refine (refMay_is _ _ _ M1.out _ ha ha2).mono ?_
  rintro e w3 ⟨rfl, hb3⟩
  obtain ⟨v0, v1, v2, v3⟩ := two_below hb3 (n := w2.heap.size) (a := u) (b := (k2 : Int)) (by simp [go_sem]) (by simp [go_sem])
  obtain ⟨u0, u1, u2, u3⟩ := two_below hb3 (n := w1.heap.size) (a := u) (b := (k2 : Int)) ((World.cell?_alloc_past _ _ _ u2).trans u0) ((World.cell?_alloc_past _ _ _ u2).trans u1)
  obtain ⟨p0, p1, p2, p3⟩ := two_below hb3 (n := w.heap.size) (a := a) (b := b) ((World.cell?_alloc_past _ _ _ p2).trans p0) ((World.cell?_alloc_past _ _ _ p2).trans p1)
  obtain ⟨q0, q1, q2, q3⟩ := two_below hb3 (n := w.heap.size + 1) (a := c) (b := d) ((World.cell?_alloc_past _ _ _ q2).trans q0) ((World.cell?_alloc_past _ _ _ q2).trans q1)
  have B3 := hide (bthen (balloc B2.out _) hb3)
  clear hb3 B2
  go_wp2_with fail
  refine (refMay_is _ _ _ M2.out _ hc hc2).mono ?_
  rintro e w4 ⟨rfl, hb4⟩
  obtain ⟨v0, v1, v2, v3⟩ := two_below hb4 v0 v1
  obtain ⟨u0, u1, u2, u3⟩ := two_below hb4 u0 u1
  obtain ⟨p0, p1, p2, p3⟩ := two_below hb4 p0 p1
  obtain ⟨q0, q1, q2, q3⟩ := two_below hb4 q0 q1
  have B4 := hide (bthen B3.out hb4)
  clear hb4 B3
  have hneq := neqP
  go_wp2_with fail
  clear hneq
  refine (refContains_is _ _ _ _ true (by rw [← HU.out]; exact Ad.peak_contains1 a b c d k2 M1.out hb2' HT.out) _ hu0 hu1 ha ha2).mono ?_
  rintro e w5 ⟨rfl, hb5⟩
  obtain ⟨u0, u1, u2, u3⟩ := two_below hb5 u0 u1
  obtain ⟨p0, p1, p2, p3⟩ := two_below hb5 p0 p1
  obtain ⟨q0, q1, q2, q3⟩ := two_below hb5 q0 q1
  have B5 := hide (bthen B4.out hb5)
  clear hb5 B4 v0 v1 v2 v3
  go_wp2_with fail
  refine (refContains_is _ _ _ _ true (by rw [← HU.out]; exact Ad.peak_contains2 a b c d k2 M2.out hb2' HT.out) _ hu0 hu1 hc hc2).mono ?_
  rintro e w6 ⟨rfl, hb6⟩
  obtain ⟨u0, u1, u2, u3⟩ := two_below hb6 u0 u1
  obtain ⟨p0, p1, p2, p3⟩ := two_below hb6 p0 p1
  obtain ⟨q0, q1, q2, q3⟩ := two_below hb6 q0 q1
  have B6 := hide (bthen B5.out hb6)
  clear hb6 B5
  obtain rfl : k2 = 32 := hk.out
  have hac : a = c ∧ b = d := by
    have h1 := HT.out.1
    have h2 := HT.out.2.1
    have hb : b = ((32 : Nat) : Int) := by omega
    have hd : d = ((32 : Nat) : Int) := by omega
    have h3 := HT.out.2.2.1
    have h4 := ((Ad.may_iff _ _).1 M1.out).2.2
    have h5 := ((Ad.may_iff _ _).1 M2.out).2.2
    rw [hb] at h4
    rw [hd] at h5
    exact ⟨by rw [← h4, h3, h5], by omega⟩
  have heq : ∀ w, (binOp .eql 24 (.agg #[.int .u32 a, .int .i64 b]) (.agg #[.int .u32 c, .int .i64 d])).run Tryd.prog w = .ok (.bool true) w := by
    intro w; rw [eqP, hac.1, hac.2]; simp
  clear hac
  go_wp2_with fail
  refine (lives_any _).mono ?_
  rintro e w7 ⟨rfl, hb7⟩
  have B7 := hide (bthen B6.out hb7)
  clear hb7 B6
  go_wp2_with fail
  go_ret
  exact ⟨rfl, B7.out⟩

set_option maxHeartbeats 2000000 in
set_option maxRecDepth 100000 in
theorem aboveL_half (a b c d : Int) (w : World) (ha : 0 ≤ a) (ha2 : a ≤ 4294967295) (hc : 0 ≤ c) (hc2 : c ≤ 4294967295) (k : Nat) (M1 : Hid (Ad.may a b = true)) (M2 : Hid (Ad.may c d = true)) (HT : Hid (Ad.peak a b c d k)) (hk : k ≤ 31) :
    Calls Tryd.prog 7 #[.agg #[.int .u32 a, .int .i64 b], .agg #[.int .u32 c, .int .i64 d]] w fun e w' => e = .returned (.bool true) ∧ Below w.heap.size w w' := by
  have hgd := guardP
  have hb0 := ((Ad.may_iff _ _).1 M1.out).1
  have hb2' := ((Ad.may_iff _ _).1 M1.out).2.1
  have hd0 := ((Ad.may_iff _ _).1 M2.out).1
  have hd2' := ((Ad.may_iff _ _).1 M2.out).2.1
  have hu0 : 0 ≤ Ad.cut a k := Ad.cut_nonneg a k ha
  have hu1 : Ad.cut a k ≤ 4294967295 := by have := Ad.cut_le a k; omega
  go_enter Tryd.func7, Tryd.ntmps7
  go_wp2_with fail
  refine (above_yes a b c d _ ha ha2 hc hc2 M1.out M2.out hb0 hb2' hd0 hd2').mono ?_
  rintro e w1 ⟨k1, rfl, t1, t2, t3, t4, hb1⟩
  obtain rfl : k1 = k := Nat.le_antisymm (Ad.peak_le a b c d k k1 HT.out t1 t2 t3) (Ad.peak_le a b c d k1 k ⟨t1, t2, t3, t4⟩ HT.out.1 HT.out.2.1 HT.out.2.2.1)
  obtain ⟨p0, p1, p2, p3⟩ := two_below hb1 (n := w.heap.size) (a := a) (b := b) (by simp [go_sem]) (by simp [go_sem])
  obtain ⟨q0, q1, q2, q3⟩ := two_below hb1 (n := w.heap.size + 1) (a := c) (b := d) (by simp [go_sem]) (by simp [go_sem])
  have B1 := hide (bthen (balloc (balloc (brefl w) _) _) hb1)
  clear hb1 t1 t2 t3 t4
  go_wp2_with fail
  refine (above_yes c d a b _ hc hc2 ha ha2 M2.out M1.out hd0 hd2' hb0 hb2').mono ?_
  rintro e w2 ⟨k2, rfl, t1, t2, t3, t4, hb2⟩
  obtain rfl : k2 = k1 := Ad.peak_unique a b c d k1 k2 HT.out ⟨t1, t2, t3, t4⟩
  rw [t3]
  obtain ⟨u0, u1, u2, u3⟩ := two_below hb2 (n := w1.heap.size) (a := Ad.cut a k2) (b := (k2 : Int)) (by simp [go_sem]) (by simp [go_sem])
  obtain ⟨p0, p1, p2, p3⟩ := two_below hb2 (n := w.heap.size) (a := a) (b := b) ((World.cell?_alloc_past _ _ _ p2).trans p0) ((World.cell?_alloc_past _ _ _ p2).trans p1)
  obtain ⟨q0, q1, q2, q3⟩ := two_below hb2 (n := w.heap.size + 1) (a := c) (b := d) ((World.cell?_alloc_past _ _ _ q2).trans q0) ((World.cell?_alloc_past _ _ _ q2).trans q1)
  have B2 := hide (bthen (balloc B1.out _) hb2)
  clear hb2 B1 t1 t2 t3 t4
  generalize hU : Ad.cut a k2 = u at *
  have HU := hide hU
  clear hU
  go_wp2_with fail
  refine (refMay_is _ _ _ M1.out _ ha ha2).mono ?_
  rintro e w3 ⟨rfl, hb3⟩
  obtain ⟨v0, v1, v2, v3⟩ := two_below hb3 (n := w2.heap.size) (a := u) (b := (k2 : Int)) (by simp [go_sem]) (by simp [go_sem])
  obtain ⟨u0, u1, u2, u3⟩ := two_below hb3 (n := w1.heap.size) (a := u) (b := (k2 : Int)) ((World.cell?_alloc_past _ _ _ u2).trans u0) ((World.cell?_alloc_past _ _ _ u2).trans u1)
  obtain ⟨p0, p1, p2, p3⟩ := two_below hb3 (n := w.heap.size) (a := a) (b := b) ((World.cell?_alloc_past _ _ _ p2).trans p0) ((World.cell?_alloc_past _ _ _ p2).trans p1)
  obtain ⟨q0, q1, q2, q3⟩ := two_below hb3 (n := w.heap.size + 1) (a := c) (b := d) ((World.cell?_alloc_past _ _ _ q2).trans q0) ((World.cell?_alloc_past _ _ _ q2).trans q1)
  have B3 := hide (bthen (balloc B2.out _) hb3)
  clear hb3 B2
  go_wp2_with fail
  refine (refMay_is _ _ _ M2.out _ hc hc2).mono ?_
  rintro e w4 ⟨rfl, hb4⟩
  obtain ⟨v0, v1, v2, v3⟩ := two_below hb4 v0 v1
  obtain ⟨u0, u1, u2, u3⟩ := two_below hb4 u0 u1
  obtain ⟨p0, p1, p2, p3⟩ := two_below hb4 p0 p1
  obtain ⟨q0, q1, q2, q3⟩ := two_below hb4 q0 q1
  have B4 := hide (bthen B3.out hb4)
  clear hb4 B3
  have hneq := neqP
  go_wp2_with fail
  clear hneq
  refine (refContains_is _ _ _ _ true (by rw [← HU.out]; exact Ad.peak_contains1 a b c d k2 M1.out hb2' HT.out) _ hu0 hu1 ha ha2).mono ?_
  rintro e w5 ⟨rfl, hb5⟩
  obtain ⟨u0, u1, u2, u3⟩ := two_below hb5 u0 u1
  obtain ⟨p0, p1, p2, p3⟩ := two_below hb5 p0 p1
  obtain ⟨q0, q1, q2, q3⟩ := two_below hb5 q0 q1
  have B5 := hide (bthen B4.out hb5)
  clear hb5 B4 v0 v1 v2 v3
  go_wp2_with fail
  refine (refContains_is _ _ _ _ true (by rw [← HU.out]; exact Ad.peak_contains2 a b c d k2 M2.out hb2' HT.out) _ hu0 hu1 hc hc2).mono ?_
  rintro e w6 ⟨rfl, hb6⟩
  obtain ⟨u0, u1, u2, u3⟩ := two_below hb6 u0 u1
  obtain ⟨p0, p1, p2, p3⟩ := two_below hb6 p0 p1
  obtain ⟨q0, q1, q2, q3⟩ := two_below hb6 q0 q1
  have B6 := hide (bthen B5.out hb6)
  clear hb6 B5
  have hk31 : (k2 : Int) ≤ 31 := by omega
  have hum : Hid (Ad.may u k2 = true) := by rw [← HU.out]; exact Ad.peak_may a b c d k2 hb2' HT.out
  have hne32 : ((k2 : Int) == 32) = false := by simp; omega
  have hcu := ((Ad.may_iff _ _).1 hum.out).2.2
  have hlm : Hid (Ad.may u (k2 + 1) = true) := (Ad.may_iff _ _).2 ⟨by omega, by omega, Ad.low_may u k2 (by omega) hk31 hcu⟩
  have hhm : Hid (Ad.may (u + Ad.sz (k2 + 1)) (k2 + 1) = true) := (Ad.may_iff _ _).2 ⟨by omega, by omega, Ad.high_may u k2 (by omega) hk31 hcu⟩
  have hend := Ad.end_le u k2 (by omega) hu1 hcu
  have hh := Ad.sz_half k2 (by omega) hk31
  have hp := Ad.sz_pos ((k2 : Int) + 1)
  have hha : 0 ≤ u + Ad.sz ((k2 : Int) + 1) := by omega
  have hha2 : u + Ad.sz ((k2 : Int) + 1) ≤ 4294967295 := by omega
  clear hcu hend hh hp
  go_wp2_with fail
  refine (halves_yes u k2 _ hu0 hu1 hum.out (by omega) hk31).mono ?_
  rintro e w7 ⟨rfl, hb7⟩
  obtain ⟨u0, u1, u2, u3⟩ := two_below hb7 u0 u1
  obtain ⟨p0, p1, p2, p3⟩ := two_below hb7 p0 p1
  obtain ⟨q0, q1, q2, q3⟩ := two_below hb7 q0 q1
  have B7 := hide (bthen B6.out hb7)
  clear hb7 B6
  cases e1 : (u == a && (k2 : Int) == b)
  · have heq1 : ∀ w, (binOp .eql 24 (.agg #[.int .u32 u, .int .i64 (k2 : Int)]) (.agg #[.int .u32 a, .int .i64 b])).run Tryd.prog w = .ok (.bool false) w := by
      intro w; rw [eqP, e1]
    cases e2 : (u == c && (k2 : Int) == d)
    · have heq2 : ∀ w, (binOp .eql 24 (.agg #[.int .u32 u, .int .i64 (k2 : Int)]) (.agg #[.int .u32 c, .int .i64 d])).run Tryd.prog w = .ok (.bool false) w := by
        intro w; rw [eqP, e2]
      clear e1 e2
      generalize hr1 : Ad.contains u ((k2 : Int) + 1) a b = r1
      generalize hr3 : Ad.contains (u + Ad.sz ((k2 : Int) + 1)) ((k2 : Int) + 1) a b = r3
      have h12 : Hid (r1 = true → Ad.contains u ((k2 : Int) + 1) c d = false) := fun h => Ad.peak_half a b c d u k2 M1.out M2.out hlm.out HT.out (hr1.trans h)
      have h34 : Hid (r3 = true → Ad.contains (u + Ad.sz ((k2 : Int) + 1)) ((k2 : Int) + 1) c d = false) := fun h => Ad.peak_half a b c d _ k2 M1.out M2.out hhm.out HT.out (hr3.trans h)
      have R1 := hide hr1
      have R3 := hide hr3
      clear hr1 hr3
      go_wp2_with fail
      refine (refContains_is _ _ _ _ _ R1.out _ hu0 hu1 ha ha2).mono ?_
      rintro e w8 ⟨rfl, hb8⟩
      obtain ⟨p0, p1, p2, p3⟩ := two_below hb8 (n := w.heap.size) (a := a) (b := b) (by simp [go_sem, p0, p2, p3]) (by simp [go_sem, p1, p2, p3])
      obtain ⟨q0, q1, q2, q3⟩ := two_below hb8 (n := w.heap.size + 1) (a := c) (b := d) (by simp [go_sem, q0, q2, q3]) (by simp [go_sem, q1, q2, q3])
      obtain ⟨x0, x1, x2, x3⟩ := two_below hb8 (n := w7.heap.size) (a := u) (b := (k2 : Int) + 1) (by simp [go_sem]) (by simp [go_sem])
      obtain ⟨y0, y1, y2, y3⟩ := two_below hb8 (n := w7.heap.size + 1) (a := u + Ad.sz ((k2 : Int) + 1)) (b := (k2 : Int) + 1) (by simp [go_sem]) (by simp [go_sem])
      have B8 := hide (bthen (balloc (balloc B7.out _) _) hb8)
      clear hb8 B7 u0 u1 u2 u3 heq1 heq2
      cases r1
      · go_wp2_with fail
        refine (refContains_is _ _ _ _ _ R3.out _ hha hha2 ha ha2).mono ?_
        rintro e w9 ⟨rfl, hb9⟩
        obtain ⟨q0, q1, q2, q3⟩ := two_below hb9 q0 q1
        obtain ⟨y0, y1, y2, y3⟩ := two_below hb9 y0 y1
        have B9 := hide (bthen B8.out hb9)
        clear hb9 B8
        cases r3
        · go_wp2_with fail
          refine (lives_any _).mono ?_
          rintro e w10 ⟨rfl, hb10⟩
          have B10 := hide (bthen B9.out hb10)
          clear hb10 B9
          go_wp2_with fail
          go_ret
          exact ⟨rfl, B10.out⟩
        · have h34' := hide (h34.out rfl)
          clear h34
          go_wp2_with fail
          refine (refContains_is _ _ _ _ _ h34'.out _ hha hha2 hc hc2).mono ?_
          rintro e w10 ⟨rfl, hb10⟩
          have B10 := hide (bthen B9.out hb10)
          clear hb10 B9
          go_wp2_with fail
          refine (lives_any _).mono ?_
          rintro e w11 ⟨rfl, hb11⟩
          have B11 := hide (bthen B10.out hb11)
          clear hb11 B10
          go_wp2_with fail
          go_ret
          exact ⟨rfl, B11.out⟩
      · have h12' := hide (h12.out rfl)
        clear h12
        go_wp2_with fail
        refine (refContains_is _ _ _ _ _ h12'.out _ hu0 hu1 hc hc2).mono ?_
        rintro e w9 ⟨rfl, hb9⟩
        obtain ⟨p0, p1, p2, p3⟩ := two_below hb9 p0 p1
        obtain ⟨q0, q1, q2, q3⟩ := two_below hb9 q0 q1
        obtain ⟨y0, y1, y2, y3⟩ := two_below hb9 y0 y1
        have B9 := hide (bthen B8.out hb9)
        clear hb9 B8
        go_wp2_with fail
        refine (refContains_is _ _ _ _ _ R3.out _ hha hha2 ha ha2).mono ?_
        rintro e w10 ⟨rfl, hb10⟩
        obtain ⟨q0, q1, q2, q3⟩ := two_below hb10 q0 q1
        obtain ⟨y0, y1, y2, y3⟩ := two_below hb10 y0 y1
        have B10 := hide (bthen B9.out hb10)
        clear hb10 B9
        cases r3
        · go_wp2_with fail
          refine (lives_any _).mono ?_
          rintro e w11 ⟨rfl, hb11⟩
          have B11 := hide (bthen B10.out hb11)
          clear hb11 B10
          go_wp2_with fail
          go_ret
          exact ⟨rfl, B11.out⟩
        · have h34' := hide (h34.out rfl)
          clear h34
          go_wp2_with fail
          refine (refContains_is _ _ _ _ _ h34'.out _ hha hha2 hc hc2).mono ?_
          rintro e w11 ⟨rfl, hb11⟩
          have B11 := hide (bthen B10.out hb11)
          clear hb11 B10
          go_wp2_with fail
          refine (lives_any _).mono ?_
          rintro e w12 ⟨rfl, hb12⟩
          have B12 := hide (bthen B11.out hb12)
          clear hb12 B11
          go_wp2_with fail
          go_ret
          exact ⟨rfl, B12.out⟩
    · have heq2 : ∀ w, (binOp .eql 24 (.agg #[.int .u32 u, .int .i64 (k2 : Int)]) (.agg #[.int .u32 c, .int .i64 d])).run Tryd.prog w = .ok (.bool true) w := by
        intro w; rw [eqP, e2]
      clear e1 e2
      go_wp2_with fail
      refine (lives_any _).mono ?_
      rintro e w8 ⟨rfl, hb8⟩
      have B8 := hide (bthen (balloc (balloc B7.out _) _) hb8)
      clear hb8 B7
      go_wp2_with fail
      go_ret
      exact ⟨rfl, B8.out⟩
  · have heq1 : ∀ w, (binOp .eql 24 (.agg #[.int .u32 u, .int .i64 (k2 : Int)]) (.agg #[.int .u32 a, .int .i64 b])).run Tryd.prog w = .ok (.bool true) w := by
      intro w; rw [eqP, e1]
    clear e1
    go_wp2_with fail
    refine (lives_any _).mono ?_
    rintro e w8 ⟨rfl, hb8⟩
    have B8 := hide (bthen (balloc (balloc B7.out _) _) hb8)
    clear hb8 B7
    go_wp2_with fail
    go_ret
    exact ⟨rfl, B8.out⟩

theorem law_above (a b c d : Int) (w : World) (ha : 0 ≤ a) (ha2 : a ≤ 4294967295) (hc : 0 ≤ c) (hc2 : c ≤ 4294967295) :
    Calls Tryd.prog 7 #[.agg #[.int .u32 a, .int .i64 b], .agg #[.int .u32 c, .int .i64 d]] w fun e w' => e = .returned (.bool true) ∧ Below w.heap.size w w' := by
  cases hm : Ad.may a b
  · exact aboveL_no a b c d false w ha ha2 hc hc2 (show _ = _ by rw [hm]; rfl) (show _ = _ by rw [hm]; simp) hm (fun h => by cases h)
  · cases hm2 : Ad.may c d
    · exact aboveL_no a b c d true w ha ha2 hc hc2 (show _ = _ by rw [hm2]; simp) (show _ = _ by rw [hm2]; rfl) hm (fun _ => hm2)
    · obtain ⟨k, hk⟩ := Ad.peak_is a b c d ha (by omega) hc (by omega) (by have := (Ad.may_iff _ _).1 hm; omega) (by have := (Ad.may_iff _ _).1 hm2; omega)
      have hk32 : k ≤ 32 := by have := hk.1; have := (Ad.may_iff _ _).1 hm; omega
      by_cases h : k = 32
      · exact aboveL_all a b c d w ha ha2 hc hc2 k hm hm2 hk h
      · exact aboveL_half a b c d w ha ha2 hc hc2 k hm hm2 hk (by omega)
end Go.Proofs.YtfkajefminopjaaDoor
