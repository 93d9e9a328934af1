/- The law AddrHalves walked: it answers true at every prefix and address. -/
import Derived.Test.YtfkajefminopjaaDoorL1
import Derived.Test.YtfkajefminopjaaDoorM4
namespace Go.Proofs.YtfkajefminopjaaDoor
open Go.RowKit

/-- A prefix's two cells read there, in this world; and its block is an old one. -/
def Two (w : World) (n : Nat) (a b : Int) : Prop := w.cell? ⟨n, 0, none⟩ = some (.int .u32 a) ∧ w.cell? ⟨n, 1, none⟩ = some (.int .i64 b) ∧ n < w.heap.size ∧ n < w.heap.size + 1
theorem two_of {W : World} {n : Nat} {a b : Int} (h0 : W.cell? ⟨n, 0, none⟩ = some (.int .u32 a)) (h1 : W.cell? ⟨n, 1, none⟩ = some (.int .i64 b)) : Two W n a b :=
  ⟨h0, h1, block_lt_of_cell h0, Nat.lt_succ_of_lt (block_lt_of_cell h0)⟩
theorem two_below {W w1 : World} {n : Nat} {a b : Int} (hb : Below W.heap.size W w1) (h0 : W.cell? ⟨n, 0, none⟩ = some (.int .u32 a)) (h1 : W.cell? ⟨n, 1, none⟩ = some (.int .i64 b)) : Two w1 n a b :=
  two_of ((hb.cell (p := ⟨n, 0, none⟩) (block_lt_of_cell h0)).trans h0) ((hb.cell (p := ⟨n, 1, none⟩) (block_lt_of_cell h1)).trans h1)

set_option maxHeartbeats 1000000 in
set_option maxRecDepth 100000 in
theorem law_no (a b x : Int) (w : World) (ha : 0 ≤ a) (ha2 : a ≤ 4294967295) (hm : Ad.may a b = false) :
    Calls Tryd.prog 6 #[.agg #[.int .u32 a, .int .i64 b], .int .u32 x] w fun e w' => e = .returned (.bool true) ∧ Below w.heap.size w w' := by
  have hgd := guardP
  have heq := eqP
  go_enter Tryd.func6, Tryd.ntmps6
  go_wp2_with fail
  refine (halves_no a b _ ha ha2 hm).mono ?_
  rintro e w1 ⟨rfl, hb1⟩
  obtain ⟨p0, p1, p2, p3⟩ := two_below hb1 (n := w.heap.size) (a := a) (b := b) (by simp) (by simp)
  have B1 := hide (bthen (balloc (brefl w) _) hb1)
  clear hb1
  go_wp2_with fail
  refine (may_is _ _ _ hm _ ha ha2).mono ?_
  rintro e w2 ⟨rfl, hb2⟩
  obtain ⟨q0, q1, q2, q3⟩ := two_below hb2 (n := w.heap.size) (a := a) (b := b) (by simp [go_sem, p0, p2, p3]) (by simp [go_sem, p1, p2, p3])
  obtain ⟨x0, x1, x2, x3⟩ := two_below hb2 (n := w1.heap.size) (a := 0) (b := 0) (by simp [go_sem]) (by simp [go_sem])
  obtain ⟨y0, y1, y2, y3⟩ := two_below hb2 (n := w1.heap.size + 1) (a := 0) (b := 0) (by simp [go_sem]) (by simp [go_sem])
  have B2 := hide (bthen (balloc (balloc B1.out _) _) hb2)
  clear hb2 p0 p1 p2 p3 B1
  go_wp2_with fail
  refine (may_is _ _ _ hm _ ha ha2).mono ?_
  rintro e w3 ⟨rfl, hb3⟩
  obtain ⟨q0, q1, q2, q3⟩ := two_below hb3 q0 q1
  obtain ⟨x0, x1, x2, x3⟩ := two_below hb3 x0 x1
  obtain ⟨y0, y1, y2, y3⟩ := two_below hb3 y0 y1
  have B3 := hide (bthen B2.out hb3)
  clear hb3 B2
  go_wp2_with fail
  refine (may_is _ _ _ hm _ ha ha2).mono ?_
  rintro e w4 ⟨rfl, hb4⟩
  obtain ⟨x0, x1, x2, x3⟩ := two_below hb4 x0 x1
  obtain ⟨y0, y1, y2, y3⟩ := two_below hb4 y0 y1
  have B4 := hide (bthen B3.out hb4)
  clear hb4 B3 q0 q1 q2 q3
  go_wp2_with fail
  refine (lives_any _).mono ?_
  rintro e w5 ⟨rfl, hb5⟩
  have B5 := hide (bthen B4.out hb5)
  clear hb5 B4
  go_wp2_with fail
  go_ret
  exact ⟨rfl, B5.out⟩

set_option maxHeartbeats 1000000 in
set_option maxRecDepth 100000 in
theorem law_all (a x : Int) (w : World) (ha : 0 ≤ a) (ha2 : a ≤ 4294967295) (hm : Ad.may a 32 = true) :
    Calls Tryd.prog 6 #[.agg #[.int .u32 a, .int .i64 32], .int .u32 x] w fun e w' => e = .returned (.bool true) ∧ Below w.heap.size w w' := by
  have hgd := guardP
  have heq := eqP
  go_enter Tryd.func6, Tryd.ntmps6
  go_wp2_with fail
  refine (halves_all a _ ha ha2 hm).mono ?_
  rintro e w1 ⟨rfl, hb1⟩
  obtain ⟨p0, p1, p2, p3⟩ := two_below hb1 (n := w.heap.size) (a := a) (b := 32) (by simp) (by simp)
  have B1 := hide (bthen (balloc (brefl w) _) hb1)
  clear hb1
  go_wp2_with fail
  refine (may_is _ _ _ hm _ ha ha2).mono ?_
  rintro e w2 ⟨rfl, hb2⟩
  obtain ⟨q0, q1, q2, q3⟩ := two_below hb2 (n := w.heap.size) (a := a) (b := 32) (by simp [go_sem, p0, p2, p3]) (by simp [go_sem, p1, p2, p3])
  obtain ⟨x0, x1, x2, x3⟩ := two_below hb2 (n := w1.heap.size) (a := 0) (b := 0) (by simp [go_sem]) (by simp [go_sem])
  obtain ⟨y0, y1, y2, y3⟩ := two_below hb2 (n := w1.heap.size + 1) (a := 0) (b := 0) (by simp [go_sem]) (by simp [go_sem])
  have B2 := hide (bthen (balloc (balloc B1.out _) _) hb2)
  clear hb2 p0 p1 p2 p3 B1
  go_wp2_with fail
  refine (may_is _ _ _ hm _ ha ha2).mono ?_
  rintro e w3 ⟨rfl, hb3⟩
  obtain ⟨q0, q1, q2, q3⟩ := two_below hb3 q0 q1
  obtain ⟨x0, x1, x2, x3⟩ := two_below hb3 x0 x1
  obtain ⟨y0, y1, y2, y3⟩ := two_below hb3 y0 y1
  have B3 := hide (bthen B2.out hb3)
  clear hb3 B2
  go_wp2_with fail
  refine (may_is _ _ _ hm _ ha ha2).mono ?_
  rintro e w4 ⟨rfl, hb4⟩
  obtain ⟨q0, q1, q2, q3⟩ := two_below hb4 q0 q1
  obtain ⟨x0, x1, x2, x3⟩ := two_below hb4 x0 x1
  obtain ⟨y0, y1, y2, y3⟩ := two_below hb4 y0 y1
  have B4 := hide (bthen B3.out hb4)
  clear hb4 B3
  go_wp2_with fail
  refine (lives_any _).mono ?_
  rintro e w5 ⟨rfl, hb5⟩
  have B5 := hide (bthen B4.out hb5)
  clear hb5 B4
  go_wp2_with fail
  go_ret
  exact ⟨rfl, B5.out⟩

set_option maxHeartbeats 2000000 in
set_option maxRecDepth 100000 in
theorem law_yes (a b x : Int) (w : World) (ha : 0 ≤ a) (ha2 : a ≤ 4294967295) (hx : 0 ≤ x) (hx2 : x ≤ 4294967295) (hm : Ad.may a b = true) (h0 : 0 ≤ b) (h31 : b ≤ 31) :
    Calls Tryd.prog 6 #[.agg #[.int .u32 a, .int .i64 b], .int .u32 x] w fun e w' => e = .returned (.bool true) ∧ Below w.heap.size w w' := by
  have hca := ((Ad.may_iff a b).1 hm).2.2
  have hlm : Ad.may a (b + 1) = true := (Ad.may_iff _ _).2 ⟨by omega, by omega, Ad.low_may a b h0 h31 hca⟩
  have hhm : Ad.may (a + Ad.sz (b + 1)) (b + 1) = true := (Ad.may_iff _ _).2 ⟨by omega, by omega, Ad.high_may a b h0 h31 hca⟩
  have hend := Ad.end_le a b h0 ha2 hca
  have hh := Ad.sz_half b h0 h31
  have hp := Ad.sz_pos (b + 1)
  have hha : 0 ≤ a + Ad.sz (b + 1) := by omega
  have hha2 : a + Ad.sz (b + 1) ≤ 4294967295 := by omega
  have HC := hide hca
  have hone : Hid (((Ad.has a (b + 1) x != Ad.has (a + Ad.sz (b + 1)) (b + 1) x) == Ad.has a b x) = true) := by
    have := Ad.halves_has a b x h0 h31 hca
    simp only [Hid, Ad.has, hm, hlm, hhm, Bool.true_and]
    exact this
  have hbef : Ad.before a (b + 1) (a + Ad.sz (b + 1)) (b + 1) = true := by
    unfold Ad.before
    rw [hlm, hhm, if_neg (by omega)]
    simp
    omega
  have HB := hide hbef
  generalize hr1 : Ad.has a (b + 1) x = r1 at hone
  generalize hr2 : Ad.has (a + Ad.sz (b + 1)) (b + 1) x = r2 at hone
  generalize hr3 : Ad.has a b x = r3 at hone
  have HR1 := hide hr1
  have HR2 := hide hr2
  have HR3 := hide hr3
  have hne32 : (b == 32) = false := by simp; omega
  clear hca hend hh hbef hr1 hr2 hr3
  have HM := hide hm
  have HLM := hide hlm
  have HHM := hide hhm
  clear hm hlm hhm
  have hgd := guardP
  go_enter Tryd.func6, Tryd.ntmps6
  go_wp2_with fail
  refine (halves_yes a b _ ha ha2 HM.out h0 h31).mono ?_
  rintro e w1 ⟨rfl, hb1⟩
  obtain ⟨p0, p1, p2, p3⟩ := two_below hb1 (n := w.heap.size) (a := a) (b := b) (by simp) (by simp)
  have B1 := hide (bthen (balloc (brefl w) _) hb1)
  clear hb1
  go_wp2_with fail
  refine (may_is _ _ _ HM.out _ ha ha2).mono ?_
  rintro e w2 ⟨rfl, hb2⟩
  obtain ⟨q0, q1, q2, q3⟩ := two_below hb2 (n := w.heap.size) (a := a) (b := b) (by simp [go_sem, p0, p2, p3]) (by simp [go_sem, p1, p2, p3])
  obtain ⟨x0, x1, x2, x3⟩ := two_below hb2 (n := w1.heap.size) (a := a) (b := b + 1) (by simp [go_sem]) (by simp [go_sem])
  obtain ⟨y0, y1, y2, y3⟩ := two_below hb2 (n := w1.heap.size + 1) (a := a + Ad.sz (b + 1)) (b := b + 1) (by simp [go_sem]) (by simp [go_sem])
  have B2 := hide (bthen (balloc (balloc B1.out _) _) hb2)
  clear hb2 p0 p1 p2 p3 B1
  go_wp2_with fail
  refine (above_yes a (b + 1) (a + Ad.sz (b + 1)) (b + 1) _ ha ha2 hha hha2 HLM.out HHM.out (by omega) (by omega) (by omega) (by omega)).mono ?_
  rintro e w3 ⟨k, rfl, hk1, hk2, hk3, hk4, hb3⟩
  have hk : (k : Int) = b := by
    have := Ad.pair_above a (b + 1) (a + Ad.sz (b + 1)) (b + 1) k (by omega) (by omega) ((Ad.may_iff _ _).1 HLM.out).2.2 ((Ad.may_iff _ _).1 HHM.out).2.2 hk1 hk3 hk4 (Ad.halves_pair a b h0 HC.out)
    omega
  rw [hk, HC.out]
  obtain ⟨q0, q1, q2, q3⟩ := two_below hb3 q0 q1
  obtain ⟨x0, x1, x2, x3⟩ := two_below hb3 x0 x1
  obtain ⟨y0, y1, y2, y3⟩ := two_below hb3 y0 y1
  have B3 := hide (bthen B2.out hb3)
  clear hb3 B2 hk hk1 hk2 hk3 hk4
  go_wp2_with fail
  have c0 := fun dd os => cell_regrown (w := w3.alloc (.cells #[.int .u32 a, .int .i64 b] 24)) (a := ⟨w1.heap.size, 0, none⟩) (v := .int .u32 a) ((World.cell?_alloc_past _ _ _ x2).trans x0) dd os
  have c1 := fun dd os => cell_regrown (w := w3.alloc (.cells #[.int .u32 a, .int .i64 b] 24)) (a := ⟨w1.heap.size, 1, none⟩) (v := .int .i64 (b + 1)) ((World.cell?_alloc_past _ _ _ x2).trans x1) dd os
  have c2 := fun dd os => cell_regrown (w := w3.alloc (.cells #[.int .u32 a, .int .i64 b] 24)) (a := ⟨w1.heap.size + 1, 0, none⟩) (v := .int .u32 (a + Ad.sz (b + 1))) ((World.cell?_alloc_past _ _ _ y2).trans y0) dd os
  have c3 := fun dd os => cell_regrown (w := w3.alloc (.cells #[.int .u32 a, .int .i64 b] 24)) (a := ⟨w1.heap.size + 1, 1, none⟩) (v := .int .i64 (b + 1)) ((World.cell?_alloc_past _ _ _ y2).trans y1) dd os
  refine wp_region_quiet_below (by kernel_rfl) (by kernel_rfl) ?_
  repeat (go_big_quiet_step (first | (go_at_call_of 17 (Value.int IntKind.u32 a); exact Calls.regrown_of (has_is _ _ _ _ HR1.out _ ha ha2 hx hx2)) | (go_at_call_of 17 (Value.int IntKind.u32 (a + Ad.sz (b + 1))); exact Calls.regrown_of (has_is _ _ _ _ HR2.out _ hha hha2 hx hx2))))
  refine wpQuiet_nil ?_
  rintro w4 ⟨⟨dd, os⟩, hw4⟩
  have hb4 : Below (w3.alloc (.cells #[.int .u32 a, .int .i64 b] 24)).heap.size (w3.alloc (.cells #[.int .u32 a, .int .i64 b] 24)) w4 := by rw [hw4]; exact below_regrown _ dd os
  obtain ⟨q0, q1, q2, q3⟩ := two_below hb4 ((World.cell?_alloc_past _ _ _ q2).trans q0) ((World.cell?_alloc_past _ _ _ q2).trans q1)
  obtain ⟨x0, x1, x2, x3⟩ := two_below hb4 ((World.cell?_alloc_past _ _ _ x2).trans x0) ((World.cell?_alloc_past _ _ _ x2).trans x1)
  obtain ⟨y0, y1, y2, y3⟩ := two_below hb4 ((World.cell?_alloc_past _ _ _ y2).trans y0) ((World.cell?_alloc_past _ _ _ y2).trans y1)
  obtain ⟨u0, u1, u2, u3⟩ := two_below hb4 (n := w3.heap.size) (a := a) (b := b) (by simp) (by simp)
  have B4 := hide (bthen (balloc B3.out _) hb4)
  clear hb4 B3 hw4 c0 c1 c2 c3
  have heq := eqP
  go_wp2_with fail
  refine (may_is _ _ _ HLM.out _ ha ha2).mono ?_
  rintro e w5 ⟨rfl, hb5⟩
  obtain ⟨q0, q1, q2, q3⟩ := two_below hb5 q0 q1
  obtain ⟨x0, x1, x2, x3⟩ := two_below hb5 x0 x1
  obtain ⟨y0, y1, y2, y3⟩ := two_below hb5 y0 y1
  have B5 := hide (bthen B4.out hb5)
  clear hb5 B4 u0 u1 u2 u3 heq
  go_wp2_with fail
  refine (may_is _ _ _ HHM.out _ hha hha2).mono ?_
  rintro e w6 ⟨rfl, hb6⟩
  obtain ⟨q0, q1, q2, q3⟩ := two_below hb6 q0 q1
  obtain ⟨x0, x1, x2, x3⟩ := two_below hb6 x0 x1
  obtain ⟨y0, y1, y2, y3⟩ := two_below hb6 y0 y1
  have B6 := hide (bthen B5.out hb6)
  clear hb6 B5
  go_wp2_with fail
  refine (has_is _ _ _ _ HR3.out _ ha ha2 hx hx2).mono ?_
  rintro e w7 ⟨rfl, hb7⟩
  obtain ⟨x0, x1, x2, x3⟩ := two_below hb7 x0 x1
  obtain ⟨y0, y1, y2, y3⟩ := two_below hb7 y0 y1
  have B7 := hide (bthen B6.out hb7)
  clear hb7 B6 q0 q1 q2 q3
  have hone' : ((!(r1 == r2)) == r3) = true := by have := hone.out; revert this; cases r1 <;> cases r2 <;> cases r3 <;> decide
  go_wp2_with fail
  refine (before_any _ _ _ _ _ ha ha2 hha hha2).mono ?_
  rintro e w8 ⟨rfl, hb8⟩
  rw [HB.out]
  have B8 := hide (bthen B7.out hb8)
  clear hb8 B7 x0 x1 x2 x3 y0 y1 y2 y3
  go_wp2_with fail
  refine (lives_any _).mono ?_
  rintro e w9 ⟨rfl, hb9⟩
  have B9 := hide (bthen B8.out hb9)
  clear hb9 B8
  go_wp2_with fail
  go_ret
  exact ⟨rfl, B9.out⟩

theorem law_any (a b x : Int) (w : World) (ha : 0 ≤ a) (ha2 : a ≤ 4294967295) (hx : 0 ≤ x) (hx2 : x ≤ 4294967295) :
    Calls Tryd.prog 6 #[.agg #[.int .u32 a, .int .i64 b], .int .u32 x] w fun e w' => e = .returned (.bool true) ∧ Below w.heap.size w w' := by
  cases hm : Ad.may a b
  · exact law_no a b x w ha ha2 hm
  · obtain ⟨h0, h32, _⟩ := (Ad.may_iff a b).1 hm
    by_cases h : b = 32
    · subst h; exact law_all a x w ha ha2 hm
    · exact law_yes a b x w ha ha2 hx hx2 hm h0 (by omega)
end Go.Proofs.YtfkajefminopjaaDoor
