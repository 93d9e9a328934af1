/- The law AddrHas walked: it answers true at every two prefixes and every address. -/
import Derived.Test.YtfkajefminopjaaDoorF3
import Derived.Test.YtfkajefminopjaaDoorH1
namespace Go.Proofs.YtfkajefminopjaaDoor
open Go.RowKit

theorem meets_is (a b c d : Int) (r : Bool) (h : (Ad.contains a b c d || Ad.contains c d a b) = r) (w : World) (ha : 0 ≤ a) (ha2 : a ≤ 4294967295) (hc : 0 ≤ c) (hc2 : c ≤ 4294967295) :
    Calls Tryd.prog 20 #[.agg #[.int .u32 a, .int .i64 b], .agg #[.int .u32 c, .int .i64 d]] w fun e w' => e = .returned (.bool r) ∧ Below w.heap.size w w' := by
  rw [← h]; exact meets_any a b c d w ha ha2 hc hc2
theorem before_is (a b c d : Int) (r : Bool) (h : Ad.before a b c d = r) (w : World) (ha : 0 ≤ a) (ha2 : a ≤ 4294967295) (hc : 0 ≤ c) (hc2 : c ≤ 4294967295) :
    Calls Tryd.prog 21 #[.agg #[.int .u32 a, .int .i64 b], .agg #[.int .u32 c, .int .i64 d]] w fun e w' => e = .returned (.bool r) ∧ Below w.heap.size w w' := by
  rw [← h]; exact before_any a b c d w ha ha2 hc hc2
theorem refBefore_is (a b c d : Int) (r : Bool) (h : Ad.before a b c d = r) (hm : Ad.may a b = true) (hm2 : Ad.may c d = true) (w : World) :
    Calls Tryd.prog 22 #[.agg #[.int .u32 a, .int .i64 b], .agg #[.int .u32 c, .int .i64 d]] w fun e w' => e = .returned (.bool r) ∧ Below w.heap.size w w' := by
  have : (if a = c then decide (b < d) else decide (a < c)) = r := by rw [← h]; unfold Ad.before; rw [hm, hm2]; simp
  rw [← this]; exact refBefore_any a b c d w
theorem last_is (a b L : Int) (h : Ad.last a b = L) (w : World) (ha : 0 ≤ a) (ha2 : a ≤ 4294967295) :
    Calls Tryd.prog 23 #[.agg #[.int .u32 a, .int .i64 b]] w fun e w' => e = .returned (.int .u32 L) ∧ Below w.heap.size w w' := by
  rw [← h]; exact last_any a b w ha ha2
theorem refLast_is (a b L : Int) (h : Ad.last a b = L) (w : World) (ha : 0 ≤ a) (ha2 : a ≤ 4294967295) :
    Calls Tryd.prog 24 #[.agg #[.int .u32 a, .int .i64 b]] w fun e w' => e = .returned (.int .u32 L) ∧ Below w.heap.size w w' := by
  rw [← h]; exact refLast_any a b w ha ha2

/-- A box's two cells, in every world of the class. -/
theorem two_regrown {W : World} {n : Nat} {a b : Int} (h : Two W n a b) : (∀ d os, (Sort.grow (redrawn W d) os).cell? ⟨n, 0, none⟩ = some (.int .u32 a)) ∧ (∀ d os, (Sort.grow (redrawn W d) os).cell? ⟨n, 1, none⟩ = some (.int .i64 b)) :=
  ⟨fun d os => cell_regrown h.1 d os, fun d os => cell_regrown h.2.1 d os⟩

set_option maxHeartbeats 2000000 in
set_option maxRecDepth 100000 in
theorem has_C (a b c d x L : Int) (r1 r2 r3 r4 rm : Bool) (w : World) (ha : 0 ≤ a) (ha2 : a ≤ 4294967295) (hc : 0 ≤ c) (hc2 : c ≤ 4294967295) (hx : 0 ≤ x) (hx2 : x ≤ 4294967295)
    (M1 : Hid (Ad.may a b = true)) (M2 : Hid (Ad.may c d = true)) (R1 : Hid (Ad.has a b x = r1)) (R2 : Hid (Ad.contains a b c d = r2)) (R3 : Hid (Ad.contains c d a b = r3)) (R4 : Hid (Ad.before a b c d = r4))
    (RM : Hid ((Ad.contains a b c d || Ad.contains c d a b) = rm)) (hrm : rm = (r2 || r3)) (RL : Hid (Ad.last a b = L)) :
    Calls Tryd.prog 5 #[.agg #[.int .u32 a, .int .i64 b], .agg #[.int .u32 c, .int .i64 d], .int .u32 x] w fun e w' => e = .returned (.bool true) ∧ Below w.heap.size w w' := by
  go_enter Tryd.func5, Tryd.ntmps5
  go_wp2_with fail
  refine (refMay_is _ _ _ M1.out _ ha ha2).mono ?_
  rintro e w1 ⟨rfl, hb1⟩
  obtain ⟨p0, p1, p2, p3⟩ := two_below hb1 (n := w.heap.size) (a := a) (b := b) (by simp [go_sem]) (by simp [go_sem])
  obtain ⟨q0, q1, q2, q3⟩ := two_below hb1 (n := w.heap.size + 1) (a := c) (b := d) (by simp [go_sem]) (by simp [go_sem])
  have B1 := hide (bthen (balloc (balloc (brefl w) _) _) hb1)
  clear hb1
  go_wp2_with fail
  refine (refMay_is _ _ _ M2.out _ hc hc2).mono ?_
  rintro e w2 ⟨rfl, hb2⟩
  obtain ⟨p0, p1, p2, p3⟩ := two_below hb2 p0 p1
  obtain ⟨q0, q1, q2, q3⟩ := two_below hb2 q0 q1
  have B2 := hide (bthen B1.out hb2)
  clear hb2 B1
  go_wp2_with fail
  refine (refContains_is _ _ _ _ _ R2.out _ ha ha2 hc hc2).mono ?_
  rintro e w3 ⟨rfl, hb3⟩
  obtain ⟨p0, p1, p2, p3⟩ := two_below hb3 p0 p1
  obtain ⟨q0, q1, q2, q3⟩ := two_below hb3 q0 q1
  have B3 := hide (bthen B2.out hb3)
  clear hb3 B2
  cases r2
  · obtain rfl : rm = r3 := by rw [hrm]; rfl
    clear hrm
    go_wp2_with fail
    refine (refContains_is _ _ _ _ _ R3.out _ hc hc2 ha ha2).mono ?_
    rintro e w4 ⟨rfl, hb4⟩
    obtain ⟨p0, p1, p2, p3⟩ := two_below hb4 p0 p1
    obtain ⟨q0, q1, q2, q3⟩ := two_below hb4 q0 q1
    have B4 := hide (bthen B3.out hb4)
    clear hb4 B3
    have T1 := two_of p0 p1
    have T2 := two_of q0 q1
    clear p0 p1 p2 p3 q0 q1 q2 q3
    obtain ⟨c0, c1⟩ := two_regrown T1
    obtain ⟨c2, c3⟩ := two_regrown T2
    go_wp2_with fail
    refine wp_region_quiet_below (by kernel_rfl) (by kernel_rfl) ?_
    repeat (go_big_quiet_step (first | (go_at_call 17; exact Calls.regrown_of (has_is _ _ _ _ R1.out _ ha ha2 hx hx2)) | (go_at_call 18; exact Calls.regrown_of (refHas_is _ _ _ _ R1.out _ ha ha2 hx hx2 M1.out)) | (go_at_call 19; exact Calls.regrown_of (contains_is _ _ _ _ _ R2.out _ ha ha2 hc hc2)) | (go_at_call 16; exact Calls.regrown_of (refContains_is _ _ _ _ _ R2.out _ ha ha2 hc hc2)) | (go_at_call 20; exact Calls.regrown_of (meets_is _ _ _ _ _ RM.out _ ha ha2 hc hc2))))
    refine wpQuiet_nil ?_
    rintro w8 ⟨⟨dd, os⟩, hw8⟩
    have hb8 : Below w4.heap.size w4 w8 := by rw [hw8]; exact below_regrown _ dd os
    have T3 := two_below hb8 T1.1 T1.2.1
    have T4 := two_below hb8 T2.1 T2.2.1
    have B8 := hide (bthen B4.out hb8)
    clear hb8 hw8 B4 c0 c1 c2 c3 T1 T2
    obtain ⟨c0, c1⟩ := two_regrown T3
    obtain ⟨c2, c3⟩ := two_regrown T4
    go_wp2_with fail
    refine wp_region_quiet_below (by kernel_rfl) (by kernel_rfl) ?_
    repeat (go_big_quiet_step (first | (go_at_call 21; exact Calls.regrown_of (before_is _ _ _ _ _ R4.out _ ha ha2 hc hc2)) | (go_at_call 22; exact Calls.regrown_of (refBefore_is _ _ _ _ _ R4.out M1.out M2.out _)) | (go_at_call 23; exact Calls.regrown_of (last_is _ _ _ RL.out _ ha ha2)) | (go_at_call 24; exact Calls.regrown_of (refLast_is _ _ _ RL.out _ ha ha2)) | (go_at_call 9; exact Calls.regrown_of (lives_any _))))
    refine wpQuiet_nil ?_
    rintro w9 ⟨⟨dd, os⟩, hw9⟩
    have hb9 : Below w8.heap.size w8 w9 := by rw [hw9]; exact below_regrown _ dd os
    have B9 := hide (bthen B8.out hb9)
    clear hb9 hw9 c0 c1 c2 c3 T3 T4
    go_wp2_with fail
    go_ret
    exact ⟨rfl, B9.out⟩
  · obtain rfl : rm = true := by rw [hrm]; rfl
    clear hrm
    have T1 := two_of p0 p1
    have T2 := two_of q0 q1
    clear p0 p1 p2 p3 q0 q1 q2 q3
    obtain ⟨c0, c1⟩ := two_regrown T1
    obtain ⟨c2, c3⟩ := two_regrown T2
    go_wp2_with fail
    refine wp_region_quiet_below (by kernel_rfl) (by kernel_rfl) ?_
    repeat (go_big_quiet_step (first | (go_at_call 17; exact Calls.regrown_of (has_is _ _ _ _ R1.out _ ha ha2 hx hx2)) | (go_at_call 18; exact Calls.regrown_of (refHas_is _ _ _ _ R1.out _ ha ha2 hx hx2 M1.out)) | (go_at_call 19; exact Calls.regrown_of (contains_is _ _ _ _ _ R2.out _ ha ha2 hc hc2)) | (go_at_call 16; exact Calls.regrown_of (refContains_is _ _ _ _ _ R2.out _ ha ha2 hc hc2)) | (go_at_call 20; exact Calls.regrown_of (meets_is _ _ _ _ _ RM.out _ ha ha2 hc hc2))))
    refine wpQuiet_nil ?_
    rintro w8 ⟨⟨dd, os⟩, hw8⟩
    have hb8 : Below w3.heap.size w3 w8 := by rw [hw8]; exact below_regrown _ dd os
    have T3 := two_below hb8 T1.1 T1.2.1
    have T4 := two_below hb8 T2.1 T2.2.1
    have B8 := hide (bthen B3.out hb8)
    clear hb8 hw8 B3 c0 c1 c2 c3 T1 T2
    obtain ⟨c0, c1⟩ := two_regrown T3
    obtain ⟨c2, c3⟩ := two_regrown T4
    go_wp2_with fail
    refine wp_region_quiet_below (by kernel_rfl) (by kernel_rfl) ?_
    repeat (go_big_quiet_step (first | (go_at_call 21; exact Calls.regrown_of (before_is _ _ _ _ _ R4.out _ ha ha2 hc hc2)) | (go_at_call 22; exact Calls.regrown_of (refBefore_is _ _ _ _ _ R4.out M1.out M2.out _)) | (go_at_call 23; exact Calls.regrown_of (last_is _ _ _ RL.out _ ha ha2)) | (go_at_call 24; exact Calls.regrown_of (refLast_is _ _ _ RL.out _ ha ha2)) | (go_at_call 9; exact Calls.regrown_of (lives_any _))))
    refine wpQuiet_nil ?_
    rintro w9 ⟨⟨dd, os⟩, hw9⟩
    have hb9 : Below w8.heap.size w8 w9 := by rw [hw9]; exact below_regrown _ dd os
    have B9 := hide (bthen B8.out hb9)
    clear hb9 hw9 c0 c1 c2 c3 T3 T4
    go_wp2_with fail
    go_ret
    exact ⟨rfl, B9.out⟩

set_option maxHeartbeats 2000000 in
set_option maxRecDepth 100000 in
theorem has_B (a b c d x L : Int) (r1 : Bool) (w : World) (ha : 0 ≤ a) (ha2 : a ≤ 4294967295) (hc : 0 ≤ c) (hc2 : c ≤ 4294967295) (hx : 0 ≤ x) (hx2 : x ≤ 4294967295)
    (M1 : Hid (Ad.may a b = true)) (M2 : Hid (Ad.may c d = false)) (R1 : Hid (Ad.has a b x = r1)) (R2 : Hid (Ad.contains a b c d = false)) (R3 : Hid (Ad.contains c d a b = false)) (R4 : Hid (Ad.before a b c d = false))
    (RM : Hid ((Ad.contains a b c d || Ad.contains c d a b) = false)) (RL : Hid (Ad.last a b = L)) :
    Calls Tryd.prog 5 #[.agg #[.int .u32 a, .int .i64 b], .agg #[.int .u32 c, .int .i64 d], .int .u32 x] w fun e w' => e = .returned (.bool true) ∧ Below w.heap.size w w' := by
  go_enter Tryd.func5, Tryd.ntmps5
  go_wp2_with fail
  refine (refMay_is _ _ _ M1.out _ ha ha2).mono ?_
  rintro e w1 ⟨rfl, hb1⟩
  obtain ⟨p0, p1, p2, p3⟩ := two_below hb1 (n := w.heap.size) (a := a) (b := b) (by simp [go_sem]) (by simp [go_sem])
  obtain ⟨q0, q1, q2, q3⟩ := two_below hb1 (n := w.heap.size + 1) (a := c) (b := d) (by simp [go_sem]) (by simp [go_sem])
  have B1 := hide (bthen (balloc (balloc (brefl w) _) _) hb1)
  clear hb1
  go_wp2_with fail
  refine (refMay_is _ _ _ M2.out _ hc hc2).mono ?_
  rintro e w2 ⟨rfl, hb2⟩
  obtain ⟨p0, p1, p2, p3⟩ := two_below hb2 p0 p1
  obtain ⟨q0, q1, q2, q3⟩ := two_below hb2 q0 q1
  have B2 := hide (bthen B1.out hb2)
  clear hb2 B1
  go_wp2_with fail
  refine (refContains_is _ _ _ _ _ R2.out _ ha ha2 hc hc2).mono ?_
  rintro e w3 ⟨rfl, hb3⟩
  obtain ⟨p0, p1, p2, p3⟩ := two_below hb3 p0 p1
  obtain ⟨q0, q1, q2, q3⟩ := two_below hb3 q0 q1
  have B3 := hide (bthen B2.out hb3)
  clear hb3 B2
  go_wp2_with fail
  refine (refContains_is _ _ _ _ _ R3.out _ hc hc2 ha ha2).mono ?_
  rintro e w4 ⟨rfl, hb4⟩
  obtain ⟨p0, p1, p2, p3⟩ := two_below hb4 p0 p1
  obtain ⟨q0, q1, q2, q3⟩ := two_below hb4 q0 q1
  have B4 := hide (bthen B3.out hb4)
  clear hb4 B3
  have T1 := two_of p0 p1
  have T2 := two_of q0 q1
  clear p0 p1 p2 p3 q0 q1 q2 q3
  obtain ⟨c0, c1⟩ := two_regrown T1
  obtain ⟨c2, c3⟩ := two_regrown T2
  go_wp2_with fail
  refine wp_region_quiet_below (by kernel_rfl) (by kernel_rfl) ?_
  repeat (go_big_quiet_step (first | (go_at_call 17; exact Calls.regrown_of (has_is _ _ _ _ R1.out _ ha ha2 hx hx2)) | (go_at_call 18; exact Calls.regrown_of (refHas_is _ _ _ _ R1.out _ ha ha2 hx hx2 M1.out)) | (go_at_call 19; exact Calls.regrown_of (contains_is _ _ _ _ _ R2.out _ ha ha2 hc hc2)) | (go_at_call 16; exact Calls.regrown_of (refContains_is _ _ _ _ _ R2.out _ ha ha2 hc hc2)) | (go_at_call 20; exact Calls.regrown_of (meets_is _ _ _ _ _ RM.out _ ha ha2 hc hc2))))
  refine wpQuiet_nil ?_
  rintro w8 ⟨⟨dd, os⟩, hw8⟩
  have hb8 : Below w4.heap.size w4 w8 := by rw [hw8]; exact below_regrown _ dd os
  have T3 := two_below hb8 T1.1 T1.2.1
  have T4 := two_below hb8 T2.1 T2.2.1
  have B8 := hide (bthen B4.out hb8)
  clear hb8 hw8 B4 c0 c1 c2 c3 T1 T2
  obtain ⟨c0, c1⟩ := two_regrown T3
  obtain ⟨c2, c3⟩ := two_regrown T4
  go_wp2_with fail
  refine wp_region_quiet_below (by kernel_rfl) (by kernel_rfl) ?_
  repeat (go_big_quiet_step (first | (go_at_call 21; exact Calls.regrown_of (before_is _ _ _ _ _ R4.out _ ha ha2 hc hc2)) | (go_at_call 23; exact Calls.regrown_of (last_is _ _ _ RL.out _ ha ha2)) | (go_at_call 24; exact Calls.regrown_of (refLast_is _ _ _ RL.out _ ha ha2)) | (go_at_call 9; exact Calls.regrown_of (lives_any _))))
  refine wpQuiet_nil ?_
  rintro w9 ⟨⟨dd, os⟩, hw9⟩
  have hb9 : Below w8.heap.size w8 w9 := by rw [hw9]; exact below_regrown _ dd os
  have B9 := hide (bthen B8.out hb9)
  clear hb9 hw9 c0 c1 c2 c3 T3 T4
  go_wp2_with fail
  go_ret
  exact ⟨rfl, B9.out⟩

set_option maxHeartbeats 2000000 in
set_option maxRecDepth 100000 in
theorem has_A (a b c d x L : Int) (w : World) (ha : 0 ≤ a) (ha2 : a ≤ 4294967295) (hc : 0 ≤ c) (hc2 : c ≤ 4294967295) (hx : 0 ≤ x) (hx2 : x ≤ 4294967295)
    (M1 : Hid (Ad.may a b = false)) (R1 : Hid (Ad.has a b x = false)) (R2 : Hid (Ad.contains a b c d = false)) (R3 : Hid (Ad.contains c d a b = false)) (R4 : Hid (Ad.before a b c d = false))
    (RM : Hid ((Ad.contains a b c d || Ad.contains c d a b) = false)) (RL : Hid (Ad.last a b = L)) :
    Calls Tryd.prog 5 #[.agg #[.int .u32 a, .int .i64 b], .agg #[.int .u32 c, .int .i64 d], .int .u32 x] w fun e w' => e = .returned (.bool true) ∧ Below w.heap.size w w' := by
  go_enter Tryd.func5, Tryd.ntmps5
  go_wp2_with fail
  refine (refMay_is _ _ _ M1.out _ ha ha2).mono ?_
  rintro e w1 ⟨rfl, hb1⟩
  obtain ⟨p0, p1, p2, p3⟩ := two_below hb1 (n := w.heap.size) (a := a) (b := b) (by simp [go_sem]) (by simp [go_sem])
  obtain ⟨q0, q1, q2, q3⟩ := two_below hb1 (n := w.heap.size + 1) (a := c) (b := d) (by simp [go_sem]) (by simp [go_sem])
  have B1 := hide (bthen (balloc (balloc (brefl w) _) _) hb1)
  clear hb1
  go_wp2_with fail
  refine (refContains_is _ _ _ _ _ R2.out _ ha ha2 hc hc2).mono ?_
  rintro e w3 ⟨rfl, hb3⟩
  obtain ⟨p0, p1, p2, p3⟩ := two_below hb3 p0 p1
  obtain ⟨q0, q1, q2, q3⟩ := two_below hb3 q0 q1
  have B3 := hide (bthen B1.out hb3)
  clear hb3 B1
  go_wp2_with fail
  refine (refContains_is _ _ _ _ _ R3.out _ hc hc2 ha ha2).mono ?_
  rintro e w4 ⟨rfl, hb4⟩
  obtain ⟨p0, p1, p2, p3⟩ := two_below hb4 p0 p1
  obtain ⟨q0, q1, q2, q3⟩ := two_below hb4 q0 q1
  have B4 := hide (bthen B3.out hb4)
  clear hb4 B3
  have T1 := two_of p0 p1
  have T2 := two_of q0 q1
  clear p0 p1 p2 p3 q0 q1 q2 q3
  obtain ⟨c0, c1⟩ := two_regrown T1
  obtain ⟨c2, c3⟩ := two_regrown T2
  go_wp2_with fail
  refine wp_region_quiet_below (by kernel_rfl) (by kernel_rfl) ?_
  repeat (go_big_quiet_step (first | (go_at_call 17; exact Calls.regrown_of (has_is _ _ _ _ R1.out _ ha ha2 hx hx2)) | (go_at_call 19; exact Calls.regrown_of (contains_is _ _ _ _ _ R2.out _ ha ha2 hc hc2)) | (go_at_call 16; exact Calls.regrown_of (refContains_is _ _ _ _ _ R2.out _ ha ha2 hc hc2)) | (go_at_call 20; exact Calls.regrown_of (meets_is _ _ _ _ _ RM.out _ ha ha2 hc hc2))))
  refine wpQuiet_nil ?_
  rintro w8 ⟨⟨dd, os⟩, hw8⟩
  have hb8 : Below w4.heap.size w4 w8 := by rw [hw8]; exact below_regrown _ dd os
  have T3 := two_below hb8 T1.1 T1.2.1
  have T4 := two_below hb8 T2.1 T2.2.1
  have B8 := hide (bthen B4.out hb8)
  clear hb8 hw8 B4 c0 c1 c2 c3 T1 T2
  obtain ⟨c0, c1⟩ := two_regrown T3
  obtain ⟨c2, c3⟩ := two_regrown T4
  go_wp2_with fail
  refine wp_region_quiet_below (by kernel_rfl) (by kernel_rfl) ?_
  repeat (go_big_quiet_step (first | (go_at_call 21; exact Calls.regrown_of (before_is _ _ _ _ _ R4.out _ ha ha2 hc hc2)) | (go_at_call 23; exact Calls.regrown_of (last_is _ _ _ RL.out _ ha ha2)) | (go_at_call 24; exact Calls.regrown_of (refLast_is _ _ _ RL.out _ ha ha2)) | (go_at_call 9; exact Calls.regrown_of (lives_any _))))
  refine wpQuiet_nil ?_
  rintro w9 ⟨⟨dd, os⟩, hw9⟩
  have hb9 : Below w8.heap.size w8 w9 := by rw [hw9]; exact below_regrown _ dd os
  have B9 := hide (bthen B8.out hb9)
  clear hb9 hw9 c0 c1 c2 c3 T3 T4
  go_wp2_with fail
  go_ret
  exact ⟨rfl, B9.out⟩

theorem law_has (a b c d x : Int) (w : World) (ha : 0 ≤ a) (ha2 : a ≤ 4294967295) (hc : 0 ≤ c) (hc2 : c ≤ 4294967295) (hx : 0 ≤ x) (hx2 : x ≤ 4294967295) :
    Calls Tryd.prog 5 #[.agg #[.int .u32 a, .int .i64 b], .agg #[.int .u32 c, .int .i64 d], .int .u32 x] w fun e w' => e = .returned (.bool true) ∧ Below w.heap.size w w' := by
  cases hm : Ad.may a b
  · have e2 := Ad.contains_may a b c d hm
    have e3 := Ad.contains_may2 c d a b hm
    exact has_A a b c d x _ w ha ha2 hc hc2 hx hx2 hm (Ad.has_may a b x hm) e2 e3 (show _ = _ by unfold Ad.before; rw [hm]; simp) (show _ = _ by rw [e2, e3]; rfl) (show _ = _ from rfl)
  · cases hm2 : Ad.may c d
    · have e2 := Ad.contains_may2 a b c d hm2
      have e3 := Ad.contains_may c d a b hm2
      exact has_B a b c d x _ _ w ha ha2 hc hc2 hx hx2 hm hm2 (show _ = _ from rfl) e2 e3 (show _ = _ by unfold Ad.before; rw [hm2]; simp) (show _ = _ by rw [e2, e3]; rfl) (show _ = _ from rfl)
    · exact has_C a b c d x _ _ _ _ _ _ w ha ha2 hc hc2 hx hx2 hm hm2 (show _ = _ from rfl) (show _ = _ from rfl) (show _ = _ from rfl) (show _ = _ from rfl) (show _ = _ from rfl) rfl (show _ = _ from rfl)
end Go.Proofs.YtfkajefminopjaaDoor
