/- The law AddrTexts walked: it answers true at every prefix and text. -/
import Derived.Test.YtfkajefminopjaaDoorX4
import Derived.Test.YtfkajefminopjaaDoorV1
namespace Go.Proofs.YtfkajefminopjaaDoor
open Go.RowKit

theorem text_is (a b : Int) (t : ByteArray) (w : World) (ha : 0 ≤ a) (ha2 : a ≤ 4294967295) (ht : Tab w) (h : t = ⟨(Ad.textA a b).toArray⟩) :
    Calls Tryd.prog 14 #[.agg #[.int .u32 a, .int .i64 b]] w fun e w' => e = .returned (.string t) ∧ Below w.heap.size w w' := by
  rw [h]; exact text_any a b w ha ha2 ht
theorem refText_is (a b : Int) (t : ByteArray) (w : World) (ha : 0 ≤ a) (ha2 : a ≤ 4294967295) (h : t = ⟨(Ad.textA a b).toArray⟩) :
    Calls Tryd.prog 15 #[.agg #[.int .u32 a, .int .i64 b]] w fun e w' => e = .returned (.string t) ∧ Below w.heap.size w w' := by
  rw [h]; exact refText_any a b w ha ha2

theorem textsL_long (a b : Int) (s : ByteArray) (w : World) (h : 2000 < (s.size : Int)) :
    Calls Tryd.prog 3 #[.agg #[.int .u32 a, .int .i64 b], .string s] w fun e w' => e = .returned (.bool true) ∧ Below w.heap.size w w' := by
  go_enter Tryd.func3, Tryd.ntmps3
  go_wp2_with fail
  refine (lives_any _).mono ?_
  rintro e w1 ⟨rfl, hb1⟩
  go_wp2_with fail
  go_ret
  exact ⟨rfl, bthen (balloc (brefl w) _) hb1⟩

set_option maxHeartbeats 4000000 in
set_option maxRecDepth 100000 in
theorem textsL_some (a b y z f : Int) (r : Bool) (s t : ByteArray) (w : World) (ha : 0 ≤ a) (ha2 : a ≤ 4294967295) (hs : (s.size : Int) ≤ 2000) (hs2 : s.size ≤ 4000) (hT : Hid (Tab w))
    (M : Hid (Ad.may a b = r)) (TX : Hid (t = ⟨(Ad.textA a b).toArray⟩)) (P2 : Hid (Ad.parse s.data.toList = (y, z, f))) :
    Calls Tryd.prog 3 #[.agg #[.int .u32 a, .int .i64 b], .string s] w fun e w' => e = .returned (.bool true) ∧ Below w.heap.size w w' := by
  go_enter Tryd.func3, Tryd.ntmps3
  go_wp2_with fail
  refine (parse_any s _ _ _ _ hs2 P2.out).mono ?_
  rintro e w1 ⟨rfl, hb1⟩
  rw [Ad.res]
  obtain ⟨p0, p1, p2, p3⟩ := two_below hb1 (n := w.heap.size) (a := a) (b := b) (by simp [go_sem]) (by simp [go_sem])
  have B1 := hide (bthen (balloc (brefl w) _) hb1)
  clear hb1
  go_wp2_with fail
  refine (refParse_any s _ _ _ _ hs2 P2).mono ?_
  rintro e w2 ⟨rfl, hb2⟩
  rw [Ad.res]
  obtain ⟨q0, q1, q2, q3⟩ := two_below hb2 (n := w1.heap.size) (a := y) (b := z) (by simp [go_sem]) (by simp [go_sem])
  obtain ⟨p0, p1, p2, p3⟩ := two_below hb2 (n := w.heap.size) (a := a) (b := b) ((World.cell?_alloc_past _ _ _ p2).trans p0) ((World.cell?_alloc_past _ _ _ p2).trans p1)
  have B2 := hide (bthen (balloc B1.out _) hb2)
  clear hb2 B1
  go_wp2_with fail
  have T1 := two_of ((World.cell?_alloc_past (.cells #[.int .u32 y, .int .i64 z] 24) _ _ p2).trans p0) ((World.cell?_alloc_past (.cells #[.int .u32 y, .int .i64 z] 24) _ _ p2).trans p1)
  have T2 := two_of ((World.cell?_alloc_past (.cells #[.int .u32 y, .int .i64 z] 24) _ _ q2).trans q0) ((World.cell?_alloc_past (.cells #[.int .u32 y, .int .i64 z] 24) _ _ q2).trans q1)
  have T3 : Two (w2.alloc (.cells #[.int .u32 y, .int .i64 z] 24)) w2.heap.size y z := two_of (by simp [go_sem]) (by simp [go_sem])
  have B3 := hide (balloc B2.out (.cells #[.int .u32 y, .int .i64 z] 24))
  clear p0 p1 p2 p3 q0 q1 q2 q3 B2
  generalize hv : w2.alloc (.cells #[.int .u32 y, .int .i64 z] 24) = v at T1 T2 T3 B3 ⊢
  obtain ⟨c0, c1⟩ := two_regrown T1
  obtain ⟨c2, c3⟩ := two_regrown T2
  obtain ⟨c4, c5⟩ := two_regrown T3
  clear hv T1 T2 T3
  have hgd := guardP
  have heq : ∀ w, (binOp .eql 24 (.agg #[.int .u32 y, .int .i64 z]) (.agg #[.int .u32 y, .int .i64 z])).run Tryd.prog w = .ok (.bool true) w := by
    intro w; rw [eqP]; simp
  have TB : Hid (∀ d os, Tab (Sort.grow (redrawn v d) os)) := fun d os => (hT.out.on B3.out).on (below_regrown _ d os)
  refine wp_region_quiet_below (by kernel_rfl) (by kernel_rfl) ?_
  repeat (go_big_quiet_step (first | (go_at_call 12; exact Calls.regrown_of (may_is _ _ _ M.out _ ha ha2)) | (go_at_call 13; exact Calls.regrown_of (refMay_is _ _ _ M.out _ ha ha2)) | (go_at_call 14; exact Calls.regrown_of (text_is _ _ t _ ha ha2 (TB.out _ _) TX.out)) | (go_at_call 15; exact Calls.regrown_of (refText_is _ _ t _ ha ha2 TX.out)) | (go_at_call 9; exact Calls.regrown_of (lives_any _))))
  refine wpQuiet_nil ?_
  rintro w8 ⟨⟨dd, os⟩, hw8⟩
  have hb8 : Below v.heap.size v w8 := by rw [hw8]; exact below_regrown _ dd os
  have B8 := hide (bthen B3.out hb8)
  clear hb8 hw8 B3 c0 c1 c2 c3 c4 c5 TB
  go_wp2_with fail
  go_ret
  exact ⟨rfl, B8.out⟩

theorem law_texts (a b : Int) (s : ByteArray) (w : World) (ha : 0 ≤ a) (ha2 : a ≤ 4294967295) (hT : Tab w) :
    Calls Tryd.prog 3 #[.agg #[.int .u32 a, .int .i64 b], .string s] w fun e w' => e = .returned (.bool true) ∧ Below w.heap.size w w' := by
  by_cases hs : s.size ≤ 2000
  · obtain ⟨⟨y, z, f⟩, hp⟩ : ∃ p, Ad.parse s.data.toList = p := ⟨_, rfl⟩
    exact textsL_some a b y z f _ s _ w ha ha2 (by omega) (by omega) hT rfl rfl hp
  · exact textsL_long a b s w (by omega)
end Go.Proofs.YtfkajefminopjaaDoor
