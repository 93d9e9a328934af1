/- The law PlistTexts walked. -/
import Derived.Test.YtkpoanjcalolkaaDoorPl9
import Derived.Test.YtkpoanjcalolkaaDoorE2
namespace Go.Proofs.YtkpoanjcalolkaaDoor
open Go.RowKit

theorem ptext_is (a b g l : Int) (p : Bool) (t : ByteArray) (w : World) (ha : 0 ≤ a) (ha2 : a ≤ 4294967295) (ht : Tab w) (h : t = ⟨(Ad.rtext (a, b, g, l, p)).toArray⟩) :
    Calls Tryd.prog 16 #[.agg #[.int .u32 a, .int .i64 b, .int .i64 g, .int .i64 l, .bool p]] w fun e w' => e = .returned (.string t) ∧ Below w.heap.size w w' := by
  rw [h]; exact ptext_any a b g l p w ha ha2 ht
theorem refRText_is (a b g l : Int) (p : Bool) (t : ByteArray) (w : World) (ha : 0 ≤ a) (ha2 : a ≤ 4294967295) (h : t = ⟨(Ad.rtext (a, b, g, l, p)).toArray⟩) :
    Calls Tryd.prog 17 #[.agg #[.int .u32 a, .int .i64 b, .int .i64 g, .int .i64 l, .bool p]] w fun e w' => e = .returned (.string t) ∧ Below w.heap.size w w' := by
  rw [h]; exact refRText_any a b g l p w ha ha2

theorem five_box2 (w : World) (o : Obj) (n : Nat) (a b g l : Int) (p : Bool) (h : Five w n a b g l p) : Five (w.alloc o) n a b g l p := five_below h ((Below.refl _ w).alloc (Nat.le_refl _) o)

set_option maxHeartbeats 2000000 in
set_option maxRecDepth 100000 in
theorem law_texts (a b g l c d k m : Int) (p q ra rb : Bool) (x y : ByteArray) (w : World) (ha : 0 ≤ a) (ha2 : a ≤ 4294967295) (hc : 0 ≤ c) (hc2 : c ≤ 4294967295) (HT : Hid (Tab w))
    (HX : Hid (x = ⟨(Ad.rtext (a, b, g, l, p)).toArray⟩)) (HY : Hid (y = ⟨(Ad.rtext (c, d, k, m, q)).toArray⟩)) (HA : Hid (Ad.rmay (a, b, g, l, p) = ra)) (HB : Hid (Ad.rmay (c, d, k, m, q) = rb))
    (z : Bool) (HQ : Hid (∀ W, (binOp .eql 32 (.agg #[.int .u32 a, .int .i64 b, .int .i64 g, .int .i64 l, .bool p]) (.agg #[.int .u32 c, .int .i64 d, .int .i64 k, .int .i64 m, .bool q])).run Tryd.prog W = .ok (.bool z) W)) (HZ : Hid (ra = true → rb = true → (x.toList == y.toList) = z)) :
    Calls Tryd.prog 4 #[.agg #[.int .u32 a, .int .i64 b, .int .i64 g, .int .i64 l, .bool p], .agg #[.int .u32 c, .int .i64 d, .int .i64 k, .int .i64 m, .bool q]] w fun e w' => e = .returned (.bool true) ∧ Below w.heap.size w w' := by
  have F0 := hide (five_box2 _ (.cells #[.int .u32 c, .int .i64 d, .int .i64 k, .int .i64 m, .bool q] 32) _ _ _ _ _ _ (five_box w a b g l p))
  have G0 := hide (five_box (w.alloc (.cells #[.int .u32 a, .int .i64 b, .int .i64 g, .int .i64 l, .bool p] 32)) c d k m q)
  have HB0 := hide (balloc (balloc (brefl w) (.cells #[.int .u32 a, .int .i64 b, .int .i64 g, .int .i64 l, .bool p] 32)) (.cells #[.int .u32 c, .int .i64 d, .int .i64 k, .int .i64 m, .bool q] 32))
  go_enter Tryd.func4, Tryd.ntmps4
  go_wp2_with fail
  generalize hW0 : (w.alloc (.cells #[.int .u32 a, .int .i64 b, .int .i64 g, .int .i64 l, .bool p] 32)).alloc (.cells #[.int .u32 c, .int .i64 d, .int .i64 k, .int .i64 m, .bool q] 32) = W0 at F0 G0 HB0 ⊢
  have G1 : Hid (Five W0 (w.heap.size + 1) c d k m q) := by show Five _ _ _ _ _ _ _; have := G0.out; simpa using this
  clear G0 hW0
  have fr := fun {n i : Nat} {v : Value} (h : W0.cell? ⟨n, i, none⟩ = some v) dd os => cell_regrown h dd os
  have f0 := fun dd os => fr F0.out.1 dd os
  have f1 := fun dd os => fr F0.out.2.1 dd os
  have f2 := fun dd os => fr F0.out.2.2.1 dd os
  have f3 := fun dd os => fr F0.out.2.2.2.1 dd os
  have f4 := fun dd os => fr F0.out.2.2.2.2.1 dd os
  have g0 := fun dd os => fr G1.out.1 dd os
  have g1 := fun dd os => fr G1.out.2.1 dd os
  have g2 := fun dd os => fr G1.out.2.2.1 dd os
  have g3 := fun dd os => fr G1.out.2.2.2.1 dd os
  have g4 := fun dd os => fr G1.out.2.2.2.2.1 dd os
  clear fr
  have TR := hide fun dd os => (HT.out.on HB0.out).on (below_regrown W0 dd os)
  refine wp_region_quiet_below (by kernel_rfl) (by kernel_rfl) ?_
  iterate 2 (go_big_quiet_step ((go_at_call 16; exact Calls.regrown_of (ptext_is _ _ _ _ _ x _ ha ha2 (TR.out _ _) HX.out))))
  iterate 2 (go_big_quiet_step ((go_at_call 16; exact Calls.regrown_of (ptext_is _ _ _ _ _ y _ hc hc2 (TR.out _ _) HY.out))))
  iterate 2 (go_big_quiet_step (fail))
  refine wpQuiet_nil ?_
  rintro _ ⟨⟨dd, os⟩, rfl⟩
  have hb1 := below_regrown W0 dd os
  generalize Sort.grow (redrawn W0 dd) os = w1 at hb1
  have F1 := hide (five_below F0.out hb1)
  have G2 := hide (five_below G1.out hb1)
  have B1 := hide (bthen HB0.out hb1)
  clear f0 f1 f2 f3 f4 g0 g1 g2 g3 g4 TR F0 G1 HB0 hb1
  obtain ⟨f0, f1, f2, f3, f4, f5, f6⟩ := F1.out
  obtain ⟨g0, g1, g2, g3, g4, g5, g6⟩ := G2.out
  go_wp2_with fail
  refine (refRText_is _ _ _ _ _ x _ ha ha2 HX.out).mono ?_
  rintro e w2 ⟨rfl, hb2⟩
  have F2 := hide (five_below F1.out hb2)
  have G3 := hide (five_below G2.out hb2)
  have B2 := hide (bthen B1.out hb2)
  clear hb2 F1 G2 B1 f0 f1 f2 f3 f4 f5 f6 g0 g1 g2 g3 g4 g5 g6
  obtain ⟨f0, f1, f2, f3, f4, f5, f6⟩ := F2.out
  obtain ⟨g0, g1, g2, g3, g4, g5, g6⟩ := G3.out
  go_wp2_with fail
  refine (refRText_is _ _ _ _ _ y _ hc hc2 HY.out).mono ?_
  rintro e w3 ⟨rfl, hb3⟩
  have F3 := hide (five_below F2.out hb3)
  have G4 := hide (five_below G3.out hb3)
  have B3 := hide (bthen B2.out hb3)
  clear hb3 F2 G3 B2 f0 f1 f2 f3 f4 f5 f6 g0 g1 g2 g3 g4 g5 g6
  obtain ⟨f0, f1, f2, f3, f4, f5, f6⟩ := F3.out
  obtain ⟨g0, g1, g2, g3, g4, g5, g6⟩ := G4.out
  go_wp2_with fail
  cases ra
  · refine (refRMay_is _ _ _ _ _ _ HA.out _ ha ha2).mono ?_
    rintro e w4 ⟨rfl, hb4⟩
    have B4 := hide (bthen B3.out hb4)
    clear hb4 B3
    go_wp2_with fail
    refine (lives_any _).mono ?_
    rintro e w5 ⟨rfl, hb5⟩
    go_wp2_with fail
    go_ret
    exact ⟨rfl, bthen B4.out hb5⟩
  · refine (refRMay_is _ _ _ _ _ _ HA.out _ ha ha2).mono ?_
    rintro e w4 ⟨rfl, hb4⟩
    have F4 := hide (five_below F3.out hb4)
    have G5 := hide (five_below G4.out hb4)
    have B4 := hide (bthen B3.out hb4)
    clear hb4 F3 G4 B3 f0 f1 f2 f3 f4 f5 f6 g0 g1 g2 g3 g4 g5 g6
    obtain ⟨f0, f1, f2, f3, f4, f5, f6⟩ := F4.out
    obtain ⟨g0, g1, g2, g3, g4, g5, g6⟩ := G5.out
    go_wp2_with fail
    cases rb
    · refine (refRMay_is _ _ _ _ _ _ HB.out _ hc hc2).mono ?_
      rintro e w5 ⟨rfl, hb5⟩
      have B5 := hide (bthen B4.out hb5)
      clear hb5 B4
      go_wp2_with fail
      refine (lives_any _).mono ?_
      rintro e w6 ⟨rfl, hb6⟩
      go_wp2_with fail
      go_ret
      exact ⟨rfl, bthen B5.out hb6⟩
    · refine (refRMay_is _ _ _ _ _ _ HB.out _ hc hc2).mono ?_
      rintro e w5 ⟨rfl, hb5⟩
      have F5 := hide (five_below F4.out hb5)
      have G6 := hide (five_below G5.out hb5)
      have B5 := hide (bthen B4.out hb5)
      clear hb5 F4 G5 B4 f0 f1 f2 f3 f4 f5 f6 g0 g1 g2 g3 g4 g5 g6
      obtain ⟨f0, f1, f2, f3, f4, f5, f6⟩ := F5.out
      obtain ⟨g0, g1, g2, g3, g4, g5, g6⟩ := G6.out
      have hq := HQ.out
      have hz := HZ.out (by first | rfl | trivial) (by first | rfl | trivial)
      have hgd := guardR
      go_wp2_with fail
      refine (lives_any _).mono ?_
      rintro e w6 ⟨rfl, hb6⟩
      go_wp2_with fail
      go_ret
      exact ⟨rfl, bthen B5.out hb6⟩

theorem law_texts_any (a b g l c d k m : Int) (p q : Bool) (w : World) (ha : 0 ≤ a) (ha2 : a ≤ 4294967295) (hc : 0 ≤ c) (hc2 : c ≤ 4294967295) (ht : Tab w) :
    Calls Tryd.prog 4 #[.agg #[.int .u32 a, .int .i64 b, .int .i64 g, .int .i64 l, .bool p], .agg #[.int .u32 c, .int .i64 d, .int .i64 k, .int .i64 m, .bool q]] w fun e w' => e = .returned (.bool true) ∧ Below w.heap.size w w' := by
  refine law_texts a b g l c d k m p q _ _ _ _ w ha ha2 hc hc2 ht rfl rfl rfl rfl _ (fun W => eqR a b g l c d k m p q W) (show _ → _ → _ from fun h1 h2 => ?_)
  rw [ByteArray.toList_eq, ByteArray.toList_eq]
  have := Ad.rtext_inj (a, b, g, l, p) (c, d, k, m, q) ha ha2 hc hc2 h1 h2
  rw [Bool.eq_iff_iff]
  simp only [beq_iff_eq, Bool.and_eq_true]
  rw [this]
  simp [and_assoc]
end Go.Proofs.YtkpoanjcalolkaaDoor
