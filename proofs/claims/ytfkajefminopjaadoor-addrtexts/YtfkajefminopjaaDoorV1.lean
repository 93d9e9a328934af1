/- The law AddrBack walked: it answers true at every prefix and text. -/
import Derived.Test.YtfkajefminopjaaDoorT2
import Derived.Test.YtfkajefminopjaaDoorK1
namespace Go.Proofs.YtfkajefminopjaaDoor
open Go.RowKit

theorem Ad.textA_size (a b : Int) : (⟨(Ad.textA a b).toArray⟩ : ByteArray).size ≤ 4000 := by
  have e : (⟨(Ad.textA a b).toArray⟩ : ByteArray).size = (Ad.textA a b).length := by simp [ByteArray.size]
  rw [e]
  unfold Ad.textA
  split
  · rename_i hm
    have hb := of_decide_eq_true hm
    have o := Ad.oct_bd a
    have := Ad.itoa_len3 _ (o 0).1 (by have := (o 0).2; omega)
    have := Ad.itoa_len3 _ (o 1).1 (by have := (o 1).2; omega)
    have := Ad.itoa_len3 _ (o 2).1 (by have := (o 2).2; omega)
    have := Ad.itoa_len3 _ (o 3).1 (by have := (o 3).2; omega)
    have := Ad.itoa_len3 b hb.1 (by omega)
    rw [Ad.textI_eq]
    simp
    omega
  · simp

theorem backL_long (a b : Int) (s : ByteArray) (w : World) (h : 2000 < (s.size : Int)) :
    Calls Tryd.prog 4 #[.agg #[.int .u32 a, .int .i64 b], .string s] w fun e w' => e = .returned (.bool true) ∧ Below w.heap.size w w' := by
  go_enter Tryd.func4, Tryd.ntmps4
  go_wp2_with fail
  refine (lives_any _).mono ?_
  rintro e w1 ⟨rfl, hb1⟩
  go_wp2_with fail
  go_ret
  exact ⟨rfl, bthen (balloc (brefl w) _) hb1⟩

set_option maxHeartbeats 2000000 in
set_option maxRecDepth 100000 in
theorem backL_nn (a b : Int) (s t : ByteArray) (y z f : Int) (w : World) (ha : 0 ≤ a) (ha2 : a ≤ 4294967295) (hs : (s.size : Int) ≤ 2000) (hs2 : s.size ≤ 4000) (ht : t.size ≤ 4000) (hT : Hid (Tab w))
    (M : Hid (Ad.may a b = false)) (TX : Hid (t = ⟨(Ad.textA a b).toArray⟩)) (P1 : Hid (Ad.parse t.data.toList = (0, 0, 4))) (P2 : Hid (Ad.parse s.data.toList = (y, z, f))) (hf : f ≠ 0) :
    Calls Tryd.prog 4 #[.agg #[.int .u32 a, .int .i64 b], .string s] w fun e w' => e = .returned (.bool true) ∧ Below w.heap.size w w' := by
  have hf1 : (f == 0) = false := by simpa using hf
  have hf2 : (f != 0) = true := by simpa using hf
  go_enter Tryd.func4, Tryd.ntmps4
  go_wp2_with fail
  refine (text_any a b _ ha ha2 (hT.out.on (balloc (brefl w) _))).mono ?_
  rintro e w1 ⟨rfl, hb1⟩
  rw [← TX.out]
  obtain ⟨p0, p1, p2, p3⟩ := two_below hb1 (n := w.heap.size) (a := a) (b := b) (by simp [go_sem]) (by simp [go_sem])
  have B1 := hide (bthen (balloc (brefl w) _) hb1)
  clear hb1
  go_wp2_with fail
  refine (parse_any t _ _ _ _ ht P1.out).mono ?_
  rintro e w2 ⟨rfl, hb2⟩
  rw [Ad.res]
  obtain ⟨p0, p1, p2, p3⟩ := two_below hb2 p0 p1
  have B2 := hide (bthen B1.out hb2)
  clear hb2 B1
  go_wp2_with fail
  refine (may_is _ _ _ M.out _ ha ha2).mono ?_
  rintro e w3 ⟨rfl, hb3⟩
  have B3 := hide (bthen (balloc B2.out _) hb3)
  clear hb3 B2 p0 p1 p2 p3
  go_wp2_with fail
  refine (parse_any s _ _ _ _ hs2 P2.out).mono ?_
  rintro e w4 ⟨rfl, hb4⟩
  rw [Ad.res]
  have B4 := hide (bthen B3.out hb4)
  clear hb4 B3
  go_wp2_with fail
  refine (lives_any _).mono ?_
  rintro e w5 ⟨rfl, hb5⟩
  have B5 := hide (bthen (balloc B4.out _) hb5)
  clear hb5 B4
  go_wp2_with fail
  go_ret
  exact ⟨rfl, B5.out⟩

set_option maxHeartbeats 2000000 in
set_option maxRecDepth 100000 in
theorem backL_ny (a b : Int) (s t : ByteArray) (y z f : Int) (w : World) (ha : 0 ≤ a) (ha2 : a ≤ 4294967295) (hs : (s.size : Int) ≤ 2000) (hs2 : s.size ≤ 4000) (ht : t.size ≤ 4000) (hT : Hid (Tab w))
    (M : Hid (Ad.may a b = false)) (TX : Hid (t = ⟨(Ad.textA a b).toArray⟩)) (P1 : Hid (Ad.parse t.data.toList = (0, 0, 4))) (P2 : Hid (Ad.parse s.data.toList = (y, z, f))) (F : Hid (f = 0)) (S : Hid (Ad.textI y z = s.data.toList)) (M2 : Hid (Ad.may y z = true)) (hy : 0 ≤ y) (hy2 : y ≤ 4294967295) :
    Calls Tryd.prog 4 #[.agg #[.int .u32 a, .int .i64 b], .string s] w fun e w' => e = .returned (.bool true) ∧ Below w.heap.size w w' := by
  obtain rfl : f = 0 := F.out
  go_enter Tryd.func4, Tryd.ntmps4
  go_wp2_with fail
  refine (text_any a b _ ha ha2 (hT.out.on (balloc (brefl w) _))).mono ?_
  rintro e w1 ⟨rfl, hb1⟩
  rw [← TX.out]
  obtain ⟨p0, p1, p2, p3⟩ := two_below hb1 (n := w.heap.size) (a := a) (b := b) (by simp [go_sem]) (by simp [go_sem])
  have B1 := hide (bthen (balloc (brefl w) _) hb1)
  clear hb1
  go_wp2_with fail
  refine (parse_any t _ _ _ _ ht P1.out).mono ?_
  rintro e w2 ⟨rfl, hb2⟩
  rw [Ad.res]
  obtain ⟨p0, p1, p2, p3⟩ := two_below hb2 p0 p1
  have B2 := hide (bthen B1.out hb2)
  clear hb2 B1
  go_wp2_with fail
  refine (may_is _ _ _ M.out _ ha ha2).mono ?_
  rintro e w3 ⟨rfl, hb3⟩
  have B3 := hide (bthen (balloc B2.out _) hb3)
  clear hb3 B2 p0 p1 p2 p3
  go_wp2_with fail
  refine (parse_any s _ _ _ _ hs2 P2.out).mono ?_
  rintro e w4 ⟨rfl, hb4⟩
  rw [Ad.res]
  have B4 := hide (bthen B3.out hb4)
  clear hb4 B3
  go_wp2_with fail
  refine (text_may y z _ hy hy2 M2.out ((hT.out.on B4.out).on (balloc (brefl w4) _))).mono ?_
  rintro e w5 ⟨rfl, hb5⟩
  rw [S.out, Ad.ba]
  obtain ⟨q0, q1, q2, q3⟩ := two_below hb5 (n := w4.heap.size) (a := y) (b := z) (by simp [go_sem]) (by simp [go_sem])
  have B5 := hide (bthen (balloc B4.out _) hb5)
  clear hb5 B4
  go_wp2_with fail
  refine (may_is _ _ _ M2.out _ hy hy2).mono ?_
  rintro e w6 ⟨rfl, hb6⟩
  have B6 := hide (bthen B5.out hb6)
  clear hb6 B5 q0 q1 q2 q3
  go_wp2_with fail
  refine (lives_any _).mono ?_
  rintro e w7 ⟨rfl, hb7⟩
  have B7 := hide (bthen B6.out hb7)
  clear hb7 B6
  go_wp2_with fail
  go_ret
  exact ⟨rfl, B7.out⟩

set_option maxHeartbeats 2000000 in
set_option maxRecDepth 100000 in
theorem backL_yn (a b : Int) (s t : ByteArray) (y z f : Int) (w : World) (ha : 0 ≤ a) (ha2 : a ≤ 4294967295) (hs : (s.size : Int) ≤ 2000) (hs2 : s.size ≤ 4000) (ht : t.size ≤ 4000) (hT : Hid (Tab w))
    (M : Hid (Ad.may a b = true)) (TX : Hid (t = ⟨(Ad.textA a b).toArray⟩)) (P1 : Hid (Ad.parse t.data.toList = (a, b, 0))) (P2 : Hid (Ad.parse s.data.toList = (y, z, f))) (hf : f ≠ 0) :
    Calls Tryd.prog 4 #[.agg #[.int .u32 a, .int .i64 b], .string s] w fun e w' => e = .returned (.bool true) ∧ Below w.heap.size w w' := by
  have hf1 : (f == 0) = false := by simpa using hf
  have hf2 : (f != 0) = true := by simpa using hf
  go_enter Tryd.func4, Tryd.ntmps4
  go_wp2_with fail
  refine (text_any a b _ ha ha2 (hT.out.on (balloc (brefl w) _))).mono ?_
  rintro e w1 ⟨rfl, hb1⟩
  rw [← TX.out]
  obtain ⟨p0, p1, p2, p3⟩ := two_below hb1 (n := w.heap.size) (a := a) (b := b) (by simp [go_sem]) (by simp [go_sem])
  have B1 := hide (bthen (balloc (brefl w) _) hb1)
  clear hb1
  go_wp2_with fail
  refine (parse_any t _ _ _ _ ht P1.out).mono ?_
  rintro e w2 ⟨rfl, hb2⟩
  rw [Ad.res]
  obtain ⟨p0, p1, p2, p3⟩ := two_below hb2 p0 p1
  have B2 := hide (bthen B1.out hb2)
  clear hb2 B1
  go_wp2_with fail
  refine (may_is _ _ _ M.out _ ha ha2).mono ?_
  rintro e w3 ⟨rfl, hb3⟩
  obtain ⟨q0, q1, q2, q3⟩ := two_below hb3 (n := w2.heap.size) (a := a) (b := b) (by simp [go_sem]) (by simp [go_sem])
  obtain ⟨p0, p1, p2, p3⟩ := two_below hb3 (n := w.heap.size) (a := a) (b := b) ((World.cell?_alloc_past _ _ _ p2).trans p0) ((World.cell?_alloc_past _ _ _ p2).trans p1)
  have B3 := hide (bthen (balloc B2.out _) hb3)
  clear hb3 B2
  have hgd := guardP
  have hneq : ∀ w, (binOp .neq 24 (.agg #[.int .u32 a, .int .i64 b]) (.agg #[.int .u32 a, .int .i64 b])).run Tryd.prog w = .ok (.bool false) w := by
    intro w; rw [neqP]; simp
  go_wp2_with fail
  clear hgd hneq p0 p1 p2 p3 q0 q1 q2 q3
  refine (parse_any s _ _ _ _ hs2 P2.out).mono ?_
  rintro e w4 ⟨rfl, hb4⟩
  rw [Ad.res]
  have B4 := hide (bthen B3.out hb4)
  clear hb4 B3
  go_wp2_with fail
  refine (lives_any _).mono ?_
  rintro e w5 ⟨rfl, hb5⟩
  have B5 := hide (bthen (balloc B4.out _) hb5)
  clear hb5 B4
  go_wp2_with fail
  go_ret
  exact ⟨rfl, B5.out⟩

set_option maxHeartbeats 2000000 in
set_option maxRecDepth 100000 in
theorem backL_yy (a b : Int) (s t : ByteArray) (y z f : Int) (w : World) (ha : 0 ≤ a) (ha2 : a ≤ 4294967295) (hs : (s.size : Int) ≤ 2000) (hs2 : s.size ≤ 4000) (ht : t.size ≤ 4000) (hT : Hid (Tab w))
    (M : Hid (Ad.may a b = true)) (TX : Hid (t = ⟨(Ad.textA a b).toArray⟩)) (P1 : Hid (Ad.parse t.data.toList = (a, b, 0))) (P2 : Hid (Ad.parse s.data.toList = (y, z, f))) (F : Hid (f = 0)) (S : Hid (Ad.textI y z = s.data.toList)) (M2 : Hid (Ad.may y z = true)) (hy : 0 ≤ y) (hy2 : y ≤ 4294967295) :
    Calls Tryd.prog 4 #[.agg #[.int .u32 a, .int .i64 b], .string s] w fun e w' => e = .returned (.bool true) ∧ Below w.heap.size w w' := by
  obtain rfl : f = 0 := F.out
  go_enter Tryd.func4, Tryd.ntmps4
  go_wp2_with fail
  refine (text_any a b _ ha ha2 (hT.out.on (balloc (brefl w) _))).mono ?_
  rintro e w1 ⟨rfl, hb1⟩
  rw [← TX.out]
  obtain ⟨p0, p1, p2, p3⟩ := two_below hb1 (n := w.heap.size) (a := a) (b := b) (by simp [go_sem]) (by simp [go_sem])
  have B1 := hide (bthen (balloc (brefl w) _) hb1)
  clear hb1
  go_wp2_with fail
  refine (parse_any t _ _ _ _ ht P1.out).mono ?_
  rintro e w2 ⟨rfl, hb2⟩
  rw [Ad.res]
  obtain ⟨p0, p1, p2, p3⟩ := two_below hb2 p0 p1
  have B2 := hide (bthen B1.out hb2)
  clear hb2 B1
  go_wp2_with fail
  refine (may_is _ _ _ M.out _ ha ha2).mono ?_
  rintro e w3 ⟨rfl, hb3⟩
  obtain ⟨q0, q1, q2, q3⟩ := two_below hb3 (n := w2.heap.size) (a := a) (b := b) (by simp [go_sem]) (by simp [go_sem])
  obtain ⟨p0, p1, p2, p3⟩ := two_below hb3 (n := w.heap.size) (a := a) (b := b) ((World.cell?_alloc_past _ _ _ p2).trans p0) ((World.cell?_alloc_past _ _ _ p2).trans p1)
  have B3 := hide (bthen (balloc B2.out _) hb3)
  clear hb3 B2
  have hgd := guardP
  have hneq : ∀ w, (binOp .neq 24 (.agg #[.int .u32 a, .int .i64 b]) (.agg #[.int .u32 a, .int .i64 b])).run Tryd.prog w = .ok (.bool false) w := by
    intro w; rw [neqP]; simp
  go_wp2_with fail
  clear hgd hneq p0 p1 p2 p3 q0 q1 q2 q3
  refine (parse_any s _ _ _ _ hs2 P2.out).mono ?_
  rintro e w4 ⟨rfl, hb4⟩
  rw [Ad.res]
  have B4 := hide (bthen B3.out hb4)
  clear hb4 B3
  go_wp2_with fail
  refine (text_may y z _ hy hy2 M2.out ((hT.out.on B4.out).on (balloc (brefl w4) _))).mono ?_
  rintro e w5 ⟨rfl, hb5⟩
  rw [S.out, Ad.ba]
  obtain ⟨q0, q1, q2, q3⟩ := two_below hb5 (n := w4.heap.size) (a := y) (b := z) (by simp [go_sem]) (by simp [go_sem])
  have B5 := hide (bthen (balloc B4.out _) hb5)
  clear hb5 B4
  go_wp2_with fail
  refine (may_is _ _ _ M2.out _ hy hy2).mono ?_
  rintro e w6 ⟨rfl, hb6⟩
  have B6 := hide (bthen B5.out hb6)
  clear hb6 B5 q0 q1 q2 q3
  go_wp2_with fail
  refine (lives_any _).mono ?_
  rintro e w7 ⟨rfl, hb7⟩
  have B7 := hide (bthen B6.out hb7)
  clear hb7 B6
  go_wp2_with fail
  go_ret
  exact ⟨rfl, B7.out⟩

theorem law_back (a b : Int) (s : ByteArray) (w : World) (ha : 0 ≤ a) (ha2 : a ≤ 4294967295) (hT : Tab w) :
    Calls Tryd.prog 4 #[.agg #[.int .u32 a, .int .i64 b], .string s] w fun e w' => e = .returned (.bool true) ∧ Below w.heap.size w w' := by
  by_cases hs : s.size ≤ 2000
  · have ht := Ad.textA_size a b
    obtain ⟨t, ht0⟩ : ∃ t : ByteArray, t = ⟨(Ad.textA a b).toArray⟩ := ⟨_, rfl⟩
    rw [← ht0] at ht
    have ht1 : t.data.toList = Ad.textA a b := by rw [ht0]
    obtain ⟨⟨y, z, f⟩, hp⟩ : ∃ p, Ad.parse s.data.toList = p := ⟨_, rfl⟩
    cases hm : Ad.may a b
    · have hp1 : Ad.parse t.data.toList = (0, 0, 4) := by
        rw [ht1]; unfold Ad.textA; rw [hm]; rfl
      by_cases hf : f = 0
      · have hp' := hp
        rw [hf] at hp'
        obtain ⟨g1, g2, g3, g4⟩ := Ad.text_parse _ _ _ hp'
        exact backL_ny a b s t y z f w ha ha2 (by omega) (by omega) ht hT hm ht0 hp1 hp hf g1 g2 g3 g4
      · exact backL_nn a b s t y z f w ha ha2 (by omega) (by omega) ht hT hm ht0 hp1 hp hf
    · have hp1 : Ad.parse t.data.toList = (a, b, 0) := by
        rw [ht1]; unfold Ad.textA; rw [if_pos hm]; exact Ad.parse_text a b ha ha2 hm
      by_cases hf : f = 0
      · have hp' := hp
        rw [hf] at hp'
        obtain ⟨g1, g2, g3, g4⟩ := Ad.text_parse _ _ _ hp'
        exact backL_yy a b s t y z f w ha ha2 (by omega) (by omega) ht hT hm ht0 hp1 hp hf g1 g2 g3 g4
      · exact backL_yn a b s t y z f w ha ha2 (by omega) (by omega) ht hT hm ht0 hp1 hp hf
  · exact backL_long a b s w (by omega)
end Go.Proofs.YtfkajefminopjaaDoor
