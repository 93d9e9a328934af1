import Derived.Test.YtkpoanjcalolkaaDoorX1
import Derived.Test.YtkpoanjcalolkaaDoorK1
import Derived.Laws.Concat
/- The contract of the document's own Text. -/
namespace Go.Proofs.YtkpoanjcalolkaaDoor
open Go.RowKit

theorem refNumber_is (n : Int) (t : ByteArray) (h0 : 0 ≤ n) (h1 : n ≤ 4294967295) (ht : t = ⟨(Lib.itoa n).toArray⟩) (w : World) :
    Calls Tryd.prog 35 #[.int .i64 n] w fun e w' => e = .returned (.string t) ∧ Below w.heap.size w w' := by
  rw [ht]
  exact refNumber_any n h0 h1 w

theorem refText_not (a b : Int) (w : World) (ha : 0 ≤ a) (ha2 : a ≤ 4294967295) (hm : Ad.may a b = false) :
    Calls Tryd.prog 34 #[.agg #[.int .u32 a, .int .i64 b]] w fun e w' => e = .returned (.string ⟨#[]⟩) ∧ Below w.heap.size w w' := by
  go_enter Tryd.func34, Tryd.ntmps34
  go_wp2_with fail
  refine (refMay_is _ _ _ hm _ ha ha2).mono ?_
  rintro e w1 ⟨rfl, hb1⟩
  go_wp2_with fail
  go_ret
  exact ⟨rfl, bthen (balloc (brefl w) _) hb1⟩

/-- Two texts joined make a third one. -/
def Adds (x y z : ByteArray) : Prop := ∀ W : World, (Op.stringOp .add x y).run Tryd.prog W = .ok (.string z) W

theorem adds_mk (x y z : ByteArray) (h : x.size + y.size ≤ maxLen) (hz : x ++ y = z) : Adds x y z := by
  intro W
  subst hz
  exact run_string_add_sum W x y h

set_option maxHeartbeats 4000000 in
set_option maxRecDepth 100000 in
theorem refText_yes (a b : Int) (t0 t1 t2 t3 t4 u0 u1 u2 u3 u4 u5 u6 u7 : ByteArray) (w : World) (ha : 0 ≤ a) (ha2 : a ≤ 4294967295) (hb0 : 0 ≤ b) (hb1 : b ≤ 32) (M : Hid (Ad.may a b = true))
    (K0 : Adds t0 ⟨#[46]⟩ u0) (K1 : Adds u0 t1 u1) (K2 : Adds u1 ⟨#[46]⟩ u2) (K3 : Adds u2 t2 u3) (K4 : Adds u3 ⟨#[46]⟩ u4) (K5 : Adds u4 t3 u5) (K6 : Adds u5 ⟨#[47]⟩ u6) (K7 : Adds u6 t4 u7)
    (N0 : Hid (t0 = ⟨(Lib.itoa (a / 16777216)).toArray⟩)) (N1 : Hid (t1 = ⟨(Lib.itoa (a / 65536 % 256)).toArray⟩)) (N2 : Hid (t2 = ⟨(Lib.itoa (a / 256 % 256)).toArray⟩)) (N3 : Hid (t3 = ⟨(Lib.itoa (a % 256)).toArray⟩)) (N4 : Hid (t4 = ⟨(Lib.itoa b).toArray⟩)) :
    Calls Tryd.prog 34 #[.agg #[.int .u32 a, .int .i64 b]] w fun e w' => e = .returned (.string u7) ∧ Below w.heap.size w w' := by
  unfold Adds at *
  go_enter Tryd.func34, Tryd.ntmps34
  go_wp2_with fail
  refine (refMay_is _ _ _ M.out _ ha ha2).mono ?_
  rintro e w1 ⟨rfl, hb1'⟩
  have T1 := two_below hb1' (n := w.heap.size) (a := a) (b := b) (by simp [go_sem]) (by simp [go_sem])
  obtain ⟨p0, p1, p2, p3⟩ := T1
  have B1 := hide (bthen (balloc (brefl w) _) hb1')
  clear hb1'
  go_wp2_with fail
  have T1 := two_of p0 p1
  obtain ⟨c0, c1⟩ := two_regrown T1
  clear p0 p1 p2 p3
  refine wp_region_quiet_below (by kernel_rfl) (by kernel_rfl) ?_
  iterate 3 (go_big_quiet_step ((go_at_call 35; exact Calls.regrown_of (refNumber_is _ t0 (by omega) (by omega) N0.out _))))
  iterate 5 (go_big_quiet_step ((go_at_call 35; exact Calls.regrown_of (refNumber_is _ t1 (by omega) (by omega) N1.out _))))
  iterate 6 (go_big_quiet_step ((go_at_call 35; exact Calls.regrown_of (refNumber_is _ t2 (by omega) (by omega) N2.out _))))
  iterate 5 (go_big_quiet_step ((go_at_call 35; exact Calls.regrown_of (refNumber_is _ t3 (by omega) (by omega) N3.out _))))
  iterate 5 (go_big_quiet_step ((go_at_call 35; exact Calls.regrown_of (refNumber_is _ t4 (by omega) (by omega) N4.out _))))
  iterate 2 (go_big_quiet_step (fail))
  refine wpQuiet_nil ?_
  rintro w8 ⟨⟨dd, os⟩, hw8⟩
  have hb8 : Below w1.heap.size w1 w8 := by rw [hw8]; exact below_regrown _ dd os
  have B8 := hide (bthen B1.out hb8)
  clear hb8 hw8 B1 c0 c1 T1
  go_wp2_with fail
  go_ret
  exact ⟨rfl, B8.out⟩

theorem refText_any (a b : Int) (w : World) (ha : 0 ≤ a) (ha2 : a ≤ 4294967295) :
    Calls Tryd.prog 34 #[.agg #[.int .u32 a, .int .i64 b]] w fun e w' => e = .returned (.string ⟨(Ad.textA a b).toArray⟩) ∧ Below w.heap.size w w' := by
  unfold Ad.textA
  cases hm : Ad.may a b
  · exact refText_not a b w ha ha2 hm
  · have hb := of_decide_eq_true hm
    have o0 : Ad.oct a 0 = a / 16777216 := by
      have e : Ad.oct a 0 = a / 16777216 % 256 := rfl
      omega
    have o1 : Ad.oct a 1 = a / 65536 % 256 := rfl
    have o2 : Ad.oct a 2 = a / 256 % 256 := rfl
    have o3 : Ad.oct a 3 = a % 256 := by
      have e : Ad.oct a 3 = a / 1 % 256 := rfl
      omega
    have l0 := Ad.itoa_len3 (a / 16777216) (by omega) (by omega)
    have l1 := Ad.itoa_len3 (a / 65536 % 256) (by omega) (by omega)
    have l2 := Ad.itoa_len3 (a / 256 % 256) (by omega) (by omega)
    have l3 := Ad.itoa_len3 (a % 256) (by omega) (by omega)
    have l4 := Ad.itoa_len3 b hb.1 (by omega)
    have sz : ∀ x : List UInt8, (⟨x.toArray⟩ : ByteArray).size = x.length := fun x => by simp [ByteArray.size]
    have K : ∀ x y : List UInt8, x.length ≤ 1000 → y.length ≤ 1000 → Adds ⟨x.toArray⟩ ⟨y.toArray⟩ ⟨(x ++ y).toArray⟩ := fun x y h1 h2 =>
      adds_mk _ _ _ (by rw [sz, sz]; unfold maxLen; omega) (Ad.ba_app x y)
    rw [if_pos rfl, Ad.textI_eq, o0, o1, o2, o3]
    have key := refText_yes a b _ _ _ _ _ _ _ _ _ _ _ _ _ w ha ha2 hb.1 hb.2.1 hm (K _ [46] (by omega) (by simp)) (K _ _ (by simp; omega) (by omega)) (K _ [46] (by simp; omega) (by simp)) (K _ _ (by simp; omega) (by omega)) (K _ [46] (by simp; omega) (by simp)) (K _ _ (by simp; omega) (by omega)) (K _ [47] (by simp; omega) (by simp)) (K _ _ (by simp; omega) (by omega)) rfl rfl rfl rfl rfl
    simpa using key
end Go.Proofs.YtkpoanjcalolkaaDoor
